/- nat.Div by a number of one limb; nat.smallGcd; nat.Gcd of numbers below 2^64. -/
import Derived.Test.YtbcceopgmkmbfaaWDivOne
namespace Go.Proofs.Ytbcceopgmkmbfaa
open Go.RowKit
set_option linter.unusedVariables false

theorem OwK.head {α : Type} {K : Kd α} {w : World} {base n c : Nat} {A : Option Addr} {xs : List α} (h : OwK K w base A n c xs) (hn : 0 < n) : ∃ g, A = some ⟨g, 0, none⟩ ∧ base ≤ g ∧ g < w.heap.size := by
  rcases h.cases with ⟨_, h0, _⟩ | ⟨g, cur, hg, hb, hh, _⟩
  · omega
  · exact ⟨g, hg, hb, (Array.getElem?_eq_some_iff.1 hh).1⟩

theorem Gives_len {w : World} {xs : List Nat} {n : Nat} (h : xs.length = n) : Gives w xs = fun e w' => ∃ A c, e = .returned (.slice A n c) ∧ Own w' w.heap.size A n c xs ∧ Below w.heap.size w w' := by
  subst h
  rfl

set_option maxHeartbeats 2000000 in
theorem div_limb (A : Option Addr) (n c : Nat) (xs : List Nat) (B : Option Addr) (m d : Nat) (ys : List Nat) (y : Nat) (w : World) (h : Rd w A n c xs) (k : Rd w B m d ys) (hn : n ≤ 1048576) (hm : m ≤ 1048576)
    (hy : M.tr ys = [y]) (hx : 1 ≤ (M.tr xs).length) : Calls Try.prog 17 #[.slice A n c, .slice B m d] w (Gives2 w (M.lims (M.val xs / y)) (M.lims (M.val xs % y)) 0) := by
  have h1 := M.tr_length_le xs
  rw [h.len] at h1
  have hs := h.short
  have ks := k.short
  rw [hy] at ks
  obtain ⟨b, o, y', hB, hy', hyl, hcell⟩ := ks.at32 (i := 0) (by simp)
  simp at hy'
  subst hy'
  subst hB
  have hypos : 0 < y := by
    rcases Nat.eq_zero_or_pos y with h0 | h0
    · have := M.tr_tr ys
      rw [hy, h0] at this
      simp [M.tr] at this
    · exact h0
  rw [M.R_eq] at hyl
  rw [← M.val_tr xs]
  have hblt : b < w.heap.size := World.block_lt_of_cell? w _ hcell
  have H := Lib.hid h
  have K := Lib.hid k
  have HS := Lib.hid hs
  have HY := Lib.hid hy
  have HC := Lib.hid hcell
  clear h k hs ks hy hcell
  obtain ⟨nx, hnx⟩ : ∃ nx, (M.tr xs).length = nx := ⟨_, rfl⟩
  rw [hnx] at h1 hx HS
  have HNX := Lib.hid hnx
  clear hnx
  have hne : ((nx : Int) < 1) = False := by simp; omega
  go_enter Try.func17, Try.ntmps17
  go_wp2_with fail
  refine (short_any _ _ _ _ _ H.out (by omega)).mono ?_
  rw [HNX.out]
  rintro e w' ⟨rfl, rfl⟩
  go_wp2_with fail
  refine (short_any _ _ _ _ _ K.out (by omega)).mono ?_
  rw [HY.out]
  rintro e w' ⟨rfl, rfl⟩
  go_wp2_with fail
  refine (clone_any _ _ _ _ _ HS.out (by omega)).mono ?_
  rw [Gives_len HNX.out]
  rintro e w1 ⟨A1, c1, rfl, ho1, hb1⟩
  obtain ⟨g, rfl, hg, hg'⟩ := ho1.head (by omega)
  have hcell1 : w1.cell? ⟨b, o, none⟩ = some (.int .u32 (y : Int)) := (hb1.cell (p := ⟨b, o, none⟩) hblt).trans HC.out
  have hwr := OwK.wr (o := 0) (m := nx) ho1 (by omega)
  rw [List.drop_zero, List.take_of_length_le (by rw [HNX.out]; exact Nat.le_refl _)] at hwr
  have HO1 := Lib.hid ho1
  have HB1 := Lib.hid hb1
  have HW := Lib.hid hwr
  clear ho1 hb1 hwr
  go_wp2_with fail
  refine (divideBy_any g 0 nx c1 _ y w1 HW.out (by omega) hypos hyl).mono ?_
  rintro e w2 ⟨zs, rfl, hzl, hzs, hzv, hp⟩
  have ho2 := HO1.out.put hp (by omega) hzs
  rw [List.take_zero, List.nil_append, Nat.zero_add, hzl, List.drop_of_length_le (by rw [HNX.out]; exact Nat.le_refl _), List.append_nil] at ho2
  have hb2 : Below w.heap.size w w2 := HB1.out.grown hp.grown HB1.out.size (fun k hk => by cases hk; exact hg)
  have hlt2 : M.val (M.tr xs) % y < y := Nat.mod_lt _ hypos
  obtain ⟨r, hr⟩ : ∃ r, M.val (M.tr xs) % y = r := ⟨_, rfl⟩
  rw [hr] at hlt2 ⊢
  have hs2 := ho2.short
  have hsz : g < w2.heap.size := by rw [hp.size]; exact hg'
  rw [M.tr_eq_lims hzs, hzv] at hs2
  have hsl : (M.tr zs).length = (M.lims (M.val (M.tr xs) / y)).length := by rw [M.tr_eq_lims hzs, hzv]
  have HO2 := Lib.hid ho2
  have HB2 := Lib.hid hb2
  have HS2 := Lib.hid hs2
  have HSL := Lib.hid hsl
  have HR := Lib.hid hr
  clear ho2 hb2 hs2 hzs hzv hp hr hsl hzl
  go_wp2_with fail
  refine (short_any _ _ _ _ _ HO2.out.rd (by omega)).mono ?_
  rw [HSL.out]
  rintro e w' ⟨rfl, rfl⟩
  go_wp2_with fail
  refine (from_any _ _ (by omega) (by omega)).mono ?_
  rw [Int.toNat_natCast]
  rintro e w3 ⟨B3, c3, rfl, ho3, hb3⟩
  go_wp2_with fail
  go_ret3
  rw [HR.out]
  refine ⟨_, _, B3, c3, rfl, HS2.out.below hb3, ho3.mono HB2.out.size, ?_, HB2.out.trans (hb3.mono HB2.out.size)⟩
  intro p q hp hq e
  cases hp
  have := (ho3.lt hq).1
  dsimp only at e
  omega

set_option maxHeartbeats 1000000 in
theorem smallGcd_any (x y : Nat) (w : World) (hx : x < 18446744073709551616) (hy : y < 18446744073709551616) :
    Calls Try.prog 57 #[.int .u64 (x : Int), .int .u64 (y : Int)] w fun e w' => e = .returned (.int .u64 (Nat.gcd x y : Nat)) ∧ Below w.heap.size w w' := by
  go_enter Try.func57, Try.ntmps57
  go_wp2
  go_loopw [0, 1] (fun p q wr => ∃ a b : Nat, p = .int .u64 a ∧ q = .int .u64 b ∧ a < 18446744073709551616 ∧ b < 18446744073709551616 ∧ Nat.gcd a b = Nat.gcd x y ∧ Below w.heap.size w wr) (fun _ q _ => (intOf q).toNat)
  case atStart => exact ⟨x, y, rfl, rfl, hx, hy, rfl, Below.refl _ _⟩
  case round =>
    obtain ⟨a, b, rfl, rfl, ha, hb, hg, hB⟩ := hrel
    have HG := Lib.hid hg
    have HB := Lib.hid hB
    clear hg hB
    by_cases hb0 : b = 0
    · subst hb0
      have HG2 := Lib.hid (show a = Nat.gcd x y by rw [← HG.out, Nat.gcd_zero_right])
      go_wp2
      go_ret
      exact ⟨ret_int (by rw [← HG2.out]), HB.out⟩
    · have hbne : ((b : Int) != 0) = true := by simp; omega
      have hbp : 0 < b := by omega
      obtain ⟨r, hr⟩ : ∃ r : Nat, r = a % b := ⟨_, rfl⟩
      have hrl : r < b := by rw [hr]; exact Nat.mod_lt _ hbp
      have hg2 : Nat.gcd b r = Nat.gcd x y := by rw [← HG.out, hr, Nat.gcd_comm a b, Nat.gcd_rec b a, Nat.gcd_comm]
      have hr2 : (a : Int) % (b : Int) = r := by rw [hr]; simp
      have HG2 := Lib.hid hg2
      clear hg2 hr hb0 HG
      go_wp2
      go_quiet (fail)
      go_wp2
      go_roundw
      case rel => exact ⟨b, r, rfl, by go_num, hb, by omega, HG2.out, below_drewN HB.out _⟩
      case measure => simp [intOf]; omega

set_option maxHeartbeats 2000000 in
theorem gcd_small (A : Option Addr) (n c : Nat) (xs : List Nat) (B : Option Addr) (m d : Nat) (ys : List Nat) (w : World) (h : Rd w A n c xs) (k : Rd w B m d ys) (hn : n ≤ 1048576) (hm : m ≤ 1048576)
    (hx : M.val xs < 18446744073709551616) (hy : M.val ys < 18446744073709551616) : Calls Try.prog 31 #[.slice A n c, .slice B m d] w (Gives w (M.lims (Nat.gcd (M.val xs) (M.val ys)))) := by
  have H := Lib.hid h
  have K := Lib.hid k
  clear h k
  have hlx : (M.lims (M.val xs)).length ≤ 1048576 := by have := M.lims_val_length_le H.out.Lim; rw [H.out.len] at this; omega
  have hly : (M.lims (M.val ys)).length ≤ 1048576 := by have := M.lims_val_length_le K.out.Lim; rw [K.out.len] at this; omega
  have e1 := M.val_lims (M.val xs)
  have e2 := M.val_lims (M.val ys)
  obtain ⟨nx, hnx⟩ : ∃ nx, (M.lims (M.val xs)).length = nx := ⟨_, rfl⟩
  obtain ⟨ny, hny⟩ : ∃ ny, (M.lims (M.val ys)).length = ny := ⟨_, rfl⟩
  rw [hnx] at hlx
  rw [hny] at hly
  have HNX := Lib.hid hnx
  have HNY := Lib.hid hny
  have E1 := Lib.hid e1
  have E2 := Lib.hid e2
  clear hnx hny e1 e2
  go_enter Try.func31, Try.ntmps31
  go_wp2_with fail
  refine (trim_any _ _ _ _ _ H.out (by omega)).mono ?_
  rw [Gives_len HNX.out]
  rintro e w1 ⟨A1, c1, rfl, ho1, hb1⟩
  have HO1 := Lib.hid ho1
  have HB1 := Lib.hid hb1
  clear ho1 hb1
  go_wp2_with fail
  refine (trim_any _ _ _ _ _ (K.out.below HB1.out) (by omega)).mono ?_
  rw [Gives_len HNY.out]
  rintro e w2 ⟨A2, c2, rfl, ho2, hb2⟩
  have HO2 := Lib.hid ho2
  have HB2 := Lib.hid hb2
  clear ho2 hb2
  go_wp2_with fail
  go_loop [0, 1] (fun p q => p = .slice A1 nx c1 ∧ q = .slice A2 ny c2) (fun _ _ => 0)
  case atStart => exact ⟨rfl, rfl⟩
  case round =>
    obtain ⟨rfl, rfl⟩ := hrel
    have hO1 := HO1.out.below HB2.out
    have HO1' := Lib.hid hO1
    clear hO1
    by_cases h0 : ny = 0
    · have hv : M.val ys = 0 := by
        have := HNY.out
        rw [h0] at this
        exact M.lims_eq_nil.1 (List.eq_nil_of_length_eq_zero this)
      have HG := Lib.hid (show Nat.gcd (M.val xs) (M.val ys) = M.val xs by rw [hv, Nat.gcd_zero_right])
      clear hv
      subst h0
      go_wp2_with fail
      go_ret
      rw [HG.out, Gives_len HNX.out]
      exact ⟨A1, c1, rfl, HO1'.out, HB1.out.trans (HB2.out.mono HB1.out.size)⟩
    · have hpos : 0 < ny := by omega
      have hgl : Nat.gcd (M.val xs) (M.val ys) < 18446744073709551616 := by
        have h1 : 0 < M.val ys := by
          rcases Nat.eq_zero_or_pos (M.val ys) with h | h
          · have := HNY.out
            rw [h, M.lims_zero] at this
            simp at this
            omega
          · exact h
        exact Nat.lt_of_le_of_lt (Nat.gcd_le_right _ h1) hy
      go_wp2_with fail
      refine (small_yes _ _ _ _ _ HO1'.out.rd (by omega) (by rw [E1.out]; exact hx)).mono ?_
      rw [E1.out]
      rintro e w' ⟨rfl, rfl⟩
      go_wp2_with fail
      refine (small_yes _ _ _ _ _ HO2.out.rd (by omega) (by rw [E2.out]; exact hy)).mono ?_
      rw [E2.out]
      rintro e w' ⟨rfl, rfl⟩
      go_wp2_with fail
      refine (smallGcd_any _ _ _ hx hy).mono ?_
      rintro e w3 ⟨rfl, hb3⟩
      have HB3 := Lib.hid hb3
      clear hb3
      go_wp2_with fail
      refine (from_any _ _ (by omega) (by omega)).mono ?_
      rw [Int.toNat_natCast]
      rintro e w4 ⟨A4, c4, rfl, ho4, hb4⟩
      go_wp2_with fail
      go_ret
      have hb12 := HB1.out.trans (HB2.out.mono HB1.out.size)
      have hb13 := hb12.trans (HB3.out.mono hb12.size)
      exact ⟨A4, c4, rfl, ho4.mono hb13.size, hb13.trans (hb4.mono hb13.size)⟩

end Go.Proofs.Ytbcceopgmkmbfaa
