/- nat.Div and nat.Gcd of all numbers. -/
import Derived.Test.YtbcceopgmkmbfaaWLong
import Derived.Deep.LoopGhost
namespace Go.Proofs.Ytbcceopgmkmbfaa
open Go.RowKit
set_option linter.unusedVariables false

namespace M
theorem tr_last {xs : List Nat} {p : Nat} (h : (tr xs).length = p + 1) : ∃ y, (tr xs)[p]? = some y ∧ 0 < y := by
  obtain ⟨y, hy⟩ : ∃ y, (tr xs)[p]? = some y := ⟨(tr xs)[p]'(by omega), List.getElem?_eq_getElem _⟩
  refine ⟨y, hy, ?_⟩
  rcases Nat.eq_zero_or_pos y with h0 | h0
  · exfalso
    have e := tr_take_succ hy
    rw [List.take_of_length_le (by omega), h0] at e
    have h1 := tr_tr xs
    have h2 := tr_length_le ((tr xs).take p)
    rw [e, tr_snoc_zero] at h1
    have h3 := congrArg List.length h1
    rw [List.length_append, List.length_take] at h3
    rw [List.length_take] at h2
    simp at h3
    omega
  · exact h0
theorem lt_of_tr_length {xs ys : List Nat} (hx : Lim xs) (hy : Lim ys) (h : (tr xs).length < (tr ys).length) : val xs < val ys := by
  have h1 := (lims_length_le (n := val xs) (k := (tr xs).length)).1 (by rw [tr_eq_lims hx]; exact Nat.le_refl _)
  rw [tr_eq_lims hy] at h
  refine Nat.lt_of_not_le fun hc => ?_
  have := (lims_length_le (n := val ys) (k := (tr xs).length)).2 (by omega)
  omega
end M

set_option maxHeartbeats 2000000 in
theorem div_long (A : Option Addr) (n c : Nat) (xs : List Nat) (B : Option Addr) (m d : Nat) (ys : List Nat) (p : Nat) (w : World) (h : Rd w A n c xs) (k : Rd w B m d ys) (hn : n ≤ 1048576) (hm : m ≤ 1048576)
    (hp : (M.tr ys).length = p + 2) (hle : p + 2 ≤ (M.tr xs).length) : Calls Try.prog 17 #[.slice A n c, .slice B m d] w (Gives2 w (M.lims (M.val xs / M.val ys)) (M.lims (M.val xs % M.val ys)) 0) := by
  have h1 := M.tr_length_le xs
  rw [h.len] at h1
  obtain ⟨y, hy, hy0⟩ := M.tr_last (p := p + 1) hp
  have hs := h.short
  have ks := k.short
  rw [hp] at ks
  obtain ⟨nx, hnx⟩ : ∃ nx, (M.tr xs).length = nx := ⟨_, rfl⟩
  rw [hnx] at hs hle h1
  have H := Lib.hid h
  have K := Lib.hid k
  have HS := Lib.hid hs
  have KS := Lib.hid ks
  have HP := Lib.hid hp
  have HNX := Lib.hid hnx
  have HY := Lib.hid hy
  clear h k hs ks hp hnx hy
  have hne : ((nx : Int) < (p : Int) + 2) = False := by simp; omega
  have hne1 : (((p : Int) + 2) == 0) = false := by simp; omega
  have hne2 : (((p : Int) + 2) == 1) = false := by simp; omega
  go_enter Try.func17, Try.ntmps17
  go_wp2_with fail
  refine (short_any _ _ _ _ _ H.out (by omega)).mono ?_
  rw [HNX.out]
  rintro e w' ⟨rfl, rfl⟩
  go_wp2_with fail
  refine (short_any _ _ _ _ _ K.out (by omega)).mono ?_
  rw [HP.out]
  rintro e w' ⟨rfl, rfl⟩
  go_wp2_with fail
  refine (longDivide_any _ _ _ _ _ _ _ _ y _ HS.out KS.out (by omega) hle HY.out hy0).mono ?_
  rw [M.val_tr, M.val_tr]
  rintro e w1 ⟨A1, c1, B1, d1, rfl, ho1, ho2, hne, hb⟩
  go_wp2_with fail
  go_ret3
  exact ⟨A1, c1, B1, d1, rfl, ho1, ho2, hne, hb⟩

theorem div_all (A : Option Addr) (n c : Nat) (xs : List Nat) (B : Option Addr) (m d : Nat) (ys : List Nat) (w : World) (h : Rd w A n c xs) (k : Rd w B m d ys) (hn : n ≤ 1048576) (hm : m ≤ 1048576) (h0 : M.val ys ≠ 0) :
    Calls Try.prog 17 #[.slice A n c, .slice B m d] w (Gives2 w (M.lims (M.val xs / M.val ys)) (M.lims (M.val xs % M.val ys)) 0) := by
  have hpos : 0 < (M.tr ys).length := by
    refine Nat.pos_of_ne_zero fun hc => h0 ?_
    exact (M.tr_eq_nil_iff ys).1 (List.eq_nil_of_length_eq_zero hc)
  by_cases hl : (M.tr xs).length < (M.tr ys).length
  · have hlt := M.lt_of_tr_length h.Lim k.Lim hl
    rw [Nat.div_eq_of_lt hlt, Nat.mod_eq_of_lt hlt, M.lims_zero, ← M.tr_eq_lims h.Lim]
    exact div_less A n c xs B m d ys w h k hn hm hl
  · by_cases h1 : (M.tr ys).length = 1
    · obtain ⟨y, hy⟩ := List.length_eq_one_iff.1 h1
      have hv : M.val ys = y := by rw [← M.val_tr, hy, M.val_one]
      rw [hv]
      exact div_limb A n c xs B m d ys y w h k hn hm hy (by omega)
    · obtain ⟨p, hp⟩ : ∃ p, (M.tr ys).length = p + 2 := ⟨(M.tr ys).length - 2, by omega⟩
      exact div_long A n c xs B m d ys p w h k hn hm hp (by omega)

theorem M.lims_length_le_of_le {x y : Nat} {k : Nat} (h : x ≤ y) (hy : (M.lims y).length ≤ k) : (M.lims x).length ≤ k := by
  rw [M.lims_length_le] at hy ⊢
  omega

def GcdR (w : World) (G base k : Nat) (p q : Value) (wr : World) : Prop :=
  ∃ A1 n1 c1 A2 n2 c2 a, p = .slice A1 n1 c1 ∧ q = .slice A2 n2 c2 ∧ Own wr base A1 n1 c1 (M.lims a) ∧ Own wr base A2 n2 c2 (M.lims k) ∧ n1 ≤ 1048576 ∧ n2 ≤ 1048576 ∧ Nat.gcd a k = G ∧ Below base w wr

set_option maxHeartbeats 4000000 in
theorem gcd_all (A : Option Addr) (n c : Nat) (xs : List Nat) (B : Option Addr) (m d : Nat) (ys : List Nat) (w : World) (h : Rd w A n c xs) (k : Rd w B m d ys) (hn : n ≤ 1048576) (hm : m ≤ 1048576) :
    Calls Try.prog 31 #[.slice A n c, .slice B m d] w (Gives w (M.lims (Nat.gcd (M.val xs) (M.val ys)))) := by
  obtain ⟨G, hG⟩ : ∃ G, G = Nat.gcd (M.val xs) (M.val ys) := ⟨_, rfl⟩
  rw [← hG]
  have HGG := Lib.hid hG
  clear hG
  have H := Lib.hid h
  have K := Lib.hid k
  clear h k
  have hlx : (M.lims (M.val xs)).length ≤ 1048576 := by have := M.lims_val_length_le H.out.Lim; rw [H.out.len] at this; omega
  have hly : (M.lims (M.val ys)).length ≤ 1048576 := by have := M.lims_val_length_le K.out.Lim; rw [K.out.len] at this; omega
  obtain ⟨nx, hnx⟩ : ∃ nx, (M.lims (M.val xs)).length = nx := ⟨_, rfl⟩
  obtain ⟨ny, hny⟩ : ∃ ny, (M.lims (M.val ys)).length = ny := ⟨_, rfl⟩
  rw [hnx] at hlx
  rw [hny] at hly
  have HNX := Lib.hid hnx
  have HNY := Lib.hid hny
  clear hnx hny
  go_enter Try.func31, Try.ntmps31
  go_wp2_with fail
  refine (trim_any _ _ _ _ _ H.out (by omega)).mono ?_
  rw [Gives_len HNX.out]
  rintro e w1 ⟨A1, c1, rfl, ho1, hb1⟩
  have HO1 := Lib.hid ho1
  have HB1 := Lib.hid hb1
  clear ho1 hb1
  go_wp2_with fail
  refine (trim_any _ _ _ _ _ (K.out.below HB1.out) (by omega)).mono ?_
  rw [Gives_len HNY.out]
  rintro e w2 ⟨A2, c2, rfl, ho2, hb2⟩
  have HR := Lib.hid (show GcdR w G w.heap.size (M.val ys) (.slice A1 nx c1) (.slice A2 ny c2) w2 from
    ⟨A1, nx, c1, A2, ny, c2, M.val xs, rfl, rfl, HO1.out.below hb2, ho2.mono HB1.out.size, hlx, hly, HGG.out.symm, HB1.out.trans (hb2.mono HB1.out.size)⟩)
  clear ho2 hb2 HO1 HB1
  go_wp2_with fail
  go_loopg [0, 1] (M.val ys) (fun k p q wr => GcdR w G w.heap.size k p q wr)
  case atStart => exact HR.out
  case round =>
    obtain ⟨A3, n3, c3, A4, n4, c4, a, rfl, rfl, ho3, ho4, hn3, hn4, hg, hb⟩ := hrel
    have HO3 := Lib.hid ho3
    have HO4 := Lib.hid ho4
    have HG := Lib.hid hg
    have HB := Lib.hid hb
    have hl3 := ho3.len
    have hl4 := ho4.len
    have HL3 := Lib.hid hl3
    have HL4 := Lib.hid hl4
    clear HR ho3 ho4 hg hb HGG hl3 hl4 H K HNX HNY hlx hly
    by_cases h0 : n4 = 0
    · have hv : gk = 0 := by
        have := HL4.out
        rw [h0] at this
        exact M.lims_eq_nil.1 (List.eq_nil_of_length_eq_zero this)
      have HE := Lib.hid (show a = G by rw [← HG.out, hv, Nat.gcd_zero_right])
      clear hv
      subst h0
      go_wp2_with fail
      go_ret
      rw [← HE.out, Gives_len HL3.out]
      exact ⟨A3, c3, rfl, HO3.out, HB.out⟩
    · have hpos : 0 < n4 := by omega
      have hkp : 0 < gk := by
        rcases Nat.eq_zero_or_pos gk with h | h
        · have := HL4.out
          rw [h, M.lims_zero] at this
          simp at this
          omega
        · exact h
      by_cases ha : a < 18446744073709551616
      · by_cases hk : gk < 18446744073709551616
        · have hgl : G < 18446744073709551616 := by
            rw [← HG.out]
            exact Nat.lt_of_le_of_lt (Nat.gcd_le_right _ hkp) hk
          go_wp2_with fail
          refine (small_yes _ _ _ _ _ HO3.out.rd (by omega) (by rw [M.val_lims]; exact ha)).mono ?_
          rw [M.val_lims]
          rintro e w' ⟨rfl, rfl⟩
          go_wp2_with fail
          refine (small_yes _ _ _ _ _ HO4.out.rd (by omega) (by rw [M.val_lims]; exact hk)).mono ?_
          rw [M.val_lims]
          rintro e w' ⟨rfl, rfl⟩
          go_wp2_with fail
          refine (smallGcd_any _ _ _ ha hk).mono ?_
          rw [HG.out]
          rintro e w3 ⟨rfl, hb3⟩
          have HB3 := Lib.hid hb3
          clear hb3
          go_wp2_with fail
          refine (from_any _ _ (by omega) (by omega)).mono ?_
          rw [Int.toNat_natCast]
          rintro e w4 ⟨A5, c5, rfl, ho5, hb5⟩
          go_wp2_with fail
          go_ret
          have hb13 := HB.out.trans (HB3.out.mono HB.out.size)
          exact ⟨A5, c5, rfl, ho5.mono hb13.size, hb13.trans (hb5.mono hb13.size)⟩
        · go_wp2_with fail
          refine (small_yes _ _ _ _ _ HO3.out.rd (by omega) (by rw [M.val_lims]; exact ha)).mono ?_
          rw [M.val_lims]
          rintro e w' ⟨rfl, rfl⟩
          go_wp2_with fail
          refine (small_no _ _ _ _ _ HO4.out.rd (by omega) (by rw [M.val_lims]; omega)).mono ?_
          rintro e w' ⟨rfl, rfl⟩
          go_wp2_with fail
          refine (div_all _ _ _ _ _ _ _ _ _ HO3.out.rd HO4.out.rd hn3 hn4 (by rw [M.val_lims]; omega)).mono ?_
          rw [M.val_lims, M.val_lims]
          rintro e w3 ⟨A5, c5, B5, d5, rfl, ho5, ho6, hne, hb5⟩
          have hmod : a % gk < gk := Nat.mod_lt _ hkp
          have HR := Lib.hid (show GcdR w G w.heap.size (a % gk) (.slice A4 n4 c4) (.slice B5 (M.lims (a % gk)).length d5) w3 from
            ⟨A4, n4, c4, B5, _, d5, gk, rfl, rfl, HO4.out.below hb5, ho6.mono HB.out.size, hn4, M.lims_length_le_of_le (Nat.le_of_lt hmod) (by rw [HL4.out]; exact hn4), by rw [← HG.out, Nat.gcd_comm gk, ← Nat.gcd_rec gk a, Nat.gcd_comm], HB.out.trans (hb5.mono HB.out.size)⟩)
          clear ho5 ho6 hne hb5
          go_wp2_with fail
          go_roundg (a % gk)
          case measure => exact hmod
          case rel => exact HR.out
      · by_cases hk : gk < 18446744073709551616
        · go_wp2_with fail
          refine (small_no _ _ _ _ _ HO3.out.rd (by omega) (by rw [M.val_lims]; omega)).mono ?_
          rintro e w' ⟨rfl, rfl⟩
          go_wp2_with fail
          refine (small_yes _ _ _ _ _ HO4.out.rd (by omega) (by rw [M.val_lims]; exact hk)).mono ?_
          rw [M.val_lims]
          rintro e w' ⟨rfl, rfl⟩
          go_wp2_with fail
          refine (div_all _ _ _ _ _ _ _ _ _ HO3.out.rd HO4.out.rd hn3 hn4 (by rw [M.val_lims]; omega)).mono ?_
          rw [M.val_lims, M.val_lims]
          rintro e w3 ⟨A5, c5, B5, d5, rfl, ho5, ho6, hne, hb5⟩
          have hmod : a % gk < gk := Nat.mod_lt _ hkp
          have HR := Lib.hid (show GcdR w G w.heap.size (a % gk) (.slice A4 n4 c4) (.slice B5 (M.lims (a % gk)).length d5) w3 from
            ⟨A4, n4, c4, B5, _, d5, gk, rfl, rfl, HO4.out.below hb5, ho6.mono HB.out.size, hn4, M.lims_length_le_of_le (Nat.le_of_lt hmod) (by rw [HL4.out]; exact hn4), by rw [← HG.out, Nat.gcd_comm gk, ← Nat.gcd_rec gk a, Nat.gcd_comm], HB.out.trans (hb5.mono HB.out.size)⟩)
          clear ho5 ho6 hne hb5
          go_wp2_with fail
          go_roundg (a % gk)
          case measure => exact hmod
          case rel => exact HR.out
        · go_wp2_with fail
          refine (small_no _ _ _ _ _ HO3.out.rd (by omega) (by rw [M.val_lims]; omega)).mono ?_
          rintro e w' ⟨rfl, rfl⟩
          go_wp2_with fail
          refine (small_no _ _ _ _ _ HO4.out.rd (by omega) (by rw [M.val_lims]; omega)).mono ?_
          rintro e w' ⟨rfl, rfl⟩
          go_wp2_with fail
          refine (div_all _ _ _ _ _ _ _ _ _ HO3.out.rd HO4.out.rd hn3 hn4 (by rw [M.val_lims]; omega)).mono ?_
          rw [M.val_lims, M.val_lims]
          rintro e w3 ⟨A5, c5, B5, d5, rfl, ho5, ho6, hne, hb5⟩
          have hmod : a % gk < gk := Nat.mod_lt _ hkp
          have HR := Lib.hid (show GcdR w G w.heap.size (a % gk) (.slice A4 n4 c4) (.slice B5 (M.lims (a % gk)).length d5) w3 from
            ⟨A4, n4, c4, B5, _, d5, gk, rfl, rfl, HO4.out.below hb5, ho6.mono HB.out.size, hn4, M.lims_length_le_of_le (Nat.le_of_lt hmod) (by rw [HL4.out]; exact hn4), by rw [← HG.out, Nat.gcd_comm gk, ← Nat.gcd_rec gk a, Nat.gcd_comm], HB.out.trans (hb5.mono HB.out.size)⟩)
          clear ho5 ho6 hne hb5
          go_wp2_with fail
          go_roundg (a % gk)
          case measure => exact hmod
          case rel => exact HR.out

end Go.Proofs.Ytbcceopgmkmbfaa
