/- nat.takeTimes: takes a row, so many times, out of another one in its own room. -/
import Derived.Test.YtbhgbilhoonopaaGreatMD
import Derived.Test.YtbhgbilhoonopaaGreatMG
import Derived.Test.YtbhgbilhoonopaaGreatMA
import Derived.Test.YtbhgbilhoonopaaGreatMB
namespace Go.Proofs.YtbhgbilhoonopaaGreat
open Go.RowKit
set_option linter.unusedVariables false

def TakeT (w : World) (g o : Nat) (U T n : Nat) (e : Ending) (w' : World) : Prop :=
  ∃ (ys : List Nat) (bo : Nat), e = .returned (.bool (decide (bo ≠ 0))) ∧ bo ≤ 1 ∧ ys.length = n + 1 ∧ M.Lim ys ∧ U + M.R ^ (n + 1) * bo = M.val ys + T ∧ PutK kU32 w w' g o ys

set_option maxHeartbeats 2000000 in
theorem takeTimes_any (g o n c : Nat) (us : List Nat) (A : Option Addr) (c' : Nat) (vs : List Nat) (t : Nat) (w : World) (h : WrK kU32 w g o (n + 1) us) (h' : Rd w A n c' vs) (hne : ∀ p, A = some p → 0 < n → p.block ≠ g)
    (hn : n ≤ 4194303) (ht : t < 4294967296) :
    Calls Tryz.prog 171 #[.slice (some ⟨g, o, none⟩) (n + 1) c, .slice A n c', .int .u32 (t : Int)] w (TakeT w g o (M.val us) (t * M.val vs) n) := by
  have H := Lib.hid h
  have H' := Lib.hid h'
  have HNE := Lib.hid hne
  clear h h' hne
  go_enter Tryz.func171, Tryz.ntmps171
  go_wp2
  go_loopw [7, 8, 14] (fun q b i wr => ∃ (k cy bo : Nat) (zs : List Nat), k ≤ n ∧ i = .int .i64 k ∧ q = .int .u64 cy ∧ b = .int .u32 bo ∧ cy < 4294967296 ∧ bo ≤ 1 ∧ zs.length = k ∧ M.Lim zs ∧
      M.val (us.take k) + M.R ^ k * (bo + cy) = M.val zs + t * M.val (vs.take k) ∧ PutK kU32 w wr g o zs) (fun _ _ i _ => n - (intOf i).toNat)
  case atStart => exact ⟨0, 0, 0, [], Nat.zero_le _, rfl, rfl, rfl, by omega, by omega, rfl, M.Lim.nil, rfl, PutK.start H.out _⟩
  case round =>
    obtain ⟨k, cy, bo, zs, hk, rfl, rfl, rfl, hcy, hbo, hzl, hzs, hv, hp⟩ := hrel
    have HZL := Lib.hid hzl
    have HZS := Lib.hid hzs
    have HV := Lib.hid hv
    have HP := Lib.hid hp
    clear hzl hzs hv hp
    by_cases hkn : k < n
    · obtain ⟨b1, o1, u, hA, hu, hul, hcellu⟩ := (H.out.rd (c := n + 1) (Nat.le_refl _)).at32 (show k < n + 1 by omega)
      injection hA with hA
      injection hA with hA hA'
      subst hA hA'
      obtain ⟨b, o', v, hA, hvv, hvl, hcellv⟩ := (H'.out.put HP.out HNE.out).at32 hkn
      subst hA
      have hfz := HP.out.frozen (o + k)
      have hcellu' : wr.cell? ⟨g, o + k, none⟩ = some (.int .u32 (u : Int)) := by rw [HP.out.cellOut (by rw [HZL.out]; omega)]; exact hcellu
      have hpl := M.limb_mul_le (t := t) hvl (by rw [M.R_eq]; exact ht)
      obtain ⟨p, hp⟩ : ∃ p : Nat, p = v * t := ⟨_, rfl⟩
      rw [← hp] at hpl
      have hp2 : (v : Int) * (t : Int) = (p : Int) := by rw [hp]; simp
      have hd0 := Nat.mod_lt (cy + p) M.R_pos
      rw [M.R_eq] at hvl hul
      obtain ⟨d, hd⟩ : ∃ d : Nat, d = (cy + p) % M.R := ⟨_, rfl⟩
      obtain ⟨q, hq⟩ : ∃ q : Nat, q = (cy + p) / M.R := ⟨_, rfl⟩
      rw [← hd, M.R_eq] at hd0
      have hql : q < 4294967296 := by rw [hq, M.R_eq]; omega
      have hd2 : ((cy : Int) + (p : Int)) % 4294967296 = d := by rw [hd, M.R_eq]; omega
      have hq2 : ((cy : Int) + (p : Int)) / 4294967296 = q := by rw [hq, M.R_eq]; omega
      have hstep : ∀ z bo', u + 4294967296 * bo' = z + d + bo → M.val (us.take (k + 1)) + M.R ^ (k + 1) * (bo' + q) = M.val (zs ++ [z]) + t * M.val (vs.take (k + 1)) := by
        intro z bo' hz
        have := M.take_step hu hvv HZL.out HV.out (z := z) (bo' := bo') (by rw [← hp, ← hd, M.R_eq]; exact hz)
        rw [← hp, ← hq] at this
        exact this
      have HST := Lib.hid hstep
      have HC := Lib.hid hcellu
      clear hcellu hvv hu hd hq hstep hp
      go_wp2_with fail
      refine (sub32_any u d bo _ hul hd0 hbo).mono ?_
      rintro e w' ⟨z, bo', rfl, hz, hbo', hsum, rfl⟩
      have HSUM := Lib.hid hsum
      clear hsum
      go_wp2
      go_roundw
      case rel =>
        have hc2 := HC.out
        rw [← HZL.out] at hc2
        have hp3 := HP.out.snoc z hc2
        rw [HZL.out] at hp3
        exact ⟨k + 1, q, bo', zs ++ [z], by omega, by go_num, by go_num, by go_num, hql, hbo', by simp [HZL.out], M.Lim.append HZS.out (M.Lim.cons (by rw [M.R_eq]; exact hz) M.Lim.nil), HST.out z bo' HSUM.out, hp3⟩
      case measure => simp [intOf]; omega
    · obtain rfl : k = n := by omega
      obtain ⟨b1, o1, u, hA, hu, hul, hcellu⟩ := (H.out.rd (c := k + 1) (Nat.le_refl _)).at32 (show k < k + 1 by omega)
      injection hA with hA
      injection hA with hA hA'
      subst hA hA'
      have hfz := HP.out.frozen (o + k)
      have hcellu' : wr.cell? ⟨g, o + k, none⟩ = some (.int .u32 (u : Int)) := by rw [HP.out.cellOut (by rw [HZL.out]; omega)]; exact hcellu
      have hmod : (cy : Int) % 4294967296 = cy := by omega
      rw [M.R_eq] at hul
      have hv := HV.out
      rw [List.take_of_length_le (l := vs) (by rw [H'.out.len]; exact Nat.le_refl _)] at hv
      have hlast : ∀ z bo', u + 4294967296 * bo' = z + cy + bo → M.val us + M.R ^ (k + 1) * bo' = M.val (zs ++ [z]) + t * M.val vs := fun z bo' hz => M.take_last hu H.out.len HZL.out hv (by rw [M.R_eq]; exact hz)
      have HLAST := Lib.hid hlast
      have HC := Lib.hid hcellu
      clear hcellu hu hv hlast
      go_wp2_with fail
      refine (sub32_any u cy bo _ hul hcy hbo).mono ?_
      rintro e w' ⟨z, bo', rfl, hz, hbo', hsum, rfl⟩
      have HSUM := Lib.hid hsum
      clear hsum
      go_wp2
      go_ret
      have hc2 := HC.out
      rw [← HZL.out] at hc2
      have hp3 := HP.out.snoc z hc2
      rw [HZL.out] at hp3
      refine ⟨zs ++ [z], bo', ret_bool ?_, hbo', by simp [HZL.out], M.Lim.append HZS.out (M.Lim.cons (by rw [M.R_eq]; exact hz) M.Lim.nil), HLAST.out z bo' HSUM.out, hp3⟩
      rcases (show bo' = 0 ∨ bo' = 1 by omega) with rfl | rfl <;> rfl

end Go.Proofs.YtbhgbilhoonopaaGreat

/- nat.guessTimes: the quotient of three limbs by two, at most 2^32 - 1. -/
namespace Go.Proofs.YtbhgbilhoonopaaGreat
open Go.RowKit
set_option linter.unusedVariables false

def GuessP (w : World) (t3 b2 : Nat) (e : Ending) (w' : World) : Prop := ∃ (g k : Nat), e = .returned (.int .u32 (g : Int)) ∧ M.Guess t3 b2 g ∧ w' = w.drewN k

theorem drewN_drewN (w : World) (a b : Nat) : (w.drewN a).drewN b = w.drewN (a + b) := by
  simp [World.drewN, Nat.add_assoc]

theorem drew_tr {w wr : World} {a b : Nat} (h : wr = w.drewN a) : wr.drewN b = w.drewN (a + b) := by rw [h, drewN_drewN]

theorem guess_or (r0 left : Nat) (h1 : r0 < 4294967296) (h2 : left < 4294967296) : bits .or .u64 ((left : Int) * 4294967296) (r0 : Int) = ((left * 4294967296 + r0 : Nat) : Int) := by
  rw [or_hi_lo r0 left h1 h2, Nat.mul_comm]

set_option maxHeartbeats 4000000 in
theorem guess_any (b o ca b' o' cb r0 r1 r2 b0 b1 : Nat) (w : World) (c0 : w.cell? ⟨b, o, none⟩ = some (.int .u32 (r0 : Int))) (c1 : w.cell? ⟨b, o + 1, none⟩ = some (.int .u32 (r1 : Int))) (c2 : w.cell? ⟨b, o + 2, none⟩ = some (.int .u32 (r2 : Int)))
    (d0 : w.cell? ⟨b', o', none⟩ = some (.int .u32 (b0 : Int))) (d1 : w.cell? ⟨b', o' + 1, none⟩ = some (.int .u32 (b1 : Int))) (h0 : r0 < 4294967296) (h1 : r1 < 4294967296) (h2 : r2 ≤ b1) (g0 : b0 < 4294967296) (g1 : b1 < 4294967296) (g2 : 2147483648 ≤ b1) :
    Calls Tryz.prog 170 #[.slice (some ⟨b, o, none⟩) 3 ca, .slice (some ⟨b', o', none⟩) 2 cb] w (GuessP w ((r2 * M.R + r1) * M.R + r0) (b1 * M.R + b0)) := by
  obtain ⟨top, htop⟩ : ∃ top, top = r2 * 4294967296 + r1 := ⟨_, rfl⟩
  have hor := guess_or r1 r2 h1 (by omega)
  rw [← htop] at hor
  have htl : top < 18446744073709551616 := by omega
  obtain ⟨q, hq⟩ : ∃ q : Nat, q = top / b1 := ⟨_, rfl⟩
  obtain ⟨r, hr⟩ : ∃ r : Nat, r = top % b1 := ⟨_, rfl⟩
  have hq2 : (top : Int) / (b1 : Int) = q := by rw [hq]; simp
  have hr2 : (top : Int) % (b1 : Int) = r := by rw [hr]; simp
  have hrl : r < b1 := by rw [hr]; exact Nat.mod_lt _ (by omega)
  have hql : q ≤ 4294967297 := by rw [hq, htop]; exact M.guess_start g2 h2 (by rw [M.R_eq]; exact h1)
  have hstart := M.Better.start (b0 := b0) (b1 := b1) (r0 := r0) (top := top) (by omega) (by rw [M.R_eq]; exact h0)
  rw [← hq, ← hr] at hstart
  have ht3 : (r2 * M.R + r1) * M.R + r0 = top * M.R + r0 := by rw [htop, M.R_eq]
  rw [ht3]
  have htop2 : top * M.R + r0 < (b1 * M.R + M.R) * M.R := by rw [M.R_eq]; omega
  have HS := Lib.hid hstart
  have HT := Lib.hid htop2
  have hb1p : 1 ≤ b1 := by omega
  clear hstart htop2 ht3 htop hq hr
  go_enter Tryz.func170, Tryz.ntmps170
  go_wp2
  go_quiet (fail)
  go_wp2
  go_quiet (fail)
  go_wp2
  go_loopw [6, 7] (fun gq lq wr => ∃ g left j : Nat, gq = .int .u64 g ∧ lq = .int .u64 left ∧ M.Better (top * M.R + r0) b0 b1 r0 g left ∧ g ≤ 4294967297 ∧ left < 8589934592 ∧ wr = w.drewN j) (fun gq _ _ => (intOf gq).toNat)
  case atStart =>
    refine ⟨q, r, _, by first | rfl | exact congrArg (Value.int .u64) hq2 | (rw [hq2]), by first | rfl | exact congrArg (Value.int .u64) hr2 | (rw [hr2]), HS.out, hql, by omega, drewN_drewN _ _ _⟩
  case round =>
    obtain ⟨g, left, j, rfl, rfl, hbet, hgl, hleft, hwr⟩ := hrel
    have c0' : wr.cell? ⟨b, o, none⟩ = some (.int .u32 (r0 : Int)) := by rw [hwr]; exact c0
    have d0' : wr.cell? ⟨b', o', none⟩ = some (.int .u32 (b0 : Int)) := by rw [hwr]; exact d0
    have d1' : wr.cell? ⟨b', o' + 1, none⟩ = some (.int .u32 (b1 : Int)) := by rw [hwr]; exact d1
    have HW := Lib.hid hwr
    have HBE := Lib.hid hbet
    clear hwr hbet c0 c1 c2 d0 d1 HS
    obtain ⟨p, hp⟩ : ∃ p, p = g * b0 := ⟨_, rfl⟩
    have hpl : p ≤ 18446744073709551615 := by
      rw [hp]
      have : g * b0 ≤ 4294967297 * 4294967295 := Nat.mul_le_mul hgl (by omega)
      omega
    have hp2 : (g : Int) * (b0 : Int) = (p : Int) := by rw [hp]; simp
    have HP := Lib.hid hp
    clear hp
    by_cases hl : left < 4294967296
    · have l1 : decide ((left : Int) ≤ 4294967295) = true := by simp; omega
      have hor2 := guess_or r0 left h0 hl
      obtain ⟨lo, hlo⟩ : ∃ lo, lo = left * 4294967296 + r0 := ⟨_, rfl⟩
      rw [← hlo] at hor2
      have HLO := Lib.hid hlo
      clear hlo
      by_cases hg : 4294967295 < g
      · have l2 : decide ((4294967295 : Int) < (g : Int)) = true := by simp; omega
        have HST := Lib.hid (HBE.out.step (by omega) (.inl (by rw [M.R_eq]; omega)))
        go_wp2
        go_quiet (fail)
        go_wp2
        go_roundw
        case rel =>
          refine ⟨g - 1, left + b1, _, by go_num, by go_num, HST.out, by omega, by omega, drew_tr HW.out⟩
        case measure => simp [intOf]; omega
      · have l2 : decide ((4294967295 : Int) < (g : Int)) = false := by simp; omega
        by_cases hc : lo < p
        · have l3 : decide ((lo : Int) < (p : Int)) = true := by simp; omega
          have hg1 : 1 ≤ g := by
            rcases Nat.eq_zero_or_pos g with h | h
            · have := HP.out
              rw [h, Nat.zero_mul] at this
              omega
            · exact h
          have HST := Lib.hid (HBE.out.step hg1 (.inr (HBE.out.test.1 (by rw [M.R_eq, ← HP.out, ← HLO.out]; exact hc))))
          go_wp2
          go_quiet (fail)
          go_wp2
          go_roundw
          case rel =>
            refine ⟨g - 1, left + b1, _, by go_num, by go_num, HST.out, by omega, by omega, drew_tr HW.out⟩
          case measure => simp [intOf]; omega
        · have l3 : decide ((lo : Int) < (p : Int)) = false := by simp; omega
          have HST := Lib.hid (HBE.out.done (by rw [M.R_eq]; exact g0) (by rw [M.R_eq]; exact h0) (by omega) HT.out (.inr ⟨by rw [M.R_eq]; omega, fun hcc => by have := HBE.out.test.2 hcc; rw [M.R_eq, ← HP.out, ← HLO.out] at this; exact hc this⟩))
          go_wp2
          go_quiet (fail)
          go_wp2
          go_ret
          refine ⟨g, _, ret_int (by omega), HST.out, drew_tr HW.out⟩
    · have l1 : decide ((left : Int) ≤ 4294967295) = false := by simp; omega
      have HST := Lib.hid (HBE.out.done (by rw [M.R_eq]; exact g0) (by rw [M.R_eq]; exact h0) (by omega) HT.out (.inl (by rw [M.R_eq]; omega)))
      have hgR := HST.out.1
      rw [M.R_eq] at hgR
      go_wp2
      go_quiet (fail)
      go_wp2
      go_ret
      refine ⟨g, _, ret_int (by omega), HST.out, drew_tr HW.out⟩

end Go.Proofs.YtbhgbilhoonopaaGreat

/- nat.divideLimb: one limb of a long division. -/
namespace Go.Proofs.YtbhgbilhoonopaaGreat
open Go.RowKit
set_option linter.unusedVariables false

namespace M
theorem Guess.exists (t3 b2 : Nat) (hb : 0 < b2) : Guess t3 b2 (min (t3 / b2) (R - 1)) := by
  have hR := R_pos
  have h1 : min (t3 / b2) (R - 1) ≤ t3 / b2 := Nat.min_le_left _ _
  refine ⟨by have := Nat.min_le_right (t3 / b2) (R - 1); omega, Nat.le_trans (Nat.mul_le_mul_right _ h1) (Nat.div_mul_le_self _ _), ?_⟩
  by_cases h : t3 / b2 ≤ R - 1
  · right
    rw [Nat.min_eq_left h, Nat.add_mul, Nat.one_mul, Nat.mul_comm]
    have := Nat.lt_mul_div_succ t3 hb
    rw [Nat.mul_add, Nat.mul_one] at this
    exact this
  · left
    rw [Nat.min_eq_right (by omega)]
    omega
theorem Guess.uniq {t3 b2 g g' : Nat} (h : Guess t3 b2 g) (h' : Guess t3 b2 g') : g = g' := by
  have aux : ∀ {x y : Nat}, Guess t3 b2 x → Guess t3 b2 y → ¬ x < y := by
    intro x y hx hy hlt
    obtain ⟨_, _, h3⟩ := hx
    obtain ⟨k1, k2, _⟩ := hy
    rcases h3 with h3 | h3
    · omega
    · have : (x + 1) * b2 ≤ y * b2 := Nat.mul_le_mul_right _ hlt
      omega
  have := aux h h'
  have := aux h' h
  omega

/-- Was it too often? -/
theorem take_bo {U V g P y bo : Nat} (hy : y < P) (hb : bo ≤ 1) (h : U + P * bo = y + g * V) : (g * V ≤ U ∧ bo = 0 ∧ y = U - g * V) ∨ (U < g * V ∧ bo = 1 ∧ y + g * V = U + P) := by
  rcases (show bo = 0 ∨ bo = 1 by omega) with rfl | rfl
  · left
    rw [Nat.mul_zero] at h
    omega
  · right
    rw [Nat.mul_one] at h
    omega

/-- Once back. -/
theorem take_back {P X yt t zv cy V : Nat} (hX : X < P) (hz : zv < P) (h1 : yt + P * t + V = X + P * R) (h2 : zv + P * cy = yt + V) : t + cy = R ∧ zv = X := by
  have e : P * (t + cy) = P * t + P * cy := Nat.mul_add _ _ _
  have h3 : t + cy = R := by
    rcases Nat.lt_trichotomy (t + cy) R with h | h | h
    · have : P * (t + cy + 1) ≤ P * R := Nat.mul_le_mul_left _ h
      rw [Nat.mul_add, Nat.mul_one] at this
      omega
    · exact h
    · have : P * (R + 1) ≤ P * (t + cy) := Nat.mul_le_mul_left _ h
      rw [Nat.mul_add, Nat.mul_one] at this
      omega
  refine ⟨h3, ?_⟩
  rw [h3] at e
  omega

/-- The highest limb is at most the divisor's. -/
theorem top_le {P U V b1 r2 : Nat} (hU : U < V * R) (h1 : r2 * (P * R) ≤ U) (h2 : V < (b1 + 1) * P) : r2 ≤ b1 := by
  refine Nat.le_of_lt_succ ?_
  refine Nat.lt_of_not_le fun hc => ?_
  have e1 : (b1 + 1) * (P * R) ≤ r2 * (P * R) := Nat.mul_le_mul_right _ hc
  have e2 : V * R < (b1 + 1) * P * R := Nat.mul_lt_mul_of_pos_right h2 R_pos
  rw [Nat.mul_assoc] at e2
  omega
end M

section
variable {α : Type} {K : Kd α} {w w1 w2 : World} {g o : Nat} {xs ys : List α}
theorem PutK.over (h : PutK K w w1 g o xs) (h' : PutK K w1 w2 g o ys) (hl : ys.length = xs.length) : PutK K w w2 g o ys := by
  obtain ⟨cur, cur', h1, h2, hs, h3, h4⟩ := h.blk
  obtain ⟨c1, c2, k1, k2, ks, k3, k4⟩ := h'.blk
  rw [h2] at k1
  injection k1 with k1
  injection k1 with k1
  subst k1
  refine ⟨⟨h'.grown.os.trans h.grown.os, h'.grown.tape.trans h.grown.tape, h'.grown.output.trans h.grown.output, Nat.le_trans h.grown.size h'.grown.size, fun k hk hne => ?_⟩, h'.size.trans h.size, cur, c2, h1, k2, ks.trans hs, k3, fun j hj => ?_⟩
  · exact (h'.grown.block k (by have := h.grown.size; omega) hne).trans (h.grown.block k hk hne)
  · rw [k4 j hj, h4 j (by omega)]
theorem PutK.ofDrewN {k : Nat} (h : PutK K (w.drewN k) w1 g o xs) : PutK K w w1 g o xs := ⟨⟨h.grown.os, h.grown.tape, h.grown.output, h.grown.size, h.grown.block⟩, h.size, h.blk⟩
theorem WrK.drewN {n : Nat} (h : WrK K w g o n xs) (k : Nat) : WrK K (w.drewN k) g o n xs := ⟨h.len, h.lim, h.blk⟩
theorem WrK.take {n m : Nat} (h : WrK K w g o n xs) (hm : m ≤ n) : WrK K w g o m (xs.take m) := by
  obtain ⟨cur, hh, hx⟩ := h.blk
  refine ⟨by rw [List.length_take, h.len]; omega, fun x hx => h.lim x (List.mem_of_mem_take hx), cur, hh, fun i x hi => ?_⟩
  rw [List.getElem?_take] at hi
  split at hi
  · exact hx i x hi
  · cases hi
theorem RdK.drewN {A : Option Addr} {n c : Nat} (h : RdK K w A n c xs) (k : Nat) : RdK K (w.drewN k) A n c xs := ⟨h.len, h.cap, h.nil, h.lim, h.cells⟩
end

/-- The guess by its own number. -/
theorem guess_q (b o ca b' o' cb r0 r1 r2 b0 b1 G : Nat) (w : World) (c0 : w.cell? ⟨b, o, none⟩ = some (.int .u32 (r0 : Int))) (c1 : w.cell? ⟨b, o + 1, none⟩ = some (.int .u32 (r1 : Int))) (c2 : w.cell? ⟨b, o + 2, none⟩ = some (.int .u32 (r2 : Int)))
    (d0 : w.cell? ⟨b', o', none⟩ = some (.int .u32 (b0 : Int))) (d1 : w.cell? ⟨b', o' + 1, none⟩ = some (.int .u32 (b1 : Int))) (h0 : r0 < 4294967296) (h1 : r1 < 4294967296) (h2 : r2 ≤ b1) (g0 : b0 < 4294967296) (g1 : b1 < 4294967296) (g2 : 2147483648 ≤ b1)
    (hG : M.Guess ((r2 * M.R + r1) * M.R + r0) (b1 * M.R + b0) G) :
    Calls Tryz.prog 170 #[.slice (some ⟨b, o, none⟩) 3 ca, .slice (some ⟨b', o', none⟩) 2 cb] w fun e w' => e = .returned (.int .u32 (G : Int)) ∧ ∃ m, w' = w.drewN m := by
  refine (guess_any b o ca b' o' cb r0 r1 r2 b0 b1 w c0 c1 c2 d0 d1 h0 h1 h2 g0 g1 g2).mono ?_
  rintro e w' ⟨g, k, rfl, hg, rfl⟩
  rw [hg.uniq hG]
  exact ⟨rfl, k, rfl⟩

def DivT (w : World) (g o U V n : Nat) (e : Ending) (w' : World) : Prop :=
  ∃ (ys : List Nat), e = .returned (.int .u32 ((U / V : Nat) : Int)) ∧ ys.length = n + 1 ∧ M.Lim ys ∧ M.val ys = U % V ∧ PutK kU32 w w' g o ys

set_option maxHeartbeats 4000000 in
theorem divideLimb_any (g o m c : Nat) (us : List Nat) (b' o' c' : Nat) (vs : List Nat) (b1 : Nat) (w : World) (h : WrK kU32 w g o (m + 2 + 1) us) (h' : Rd w (some ⟨b', o', none⟩) (m + 2) c' vs) (hc : m + 2 + 1 ≤ c) (hne : b' ≠ g)
    (hn : m ≤ 4194300) (hb1 : vs[m + 1]? = some b1) (htop : 2147483648 ≤ b1) (hU : M.val us < M.val vs * M.R) :
    Calls Tryz.prog 165 #[.slice (some ⟨g, o, none⟩) (m + 2 + 1) c, .slice (some ⟨b', o', none⟩) (m + 2) c'] w (DivT w g o (M.val us) (M.val vs) (m + 2)) := by
  obtain ⟨_, _, r0, hA, hr0, hr0l, cr0⟩ := (h.rd hc).at32 (i := m) (by omega)
  injection hA with hA
  injection hA with hA hA'
  subst hA hA'
  obtain ⟨_, _, r1, hA, hr1, hr1l, cr1⟩ := (h.rd hc).at32 (i := m + 1) (by omega)
  injection hA with hA
  injection hA with hA hA'
  subst hA hA'
  obtain ⟨_, _, r2, hA, hr2, hr2l, cr2⟩ := (h.rd hc).at32 (i := m + 2) (by omega)
  injection hA with hA
  injection hA with hA hA'
  subst hA hA'
  obtain ⟨_, _, b0, hA, hb0, hb0l, cb0⟩ := h'.at32 (i := m) (by omega)
  injection hA with hA
  injection hA with hA hA'
  subst hA hA'
  obtain ⟨_, _, b1', hA, hb1', hb1l, cb1⟩ := h'.at32 (i := m + 1) (by omega)
  injection hA with hA
  injection hA with hA hA'
  subst hA hA'
  rw [hb1] at hb1'
  injection hb1' with hb1'
  subst hb1'
  have hulim : M.Lim us := h.lim
  have hvlim := h'.Lim
  have eU := M.val_top3 h.len hr0 hr1 hr2
  have eV := M.val_top2 h'.len hb0 hb1
  have hRm : 0 < M.R ^ m := Nat.pow_pos M.R_pos
  have hul := M.val_lt (hulim.take m)
  have hvl := M.val_lt (hvlim.take m)
  rw [List.length_take, h.len, Nat.min_eq_left (by omega)] at hul
  rw [List.length_take, h'.len, Nat.min_eq_left (by omega)] at hvl
  have hb2 : M.R ≤ b1 * M.R + b0 := by
    have : 1 * M.R ≤ b1 * M.R := Nat.mul_le_mul_right _ (by omega)
    omega
  have hr2b : r2 ≤ b1 := by
    refine M.top_le (P := M.R ^ m * M.R) hU ?_ ?_
    · rw [eU]
      have e1 : ((r2 * M.R + r1) * M.R + r0) * M.R ^ m = r2 * (M.R ^ m * M.R * M.R) + (r1 * M.R + r0) * M.R ^ m := by
        rw [Nat.add_mul, Nat.add_mul (r2 * M.R), Nat.add_mul, Nat.add_mul (r1 * M.R), Nat.add_assoc]
        congr 1
        simp only [Nat.mul_assoc, Nat.mul_comm, Nat.mul_left_comm]
      omega
    · rw [eV, Nat.add_mul, Nat.add_mul, Nat.one_mul]
      have e1 : b1 * M.R * M.R ^ m = b1 * (M.R ^ m * M.R) := by rw [Nat.mul_assoc, Nat.mul_comm M.R]
      have e2 : (b0 + 1) * M.R ^ m ≤ M.R * M.R ^ m := Nat.mul_le_mul_right _ hb0l
      rw [Nat.add_mul, Nat.one_mul, Nat.mul_comm M.R] at e2
      omega
  have hG := M.Guess.exists ((r2 * M.R + r1) * M.R + r0) (b1 * M.R + b0) (by have := M.R_pos; omega)
  obtain ⟨G, hGe⟩ : ∃ G, G = min (((r2 * M.R + r1) * M.R + r0) / (b1 * M.R + b0)) (M.R - 1) := ⟨_, rfl⟩
  rw [← hGe] at hG
  have hGR := hG.1
  have hVp : 0 < M.val vs := by
    rw [eV]
    have : 0 < (b1 * M.R + b0) * M.R ^ m := Nat.mul_pos (by have := M.R_pos; omega) hRm
    omega
  have hnear := M.guess_near hRm hvl hul hb2 hG (by rw [← eU, ← eV]; exact hU)
  rw [← eU, ← eV] at hnear
  have hdiv := M.guess_div hVp hnear.1 hnear.2
  have hvlt := M.val_lt hvlim
  rw [h'.len] at hvlt
  rw [M.R_eq] at hr0l hr1l hr2l hb0l hb1l hGR
  have H := Lib.hid h
  have H' := Lib.hid h'
  have HG := Lib.hid hG
  have HD := Lib.hid hdiv
  have HVL := Lib.hid hvlt
  have hcm : ¬ c' = m := by have := H'.out.cap; omega
  have C0 := Lib.hid cr0
  have C1 := Lib.hid (show w.cell? ⟨g, o + m + 1, none⟩ = some (.int .u32 (r1 : Int)) by rw [Nat.add_assoc]; exact cr1)
  have C2 := Lib.hid (show w.cell? ⟨g, o + m + 2, none⟩ = some (.int .u32 (r2 : Int)) by rw [Nat.add_assoc]; exact cr2)
  have D0 := Lib.hid cb0
  have D1 := Lib.hid (show w.cell? ⟨b', o' + m + 1, none⟩ = some (.int .u32 (b1 : Int)) by rw [Nat.add_assoc]; exact cb1)
  have HVP := Lib.hid hVp
  have HNR := Lib.hid hnear.1
  clear h h' hG hdiv hnear hGe eU eV hul hvl hb2 hulim hvlim hU hr0 hr1 hr2 hb0 hb1 hRm hvlt cr0 cr1 cr2 cb0 cb1 hVp
  go_enter Tryz.func165, Tryz.ntmps165
  go_wp2
  go_quiet ((go_at_call 170; rw [show m + 2 + 1 - m = 3 by omega]; exact Calls.quiet_of (guess_q g (o + m) _ b' (o' + m) _ r0 r1 r2 b0 b1 G _ C0.out C1.out C2.out D0.out D1.out hr0l hr1l hr2b hb0l hb1l htop HG.out)))
  go_wp2_with fail
  refine (takeTimes_any g o (m + 2) c us _ c' vs G _ (H.out.drewN _) (H'.out.drewN _) (fun p hp _ => by cases hp; exact hne) (by omega) hGR).mono ?_
  rintro e w1 ⟨ys, bo, rfl, hbo, hyl, hys, hsum, hp⟩
  have hylt := M.val_lt hys
  rw [hyl] at hylt
  have hp1 := hp.ofDrewN
  rcases M.take_bo hylt hbo hsum with ⟨h1, rfl, h3⟩ | ⟨h1, rfl, h3⟩
  · have hres : M.val us / M.val vs = G ∧ M.val ys = M.val us % M.val vs := by
      rcases HD.out with ⟨_, k2, k3⟩ | ⟨k1, _⟩
      · exact ⟨k2, by rw [k3, h3]⟩
      · omega
    have HR := Lib.hid hres
    have HY := Lib.hid hys
    have HP := Lib.hid hp1
    have HYL := Lib.hid hyl
    clear hres hys hp hp1 hsum hylt h1 h3 hyl
    go_wp2
    go_ret
    exact ⟨ys, ret_int (by rw [HR.out.1]), HYL.out, HY.out, HR.out.2, HP.out⟩
  · have hres : 1 ≤ G ∧ M.val us / M.val vs = G - 1 ∧ M.val us % M.val vs = M.val us + M.val vs - G * M.val vs := by
      rcases HD.out with ⟨k1, _⟩ | ⟨_, k1, k2, k3⟩
      · omega
      · exact ⟨k1, k2, k3⟩
    obtain ⟨hG1, hq, hr⟩ := hres
    have hrlt := Nat.mod_lt (M.val us) HVP.out
    have hw1 := hp1.wr hys
    rw [hyl] at hw1
    obtain ⟨_, _, t, hA, ht, htl, hct⟩ := (hw1.rd (c := m + 2 + 1) (Nat.le_refl _)).at32 (i := m + 2) (by omega)
    injection hA with hA
    injection hA with hA hA'
    subst hA hA'
    have hft : w1.frozen? ⟨g, o + (m + 2), none⟩ = false := hp1.frozen _
    have hval : M.val ys = M.val (ys.take (m + 2)) + M.R ^ (m + 2) * t := by
      have := M.val_take_some ht
      rw [List.take_of_length_le (by omega)] at this
      exact this
    have h4 : M.val (ys.take (m + 2)) + M.R ^ (m + 2) * t + M.val vs = M.val us % M.val vs + M.R ^ (m + 2) * M.R := by
      rw [← Nat.pow_succ, hr, ← hval]
      have : m + 2 + 1 = (m + 2).succ := rfl
      rw [this] at h3
      have := HNR.out
      omega
    have hrd1 := (H'.out.drewN _).put hp (fun p hp _ => by cases hp; exact hne)
    have hwt := hw1.take (m := m + 2) (by omega)
    have HW1 := Lib.hid hwt
    have HRD := Lib.hid hrd1
    have H4 := Lib.hid h4
    have HP1 := Lib.hid hp1
    have HRL := Lib.hid hrlt
    have HQ := Lib.hid hq
    have HYL := Lib.hid hyl
    have HT := Lib.hid hct
    rw [M.R_eq] at htl
    clear hwt hrd1 h4 hp1 hrlt hq hp hsum hylt h1 h3 hys hr hw1 ht hval hyl
    have hm2 : ¬ c = m + 2 := by omega
    go_wp2_with fail
    refine (addTimes_any g o (m + 2) c _ _ c' vs 1 w1 HW1.out HRD.out (fun p hp _ => by cases hp; exact hne) (by omega) (by omega)).mono ?_
    rintro e w2 ⟨zs, cy, rfl, hcy, hzl, hzs, hzv, hp2⟩
    have hzlt := M.val_lt hzs
    rw [hzl] at hzlt
    rw [Nat.one_mul] at hzv
    obtain ⟨htc, hzX⟩ := M.take_back (Nat.lt_trans HRL.out HVL.out) hzlt H4.out hzv
    have hct2 : w2.cell? ⟨g, o + (m + 2), none⟩ = some (.int .u32 (t : Int)) := by rw [hp2.cellOut (by omega)]; exact HT.out
    have hft2 : w2.frozen? ⟨g, o + (m + 2), none⟩ = false := hp2.frozen _
    have hT2 := HT.out
    rw [← hzl] at hT2
    have hp3 := hp2.snoc 0 hT2
    rw [hzl] at hp3
    have hp4 := HP1.out.over hp3 (by simp [hzl, HYL.out])
    rw [M.R_eq] at htc hcy
    have htc2 : ((t : Int) + (cy : Int)) % 4294967296 = 0 := by omega
    have HP4 := Lib.hid hp4
    have HZS := Lib.hid hzs
    have HZL := Lib.hid hzl
    have HZX := Lib.hid hzX
    clear hp4 hp3 hp2 hT2 hzs hzl hzX hzv hzlt
    go_wp2
    go_ret
    refine ⟨zs ++ [0], ret_int ?_, by simp [HZL.out], M.Lim.append HZS.out (M.Lim.cons M.R_pos M.Lim.nil), ?_, HP4.out⟩
    · rw [HQ.out]
      omega
    · rw [M.val_append, M.val_one, Nat.mul_zero, Nat.add_zero, HZX.out]

end Go.Proofs.YtbhgbilhoonopaaGreat

/- math/bits.Len32 and LeadingZeros32 of a number that is not 0. -/
namespace Go.Proofs.YtbhgbilhoonopaaGreat
open Go.RowKit
set_option linter.unusedVariables false

/-- 2^(T-1) ≤ z < 2^T. -/
def IsLen (z T : Nat) : Prop := 1 ≤ T ∧ 2 ^ (T - 1) ≤ z ∧ z < 2 ^ T

theorem IsLen.up {x T s : Nat} (h : IsLen (x / 2 ^ s) T) : IsLen x (s + T) := by
  obtain ⟨h1, h2, h3⟩ := h
  have hs : 0 < 2 ^ s := Nat.pow_pos (by omega)
  refine ⟨by omega, ?_, ?_⟩
  · rw [show s + T - 1 = (T - 1) + s by omega, Nat.pow_add]
    exact (Nat.le_div_iff_mul_le hs).1 h2
  · rw [show s + T = T + s by omega, Nat.pow_add]
    exact (Nat.div_lt_iff_lt_mul hs).1 h3

set_option maxRecDepth 100000 in
set_option maxHeartbeats 4000000 in
theorem len32_any (x : Nat) (w : World) (hx : 0 < x) (hx' : x < 4294967296) : Calls Tryz.prog 169 #[.int .u32 (x : Int)] w fun e w' => ∃ T : Nat, e = .returned (.int .i64 (T : Int)) ∧ IsLen x T ∧ w = w' := by
  go_enter Tryz.func169, Tryz.ntmps169
  generalize hT : ByteArray.mk _ = tab
  have hsz : tab.size = 256 := by subst hT; decide +kernel
  have key : ∀ z : Fin 256, 0 < z.val → 1 ≤ (tab.data.toList.getD z.val 0).toNat ∧ 2 ^ ((tab.data.toList.getD z.val 0).toNat - 1) ≤ z.val ∧ z.val < 2 ^ (tab.data.toList.getD z.val 0).toNat ∧ (tab.data.toList.getD z.val 0).toNat ≤ 8 := by
    subst hT
    decide +kernel
  have hlook : ∀ z, 0 < z → (h : z < tab.size) → IsLen z tab[z].toNat ∧ tab[z].toNat ≤ 8 := by
    intro z hz h
    have e : tab[z] = tab.data.toList.getD z 0 := by
      have hd : z < tab.data.size := h
      have e2 : tab.data.toList.getD z 0 = tab.data[z] := by
        rw [List.getD_eq_getElem?_getD, Array.getElem?_toList, Array.getElem?_eq_getElem hd]
        rfl
      exact e2.symm
    obtain ⟨a1, a2, a3, a4⟩ := key ⟨z, by omega⟩ hz
    have e' := congrArg UInt8.toNat e
    generalize tab[z].toNat = T at e' ⊢
    subst e'
    exact ⟨⟨a1, a2, a3⟩, a4⟩
  clear hT key
  have HL := Lib.hid hlook
  clear hlook
  have fin : ∀ (z s : Nat) (hz : z < tab.size), 0 < z → z = x / 2 ^ s → s ≤ 24 → ∃ T : Nat, T ≤ 8 ∧ tab[z].toNat = T ∧ IsLen x (s + T) := by
    intro z s hz h0 hzx hs
    obtain ⟨a, b⟩ := HL.out z h0 hz
    subst hzx
    exact ⟨_, b, rfl, a.up⟩
  have FI := Lib.hid fin
  clear fin HL
  by_cases h1 : (65536 : Int) ≤ x
  · by_cases h2 : (256 : Int) ≤ (x : Int) / 65536
    · obtain ⟨T, hT8, hT, hl⟩ := FI.out (x / 65536 / 256) 24 (by omega) (by omega) (by rw [Nat.div_div_eq_div_mul]) (by omega)
      go_wp2
      go_ret
      exact ⟨24 + T, ret_int (by omega), hl, rfl⟩
    · obtain ⟨T, hT8, hT, hl⟩ := FI.out (x / 65536) 16 (by omega) (by omega) rfl (by omega)
      go_wp2
      go_ret
      exact ⟨16 + T, ret_int (by omega), hl, rfl⟩
  · by_cases h2 : (256 : Int) ≤ (x : Int)
    · obtain ⟨T, hT8, hT, hl⟩ := FI.out (x / 256) 8 (by omega) (by omega) rfl (by omega)
      go_wp2
      go_ret
      exact ⟨8 + T, ret_int (by omega), hl, rfl⟩
    · obtain ⟨T, hT8, hT, hl⟩ := FI.out x 0 (by omega) (by omega) (by simp) (by omega)
      rw [Nat.zero_add] at hl
      go_wp2
      go_ret
      exact ⟨T, ret_int (by omega), hl, rfl⟩

/-- How far it must be moved till its highest bit is set. -/
def IsLead (x k : Nat) : Prop := k < 32 ∧ 2147483648 ≤ x * 2 ^ k ∧ x * 2 ^ k < 4294967296

theorem IsLen.lead {x T : Nat} (h : IsLen x T) (hx : x < 4294967296) : T ≤ 32 ∧ IsLead x (32 - T) := by
  obtain ⟨h1, h2, h3⟩ := h
  have hT : T ≤ 32 := by
    refine Nat.le_of_not_lt fun hc => ?_
    have : 2 ^ 32 ≤ 2 ^ (T - 1) := Nat.pow_le_pow_right (by omega) (by omega)
    omega
  refine ⟨hT, by omega, ?_, ?_⟩
  · have : 2 ^ (T - 1) * 2 ^ (32 - T) ≤ x * 2 ^ (32 - T) := Nat.mul_le_mul_right _ h2
    rw [← Nat.pow_add, show T - 1 + (32 - T) = 31 by omega] at this
    exact this
  · have : x * 2 ^ (32 - T) < 2 ^ T * 2 ^ (32 - T) := Nat.mul_lt_mul_of_pos_right h3 (Nat.pow_pos (by omega))
    rw [← Nat.pow_add, show T + (32 - T) = 32 by omega] at this
    exact this

theorem lz32_any (x : Nat) (w : World) (hx : 0 < x) (hx' : x < 4294967296) : Calls Tryz.prog 164 #[.int .u32 (x : Int)] w fun e w' => ∃ k : Nat, e = .returned (.int .i64 (k : Int)) ∧ IsLead x k ∧ w = w' := by
  go_enter Tryz.func164, Tryz.ntmps164
  go_wp2_with fail
  refine (len32_any x w hx hx').mono ?_
  rintro e w' ⟨T, rfl, hl, rfl⟩
  obtain ⟨hT, hld⟩ := hl.lead hx'
  have HL := Lib.hid hld
  clear hl hld
  go_wp2
  go_ret
  exact ⟨32 - T, ret_int (by omega), HL.out, rfl⟩

end Go.Proofs.YtbhgbilhoonopaaGreat
