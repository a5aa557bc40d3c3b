/- Contracts of the program's functions, as far as the claims ask for them (2 of 6). -/
import Derived.Below
import Derived.Deep.LoopGhost
import Derived.Deep.RegionHeld3
import Derived.Lib.Zigzag
import Derived.Maps.AppendAt
import Derived.Orders
import Derived.WalkKit
import Derived.Test.YtbhgbilhoonopaaGreatV1
namespace Go.Proofs.YtbhgbilhoonopaaGreat
open Go.RowKit
set_option linter.unusedVariables false

def TakeT (w : World) (g o : Nat) (U T n : Nat) (e : Ending) (w' : World) : Prop :=
 ∃ (ys : List Nat) (bo : Nat), e = .returned (.bool (decide (bo ≠ 0))) ∧ bo ≤ 1 ∧ ys.length = n + 1 ∧ M.Lim ys ∧ U + M.R ^ (n + 1) * bo = M.val ys + T ∧ PutK kU32 w w' g o ys

set_option maxHeartbeats 2000000 in
theorem takeTimes_any (g o n c : Nat) (us : List Nat) (A : Option Addr) (c' : Nat) (vs : List Nat) (t : Nat) (w : World) (h : WrK kU32 w g o (n + 1) us) (h' : Rd w A n c' vs) (hne : ∀ p, A = some p → 0 < n → p.block ≠ g)
  (hn : n ≤ 4194303) (ht : t < 4294967296) :
  Calls Tryz.prog 171 #[.slice (some ⟨g, o, none⟩) (n + 1) c, .slice A n c', .int .u32 (t : Int)] w (TakeT w g o (M.val us) (t * M.val vs) n) := by
 have H := Lib.hid h
 have H' := Lib.hid h'
 have HNE := Lib.hid hne
 clear h h' hne
 go_enter Tryz.func171, Tryz.ntmps171
 go_wp2
 go_loopw [7, 8, 14] (fun q b i wr => ∃ (k cy bo : Nat) (zs : List Nat), k ≤ n ∧ i = .int .i64 k ∧ q = .int .u64 cy ∧ b = .int .u32 bo ∧ cy < 4294967296 ∧ bo ≤ 1 ∧ zs.length = k ∧ M.Lim zs ∧
   M.val (us.take k) + M.R ^ k * (bo + cy) = M.val zs + t * M.val (vs.take k) ∧ PutK kU32 w wr g o zs) (fun _ _ i _ => n - (intOf i).toNat)
 case atStart => exact ⟨0, 0, 0, [], Nat.zero_le _, rfl, rfl, rfl, by omega, by omega, rfl, M.Lim.nil, rfl, PutK.start H.out _⟩
 case round =>
  obtain ⟨k, cy, bo, zs, hk, rfl, rfl, rfl, hcy, hbo, hzl, hzs, hv, hp⟩ := hrel
  have HZL := Lib.hid hzl
  have HZS := Lib.hid hzs
  have HV := Lib.hid hv
  have HP := Lib.hid hp
  clear hzl hzs hv hp
  by_cases hkn : k < n
  ·obtain ⟨b1, o1, u, hA, hu, hul, hcellu⟩ := (H.out.rd (c := n + 1) (Nat.le_refl _)).at32 (show k < n + 1 by omega)
   injection hA with hA
   injection hA with hA hA'
   subst hA hA'
   obtain ⟨b, o', v, hA, hvv, hvl, hcellv⟩ := (H'.out.put HP.out HNE.out).at32 hkn
   subst hA
   have hfz := HP.out.frozen (o + k)
   have hcellu' : wr.cell? ⟨g, o + k, none⟩ = some (.int .u32 (u : Int)) := by rw [HP.out.cellOut (by rw [HZL.out]; omega)]; exact hcellu
   have hpl := M.limb_mul_le (t := t) hvl (by rw [M.R_eq]; exact ht)
   obtain ⟨p, hp⟩ : ∃ p : Nat, p = v * t := ⟨_, rfl⟩
   rw [← hp] at hpl
   have hp2 : (v : Int) * (t : Int) = (p : Int) := by rw [hp]; simp
   have hd0 := Nat.mod_lt (cy + p) M.R_pos
   rw [M.R_eq] at hvl hul
   obtain ⟨d, hd⟩ : ∃ d : Nat, d = (cy + p) % M.R := ⟨_, rfl⟩
   obtain ⟨q, hq⟩ : ∃ q : Nat, q = (cy + p) / M.R := ⟨_, rfl⟩
   rw [← hd, M.R_eq] at hd0
   have hql : q < 4294967296 := by rw [hq, M.R_eq]; omega
   have hd2 : ((cy : Int) + (p : Int)) % 4294967296 = d := by rw [hd, M.R_eq]; omega
   have hq2 : ((cy : Int) + (p : Int)) / 4294967296 = q := by rw [hq, M.R_eq]; omega
   have hstep : ∀ z bo', u + 4294967296 * bo' = z + d + bo → M.val (us.take (k + 1)) + M.R ^ (k + 1) * (bo' + q) = M.val (zs ++ [z]) + t * M.val (vs.take (k + 1)) := by
    intro z bo' hz
    have := M.take_step hu hvv HZL.out HV.out (z := z) (bo' := bo') (by rw [← hp, ← hd, M.R_eq]; exact hz)
    rw [← hp, ← hq] at this
    exact this
   have HST := Lib.hid hstep
   have HC := Lib.hid hcellu
   clear hcellu hvv hu hd hq hstep hp
   go_wp2_with fail
   refine (sub32_any u d bo _ hul hd0 hbo).mono ?_
   rintro e w' ⟨z, bo', rfl, hz, hbo', hsum, rfl⟩
   have HSUM := Lib.hid hsum
   clear hsum
   go_wp2
   go_roundw
   case rel =>
    have hc2 := HC.out
    rw [← HZL.out] at hc2
    have hp3 := HP.out.snoc z hc2
    rw [HZL.out] at hp3
    exact ⟨k + 1, q, bo', zs ++ [z], by omega, by go_num, by go_num, by go_num, hql, hbo', by simp [HZL.out], M.Lim.append HZS.out (M.Lim.cons (by rw [M.R_eq]; exact hz) M.Lim.nil), HST.out z bo' HSUM.out, hp3⟩
   case measure => simp [intOf]; omega
  ·obtain rfl : k = n := by omega
   obtain ⟨b1, o1, u, hA, hu, hul, hcellu⟩ := (H.out.rd (c := k + 1) (Nat.le_refl _)).at32 (show k < k + 1 by omega)
   injection hA with hA
   injection hA with hA hA'
   subst hA hA'
   have hfz := HP.out.frozen (o + k)
   have hcellu' : wr.cell? ⟨g, o + k, none⟩ = some (.int .u32 (u : Int)) := by rw [HP.out.cellOut (by rw [HZL.out]; omega)]; exact hcellu
   have hmod : (cy : Int) % 4294967296 = cy := by omega
   rw [M.R_eq] at hul
   have hv := HV.out
   rw [List.take_of_length_le (l := vs) (by rw [H'.out.len]; exact Nat.le_refl _)] at hv
   have hlast : ∀ z bo', u + 4294967296 * bo' = z + cy + bo → M.val us + M.R ^ (k + 1) * bo' = M.val (zs ++ [z]) + t * M.val vs := fun z bo' hz => M.take_last hu H.out.len HZL.out hv (by rw [M.R_eq]; exact hz)
   have HLAST := Lib.hid hlast
   have HC := Lib.hid hcellu
   clear hcellu hu hv hlast
   go_wp2_with fail
   refine (sub32_any u cy bo _ hul hcy hbo).mono ?_
   rintro e w' ⟨z, bo', rfl, hz, hbo', hsum, rfl⟩
   have HSUM := Lib.hid hsum
   clear hsum
   go_wp2
   go_ret
   have hc2 := HC.out
   rw [← HZL.out] at hc2
   have hp3 := HP.out.snoc z hc2
   rw [HZL.out] at hp3
   refine ⟨zs ++ [z], bo', ret_bool ?_, hbo', by simp [HZL.out], M.Lim.append HZS.out (M.Lim.cons (by rw [M.R_eq]; exact hz) M.Lim.nil), HLAST.out z bo' HSUM.out, hp3⟩
   rcases (show bo' = 0 ∨ bo' = 1 by omega) with rfl | rfl <;> rfl

end Go.Proofs.YtbhgbilhoonopaaGreat

/- nat.guessTimes: the quotient of three limbs by two, at most 2^32 - 1. -/
namespace Go.Proofs.YtbhgbilhoonopaaGreat
open Go.RowKit
set_option linter.unusedVariables false

def GuessP (w : World) (t3 b2 : Nat) (e : Ending) (w' : World) : Prop := ∃ (g k : Nat), e = .returned (.int .u32 (g : Int)) ∧ M.Guess t3 b2 g ∧ w' = w.drewN k

theorem drewN_drewN (w : World) (a b : Nat) : (w.drewN a).drewN b = w.drewN (a + b) := by
 simp [World.drewN, Nat.add_assoc]

theorem drew_tr {w wr : World} {a b : Nat} (h : wr = w.drewN a) : wr.drewN b = w.drewN (a + b) := by rw [h, drewN_drewN]

theorem guess_or (r0 left : Nat) (h1 : r0 < 4294967296) (h2 : left < 4294967296) : bits .or .u64 ((left : Int) * 4294967296) (r0 : Int) = ((left * 4294967296 + r0 : Nat) : Int) := by
 rw [or_hi_lo r0 left h1 h2, Nat.mul_comm]

set_option maxHeartbeats 4000000 in
theorem guess_any (b o ca b' o' cb r0 r1 r2 b0 b1 : Nat) (w : World) (c0 : w.cell? ⟨b, o, none⟩ = some (.int .u32 (r0 : Int))) (c1 : w.cell? ⟨b, o + 1, none⟩ = some (.int .u32 (r1 : Int))) (c2 : w.cell? ⟨b, o + 2, none⟩ = some (.int .u32 (r2 : Int)))
  (d0 : w.cell? ⟨b', o', none⟩ = some (.int .u32 (b0 : Int))) (d1 : w.cell? ⟨b', o' + 1, none⟩ = some (.int .u32 (b1 : Int))) (h0 : r0 < 4294967296) (h1 : r1 < 4294967296) (h2 : r2 ≤ b1) (g0 : b0 < 4294967296) (g1 : b1 < 4294967296) (g2 : 2147483648 ≤ b1) :
  Calls Tryz.prog 170 #[.slice (some ⟨b, o, none⟩) 3 ca, .slice (some ⟨b', o', none⟩) 2 cb] w (GuessP w ((r2 * M.R + r1) * M.R + r0) (b1 * M.R + b0)) := by
 obtain ⟨top, htop⟩ : ∃ top, top = r2 * 4294967296 + r1 := ⟨_, rfl⟩
 have hor := guess_or r1 r2 h1 (by omega)
 rw [← htop] at hor
 have htl : top < 18446744073709551616 := by omega
 obtain ⟨q, hq⟩ : ∃ q : Nat, q = top / b1 := ⟨_, rfl⟩
 obtain ⟨r, hr⟩ : ∃ r : Nat, r = top % b1 := ⟨_, rfl⟩
 have hq2 : (top : Int) / (b1 : Int) = q := by rw [hq]; simp
 have hr2 : (top : Int) % (b1 : Int) = r := by rw [hr]; simp
 have hrl : r < b1 := by rw [hr]; exact Nat.mod_lt _ (by omega)
 have hql : q ≤ 4294967297 := by rw [hq, htop]; exact M.guess_start g2 h2 (by rw [M.R_eq]; exact h1)
 have hstart := M.Better.start (b0 := b0) (b1 := b1) (r0 := r0) (top := top) (by omega) (by rw [M.R_eq]; exact h0)
 rw [← hq, ← hr] at hstart
 have ht3 : (r2 * M.R + r1) * M.R + r0 = top * M.R + r0 := by rw [htop, M.R_eq]
 rw [ht3]
 have htop2 : top * M.R + r0 < (b1 * M.R + M.R) * M.R := by rw [M.R_eq]; omega
 have HS := Lib.hid hstart
 have HT := Lib.hid htop2
 have hb1p : 1 ≤ b1 := by omega
 clear hstart htop2 ht3 htop hq hr
 go_enter Tryz.func170, Tryz.ntmps170
 go_wp2
 go_quiet (fail)
 go_wp2
 go_quiet (fail)
 go_wp2
 go_loopw [6, 7] (fun gq lq wr => ∃ g left j : Nat, gq = .int .u64 g ∧ lq = .int .u64 left ∧ M.Better (top * M.R + r0) b0 b1 r0 g left ∧ g ≤ 4294967297 ∧ left < 8589934592 ∧ wr = w.drewN j) (fun gq _ _ => (intOf gq).toNat)
 case atStart =>
  refine ⟨q, r, _, by first | rfl | exact congrArg (Value.int .u64) hq2 | (rw [hq2]), by first | rfl | exact congrArg (Value.int .u64) hr2 | (rw [hr2]), HS.out, hql, by omega, drewN_drewN _ _ _⟩
 case round =>
  obtain ⟨g, left, j, rfl, rfl, hbet, hgl, hleft, hwr⟩ := hrel
  have c0' : wr.cell? ⟨b, o, none⟩ = some (.int .u32 (r0 : Int)) := by rw [hwr]; exact c0
  have d0' : wr.cell? ⟨b', o', none⟩ = some (.int .u32 (b0 : Int)) := by rw [hwr]; exact d0
  have d1' : wr.cell? ⟨b', o' + 1, none⟩ = some (.int .u32 (b1 : Int)) := by rw [hwr]; exact d1
  have HW := Lib.hid hwr
  have HBE := Lib.hid hbet
  clear hwr hbet c0 c1 c2 d0 d1 HS
  obtain ⟨p, hp⟩ : ∃ p, p = g * b0 := ⟨_, rfl⟩
  have hpl : p ≤ 18446744073709551615 := by
   rw [hp]
   have : g * b0 ≤ 4294967297 * 4294967295 := Nat.mul_le_mul hgl (by omega)
   omega
  have hp2 : (g : Int) * (b0 : Int) = (p : Int) := by rw [hp]; simp
  have HP := Lib.hid hp
  clear hp
  by_cases hl : left < 4294967296
  ·have l1 : decide ((left : Int) ≤ 4294967295) = true := by simp; omega
   have hor2 := guess_or r0 left h0 hl
   obtain ⟨lo, hlo⟩ : ∃ lo, lo = left * 4294967296 + r0 := ⟨_, rfl⟩
   rw [← hlo] at hor2
   have HLO := Lib.hid hlo
   clear hlo
   by_cases hg : 4294967295 < g
   ·have l2 : decide ((4294967295 : Int) < (g : Int)) = true := by simp; omega
    have HST := Lib.hid (HBE.out.step (by omega) (.inl (by rw [M.R_eq]; omega)))
    go_wp2
    go_quiet (fail)
    go_wp2
    go_roundw
    case rel =>
     refine ⟨g - 1, left + b1, _, by go_num, by go_num, HST.out, by omega, by omega, drew_tr HW.out⟩
    case measure => simp [intOf]; omega
   ·have l2 : decide ((4294967295 : Int) < (g : Int)) = false := by simp; omega
    by_cases hc : lo < p
    ·have l3 : decide ((lo : Int) < (p : Int)) = true := by simp; omega
     have hg1 : 1 ≤ g := by
      rcases Nat.eq_zero_or_pos g with h | h
      ·have := HP.out
       rw [h, Nat.zero_mul] at this
       omega
      ·exact h
     have HST := Lib.hid (HBE.out.step hg1 (.inr (HBE.out.test.1 (by rw [M.R_eq, ← HP.out, ← HLO.out]; exact hc))))
     go_wp2
     go_quiet (fail)
     go_wp2
     go_roundw
     case rel =>
      refine ⟨g - 1, left + b1, _, by go_num, by go_num, HST.out, by omega, by omega, drew_tr HW.out⟩
     case measure => simp [intOf]; omega
    ·have l3 : decide ((lo : Int) < (p : Int)) = false := by simp; omega
     have HST := Lib.hid (HBE.out.done (by rw [M.R_eq]; exact g0) (by rw [M.R_eq]; exact h0) (by omega) HT.out (.inr ⟨by rw [M.R_eq]; omega, fun hcc => by have := HBE.out.test.2 hcc; rw [M.R_eq, ← HP.out, ← HLO.out] at this; exact hc this⟩))
     go_wp2
     go_quiet (fail)
     go_wp2
     go_ret
     refine ⟨g, _, ret_int (by omega), HST.out, drew_tr HW.out⟩
  ·have l1 : decide ((left : Int) ≤ 4294967295) = false := by simp; omega
   have HST := Lib.hid (HBE.out.done (by rw [M.R_eq]; exact g0) (by rw [M.R_eq]; exact h0) (by omega) HT.out (.inl (by rw [M.R_eq]; omega)))
   have hgR := HST.out.1
   rw [M.R_eq] at hgR
   go_wp2
   go_quiet (fail)
   go_wp2
   go_ret
   refine ⟨g, _, ret_int (by omega), HST.out, drew_tr HW.out⟩

end Go.Proofs.YtbhgbilhoonopaaGreat

/- nat.divideLimb: one limb of a long division. -/
namespace Go.Proofs.YtbhgbilhoonopaaGreat
open Go.RowKit
set_option linter.unusedVariables false

namespace M
theorem Guess.exists (t3 b2 : Nat) (hb : 0 < b2) : Guess t3 b2 (min (t3 / b2) (R - 1)) := by
 have hR := R_pos
 have h1 : min (t3 / b2) (R - 1) ≤ t3 / b2 := Nat.min_le_left _ _
 refine ⟨by have := Nat.min_le_right (t3 / b2) (R - 1); omega, Nat.le_trans (Nat.mul_le_mul_right _ h1) (Nat.div_mul_le_self _ _), ?_⟩
 by_cases h : t3 / b2 ≤ R - 1
 ·right
  rw [Nat.min_eq_left h, Nat.add_mul, Nat.one_mul, Nat.mul_comm]
  have := Nat.lt_mul_div_succ t3 hb
  rw [Nat.mul_add, Nat.mul_one] at this
  exact this
 ·left
  rw [Nat.min_eq_right (by omega)]
  omega
theorem Guess.uniq {t3 b2 g g' : Nat} (h : Guess t3 b2 g) (h' : Guess t3 b2 g') : g = g' := by
 have aux : ∀ {x y : Nat}, Guess t3 b2 x → Guess t3 b2 y → ¬ x < y := by
  intro x y hx hy hlt
  obtain ⟨_, _, h3⟩ := hx
  obtain ⟨k1, k2, _⟩ := hy
  rcases h3 with h3 | h3
  ·omega
  ·have : (x + 1) * b2 ≤ y * b2 := Nat.mul_le_mul_right _ hlt
   omega
 have := aux h h'
 have := aux h' h
 omega

/-- Was it too often? -/
theorem take_bo {U V g P y bo : Nat} (hy : y < P) (hb : bo ≤ 1) (h : U + P * bo = y + g * V) : (g * V ≤ U ∧ bo = 0 ∧ y = U - g * V) ∨ (U < g * V ∧ bo = 1 ∧ y + g * V = U + P) := by
 rcases (show bo = 0 ∨ bo = 1 by omega) with rfl | rfl
 ·left
  rw [Nat.mul_zero] at h
  omega
 ·right
  rw [Nat.mul_one] at h
  omega

/-- Once back. -/
theorem take_back {P X yt t zv cy V : Nat} (hX : X < P) (hz : zv < P) (h1 : yt + P * t + V = X + P * R) (h2 : zv + P * cy = yt + V) : t + cy = R ∧ zv = X := by
 have e : P * (t + cy) = P * t + P * cy := Nat.mul_add _ _ _
 have h3 : t + cy = R := by
  rcases Nat.lt_trichotomy (t + cy) R with h | h | h
  ·have : P * (t + cy + 1) ≤ P * R := Nat.mul_le_mul_left _ h
   rw [Nat.mul_add, Nat.mul_one] at this
   omega
  ·exact h
  ·have : P * (R + 1) ≤ P * (t + cy) := Nat.mul_le_mul_left _ h
   rw [Nat.mul_add, Nat.mul_one] at this
   omega
 refine ⟨h3, ?_⟩
 rw [h3] at e
 omega

/-- The highest limb is at most the divisor's. -/
theorem top_le {P U V b1 r2 : Nat} (hU : U < V * R) (h1 : r2 * (P * R) ≤ U) (h2 : V < (b1 + 1) * P) : r2 ≤ b1 := by
 refine Nat.le_of_lt_succ ?_
 refine Nat.lt_of_not_le fun hc => ?_
 have e1 : (b1 + 1) * (P * R) ≤ r2 * (P * R) := Nat.mul_le_mul_right _ hc
 have e2 : V * R < (b1 + 1) * P * R := Nat.mul_lt_mul_of_pos_right h2 R_pos
 rw [Nat.mul_assoc] at e2
 omega
end M

section
variable {α : Type} {K : Kd α} {w w1 w2 : World} {g o : Nat} {xs ys : List α}
theorem PutK.over (h : PutK K w w1 g o xs) (h' : PutK K w1 w2 g o ys) (hl : ys.length = xs.length) : PutK K w w2 g o ys := by
 obtain ⟨cur, cur', h1, h2, hs, h3, h4⟩ := h.blk
 obtain ⟨c1, c2, k1, k2, ks, k3, k4⟩ := h'.blk
 rw [h2] at k1
 injection k1 with k1
 injection k1 with k1
 subst k1
 refine ⟨⟨h'.grown.os.trans h.grown.os, h'.grown.tape.trans h.grown.tape, h'.grown.output.trans h.grown.output, Nat.le_trans h.grown.size h'.grown.size, fun k hk hne => ?_⟩, h'.size.trans h.size, cur, c2, h1, k2, ks.trans hs, k3, fun j hj => ?_⟩
 ·exact (h'.grown.block k (by have := h.grown.size; omega) hne).trans (h.grown.block k hk hne)
 ·rw [k4 j hj, h4 j (by omega)]
theorem PutK.ofDrewN {k : Nat} (h : PutK K (w.drewN k) w1 g o xs) : PutK K w w1 g o xs := ⟨⟨h.grown.os, h.grown.tape, h.grown.output, h.grown.size, h.grown.block⟩, h.size, h.blk⟩
theorem WrK.drewN {n : Nat} (h : WrK K w g o n xs) (k : Nat) : WrK K (w.drewN k) g o n xs := ⟨h.len, h.lim, h.blk⟩
theorem WrK.take {n m : Nat} (h : WrK K w g o n xs) (hm : m ≤ n) : WrK K w g o m (xs.take m) := by
 obtain ⟨cur, hh, hx⟩ := h.blk
 refine ⟨by rw [List.length_take, h.len]; omega, fun x hx => h.lim x (List.mem_of_mem_take hx), cur, hh, fun i x hi => ?_⟩
 rw [List.getElem?_take] at hi
 split at hi
 ·exact hx i x hi
 ·cases hi
theorem RdK.drewN {A : Option Addr} {n c : Nat} (h : RdK K w A n c xs) (k : Nat) : RdK K (w.drewN k) A n c xs := ⟨h.len, h.cap, h.nil, h.lim, h.cells⟩
end

/-- The guess by its own number. -/
theorem guess_q (b o ca b' o' cb r0 r1 r2 b0 b1 G : Nat) (w : World) (c0 : w.cell? ⟨b, o, none⟩ = some (.int .u32 (r0 : Int))) (c1 : w.cell? ⟨b, o + 1, none⟩ = some (.int .u32 (r1 : Int))) (c2 : w.cell? ⟨b, o + 2, none⟩ = some (.int .u32 (r2 : Int)))
  (d0 : w.cell? ⟨b', o', none⟩ = some (.int .u32 (b0 : Int))) (d1 : w.cell? ⟨b', o' + 1, none⟩ = some (.int .u32 (b1 : Int))) (h0 : r0 < 4294967296) (h1 : r1 < 4294967296) (h2 : r2 ≤ b1) (g0 : b0 < 4294967296) (g1 : b1 < 4294967296) (g2 : 2147483648 ≤ b1)
  (hG : M.Guess ((r2 * M.R + r1) * M.R + r0) (b1 * M.R + b0) G) :
  Calls Tryz.prog 170 #[.slice (some ⟨b, o, none⟩) 3 ca, .slice (some ⟨b', o', none⟩) 2 cb] w fun e w' => e = .returned (.int .u32 (G : Int)) ∧ ∃ m, w' = w.drewN m := by
 refine (guess_any b o ca b' o' cb r0 r1 r2 b0 b1 w c0 c1 c2 d0 d1 h0 h1 h2 g0 g1 g2).mono ?_
 rintro e w' ⟨g, k, rfl, hg, rfl⟩
 rw [hg.uniq hG]
 exact ⟨rfl, k, rfl⟩

def DivT (w : World) (g o U V n : Nat) (e : Ending) (w' : World) : Prop :=
 ∃ (ys : List Nat), e = .returned (.int .u32 ((U / V : Nat) : Int)) ∧ ys.length = n + 1 ∧ M.Lim ys ∧ M.val ys = U % V ∧ PutK kU32 w w' g o ys

set_option maxHeartbeats 4000000 in
theorem divideLimb_any (g o m c : Nat) (us : List Nat) (b' o' c' : Nat) (vs : List Nat) (b1 : Nat) (w : World) (h : WrK kU32 w g o (m + 2 + 1) us) (h' : Rd w (some ⟨b', o', none⟩) (m + 2) c' vs) (hc : m + 2 + 1 ≤ c) (hne : b' ≠ g)
  (hn : m ≤ 4194300) (hb1 : vs[m + 1]? = some b1) (htop : 2147483648 ≤ b1) (hU : M.val us < M.val vs * M.R) :
  Calls Tryz.prog 165 #[.slice (some ⟨g, o, none⟩) (m + 2 + 1) c, .slice (some ⟨b', o', none⟩) (m + 2) c'] w (DivT w g o (M.val us) (M.val vs) (m + 2)) := by
 obtain ⟨_, _, r0, hA, hr0, hr0l, cr0⟩ := (h.rd hc).at32 (i := m) (by omega)
 injection hA with hA
 injection hA with hA hA'
 subst hA hA'
 obtain ⟨_, _, r1, hA, hr1, hr1l, cr1⟩ := (h.rd hc).at32 (i := m + 1) (by omega)
 injection hA with hA
 injection hA with hA hA'
 subst hA hA'
 obtain ⟨_, _, r2, hA, hr2, hr2l, cr2⟩ := (h.rd hc).at32 (i := m + 2) (by omega)
 injection hA with hA
 injection hA with hA hA'
 subst hA hA'
 obtain ⟨_, _, b0, hA, hb0, hb0l, cb0⟩ := h'.at32 (i := m) (by omega)
 injection hA with hA
 injection hA with hA hA'
 subst hA hA'
 obtain ⟨_, _, b1', hA, hb1', hb1l, cb1⟩ := h'.at32 (i := m + 1) (by omega)
 injection hA with hA
 injection hA with hA hA'
 subst hA hA'
 rw [hb1] at hb1'
 injection hb1' with hb1'
 subst hb1'
 have hulim : M.Lim us := h.lim
 have hvlim := h'.Lim
 have eU := M.val_top3 h.len hr0 hr1 hr2
 have eV := M.val_top2 h'.len hb0 hb1
 have hRm : 0 < M.R ^ m := Nat.pow_pos M.R_pos
 have hul := M.val_lt (hulim.take m)
 have hvl := M.val_lt (hvlim.take m)
 rw [List.length_take, h.len, Nat.min_eq_left (by omega)] at hul
 rw [List.length_take, h'.len, Nat.min_eq_left (by omega)] at hvl
 have hb2 : M.R ≤ b1 * M.R + b0 := by
  have : 1 * M.R ≤ b1 * M.R := Nat.mul_le_mul_right _ (by omega)
  omega
 have hr2b : r2 ≤ b1 := by
  refine M.top_le (P := M.R ^ m * M.R) hU ?_ ?_
  ·rw [eU]
   have e1 : ((r2 * M.R + r1) * M.R + r0) * M.R ^ m = r2 * (M.R ^ m * M.R * M.R) + (r1 * M.R + r0) * M.R ^ m := by
    rw [Nat.add_mul, Nat.add_mul (r2 * M.R), Nat.add_mul, Nat.add_mul (r1 * M.R), Nat.add_assoc]
    congr 1
    simp only [Nat.mul_assoc, Nat.mul_comm, Nat.mul_left_comm]
   omega
  ·rw [eV, Nat.add_mul, Nat.add_mul, Nat.one_mul]
   have e1 : b1 * M.R * M.R ^ m = b1 * (M.R ^ m * M.R) := by rw [Nat.mul_assoc, Nat.mul_comm M.R]
   have e2 : (b0 + 1) * M.R ^ m ≤ M.R * M.R ^ m := Nat.mul_le_mul_right _ hb0l
   rw [Nat.add_mul, Nat.one_mul, Nat.mul_comm M.R] at e2
   omega
 have hG := M.Guess.exists ((r2 * M.R + r1) * M.R + r0) (b1 * M.R + b0) (by have := M.R_pos; omega)
 obtain ⟨G, hGe⟩ : ∃ G, G = min (((r2 * M.R + r1) * M.R + r0) / (b1 * M.R + b0)) (M.R - 1) := ⟨_, rfl⟩
 rw [← hGe] at hG
 have hGR := hG.1
 have hVp : 0 < M.val vs := by
  rw [eV]
  have : 0 < (b1 * M.R + b0) * M.R ^ m := Nat.mul_pos (by have := M.R_pos; omega) hRm
  omega
 have hnear := M.guess_near hRm hvl hul hb2 hG (by rw [← eU, ← eV]; exact hU)
 rw [← eU, ← eV] at hnear
 have hdiv := M.guess_div hVp hnear.1 hnear.2
 have hvlt := M.val_lt hvlim
 rw [h'.len] at hvlt
 rw [M.R_eq] at hr0l hr1l hr2l hb0l hb1l hGR
 have H := Lib.hid h
 have H' := Lib.hid h'
 have HG := Lib.hid hG
 have HD := Lib.hid hdiv
 have HVL := Lib.hid hvlt
 have hcm : ¬ c' = m := by have := H'.out.cap; omega
 have C0 := Lib.hid cr0
 have C1 := Lib.hid (show w.cell? ⟨g, o + m + 1, none⟩ = some (.int .u32 (r1 : Int)) by rw [Nat.add_assoc]; exact cr1)
 have C2 := Lib.hid (show w.cell? ⟨g, o + m + 2, none⟩ = some (.int .u32 (r2 : Int)) by rw [Nat.add_assoc]; exact cr2)
 have D0 := Lib.hid cb0
 have D1 := Lib.hid (show w.cell? ⟨b', o' + m + 1, none⟩ = some (.int .u32 (b1 : Int)) by rw [Nat.add_assoc]; exact cb1)
 have HVP := Lib.hid hVp
 have HNR := Lib.hid hnear.1
 clear h h' hG hdiv hnear hGe eU eV hul hvl hb2 hulim hvlim hU hr0 hr1 hr2 hb0 hb1 hRm hvlt cr0 cr1 cr2 cb0 cb1 hVp
 go_enter Tryz.func165, Tryz.ntmps165
 go_wp2
 go_quiet ((go_at_call 170; rw [show m + 2 + 1 - m = 3 by omega]; exact Calls.quiet_of (guess_q g (o + m) _ b' (o' + m) _ r0 r1 r2 b0 b1 G _ C0.out C1.out C2.out D0.out D1.out hr0l hr1l hr2b hb0l hb1l htop HG.out)))
 go_wp2_with fail
 refine (takeTimes_any g o (m + 2) c us _ c' vs G _ (H.out.drewN _) (H'.out.drewN _) (fun p hp _ => by cases hp; exact hne) (by omega) hGR).mono ?_
 rintro e w1 ⟨ys, bo, rfl, hbo, hyl, hys, hsum, hp⟩
 have hylt := M.val_lt hys
 rw [hyl] at hylt
 have hp1 := hp.ofDrewN
 rcases M.take_bo hylt hbo hsum with ⟨h1, rfl, h3⟩ | ⟨h1, rfl, h3⟩
 ·have hres : M.val us / M.val vs = G ∧ M.val ys = M.val us % M.val vs := by
   rcases HD.out with ⟨_, k2, k3⟩ | ⟨k1, _⟩
   ·exact ⟨k2, by rw [k3, h3]⟩
   ·omega
  have HR := Lib.hid hres
  have HY := Lib.hid hys
  have HP := Lib.hid hp1
  have HYL := Lib.hid hyl
  clear hres hys hp hp1 hsum hylt h1 h3 hyl
  go_wp2
  go_ret
  exact ⟨ys, ret_int (by rw [HR.out.1]), HYL.out, HY.out, HR.out.2, HP.out⟩
 ·have hres : 1 ≤ G ∧ M.val us / M.val vs = G - 1 ∧ M.val us % M.val vs = M.val us + M.val vs - G * M.val vs := by
   rcases HD.out with ⟨k1, _⟩ | ⟨_, k1, k2, k3⟩
   ·omega
   ·exact ⟨k1, k2, k3⟩
  obtain ⟨hG1, hq, hr⟩ := hres
  have hrlt := Nat.mod_lt (M.val us) HVP.out
  have hw1 := hp1.wr hys
  rw [hyl] at hw1
  obtain ⟨_, _, t, hA, ht, htl, hct⟩ := (hw1.rd (c := m + 2 + 1) (Nat.le_refl _)).at32 (i := m + 2) (by omega)
  injection hA with hA
  injection hA with hA hA'
  subst hA hA'
  have hft : w1.frozen? ⟨g, o + (m + 2), none⟩ = false := hp1.frozen _
  have hval : M.val ys = M.val (ys.take (m + 2)) + M.R ^ (m + 2) * t := by
   have := M.val_take_some ht
   rw [List.take_of_length_le (by omega)] at this
   exact this
  have h4 : M.val (ys.take (m + 2)) + M.R ^ (m + 2) * t + M.val vs = M.val us % M.val vs + M.R ^ (m + 2) * M.R := by
   rw [← Nat.pow_succ, hr, ← hval]
   have : m + 2 + 1 = (m + 2).succ := rfl
   rw [this] at h3
   have := HNR.out
   omega
  have hrd1 := (H'.out.drewN _).put hp (fun p hp _ => by cases hp; exact hne)
  have hwt := hw1.take (m := m + 2) (by omega)
  have HW1 := Lib.hid hwt
  have HRD := Lib.hid hrd1
  have H4 := Lib.hid h4
  have HP1 := Lib.hid hp1
  have HRL := Lib.hid hrlt
  have HQ := Lib.hid hq
  have HYL := Lib.hid hyl
  have HT := Lib.hid hct
  rw [M.R_eq] at htl
  clear hwt hrd1 h4 hp1 hrlt hq hp hsum hylt h1 h3 hys hr hw1 ht hval hyl
  have hm2 : ¬ c = m + 2 := by omega
  go_wp2_with fail
  refine (addTimes_any g o (m + 2) c _ _ c' vs 1 w1 HW1.out HRD.out (fun p hp _ => by cases hp; exact hne) (by omega) (by omega)).mono ?_
  rintro e w2 ⟨zs, cy, rfl, hcy, hzl, hzs, hzv, hp2⟩
  have hzlt := M.val_lt hzs
  rw [hzl] at hzlt
  rw [Nat.one_mul] at hzv
  obtain ⟨htc, hzX⟩ := M.take_back (Nat.lt_trans HRL.out HVL.out) hzlt H4.out hzv
  have hct2 : w2.cell? ⟨g, o + (m + 2), none⟩ = some (.int .u32 (t : Int)) := by rw [hp2.cellOut (by omega)]; exact HT.out
  have hft2 : w2.frozen? ⟨g, o + (m + 2), none⟩ = false := hp2.frozen _
  have hT2 := HT.out
  rw [← hzl] at hT2
  have hp3 := hp2.snoc 0 hT2
  rw [hzl] at hp3
  have hp4 := HP1.out.over hp3 (by simp [hzl, HYL.out])
  rw [M.R_eq] at htc hcy
  have htc2 : ((t : Int) + (cy : Int)) % 4294967296 = 0 := by omega
  have HP4 := Lib.hid hp4
  have HZS := Lib.hid hzs
  have HZL := Lib.hid hzl
  have HZX := Lib.hid hzX
  clear hp4 hp3 hp2 hT2 hzs hzl hzX hzv hzlt
  go_wp2
  go_ret
  refine ⟨zs ++ [0], ret_int ?_, by simp [HZL.out], M.Lim.append HZS.out (M.Lim.cons M.R_pos M.Lim.nil), ?_, HP4.out⟩
  ·rw [HQ.out]
   omega
  ·rw [M.val_append, M.val_one, Nat.mul_zero, Nat.add_zero, HZX.out]

end Go.Proofs.YtbhgbilhoonopaaGreat

/- math/bits.Len32 and LeadingZeros32 of a number that is not 0. -/
namespace Go.Proofs.YtbhgbilhoonopaaGreat
open Go.RowKit
set_option linter.unusedVariables false

/-- 2^(T-1) ≤ z < 2^T. -/
def IsLen (z T : Nat) : Prop := 1 ≤ T ∧ 2 ^ (T - 1) ≤ z ∧ z < 2 ^ T

theorem IsLen.up {x T s : Nat} (h : IsLen (x / 2 ^ s) T) : IsLen x (s + T) := by
 obtain ⟨h1, h2, h3⟩ := h
 have hs : 0 < 2 ^ s := Nat.pow_pos (by omega)
 refine ⟨by omega, ?_, ?_⟩
 ·rw [show s + T - 1 = (T - 1) + s by omega, Nat.pow_add]
  exact (Nat.le_div_iff_mul_le hs).1 h2
 ·rw [show s + T = T + s by omega, Nat.pow_add]
  exact (Nat.div_lt_iff_lt_mul hs).1 h3

set_option maxRecDepth 100000 in
set_option maxHeartbeats 4000000 in
theorem len32_any (x : Nat) (w : World) (hx : 0 < x) (hx' : x < 4294967296) : Calls Tryz.prog 169 #[.int .u32 (x : Int)] w fun e w' => ∃ T : Nat, e = .returned (.int .i64 (T : Int)) ∧ IsLen x T ∧ w = w' := by
 go_enter Tryz.func169, Tryz.ntmps169
 generalize hT : ByteArray.mk _ = tab
 have hsz : tab.size = 256 := by subst hT; decide +kernel
 have key : ∀ z : Fin 256, 0 < z.val → 1 ≤ (tab.data.toList.getD z.val 0).toNat ∧ 2 ^ ((tab.data.toList.getD z.val 0).toNat - 1) ≤ z.val ∧ z.val < 2 ^ (tab.data.toList.getD z.val 0).toNat ∧ (tab.data.toList.getD z.val 0).toNat ≤ 8 := by
  subst hT
  decide +kernel
 have hlook : ∀ z, 0 < z → (h : z < tab.size) → IsLen z tab[z].toNat ∧ tab[z].toNat ≤ 8 := by
  intro z hz h
  have e : tab[z] = tab.data.toList.getD z 0 := by
   have hd : z < tab.data.size := h
   have e2 : tab.data.toList.getD z 0 = tab.data[z] := by
    rw [List.getD_eq_getElem?_getD, Array.getElem?_toList, Array.getElem?_eq_getElem hd]
    rfl
   exact e2.symm
  obtain ⟨a1, a2, a3, a4⟩ := key ⟨z, by omega⟩ hz
  have e' := congrArg UInt8.toNat e
  generalize tab[z].toNat = T at e' ⊢
  subst e'
  exact ⟨⟨a1, a2, a3⟩, a4⟩
 clear hT key
 have HL := Lib.hid hlook
 clear hlook
 have fin : ∀ (z s : Nat) (hz : z < tab.size), 0 < z → z = x / 2 ^ s → s ≤ 24 → ∃ T : Nat, T ≤ 8 ∧ tab[z].toNat = T ∧ IsLen x (s + T) := by
  intro z s hz h0 hzx hs
  obtain ⟨a, b⟩ := HL.out z h0 hz
  subst hzx
  exact ⟨_, b, rfl, a.up⟩
 have FI := Lib.hid fin
 clear fin HL
 by_cases h1 : (65536 : Int) ≤ x
 ·by_cases h2 : (256 : Int) ≤ (x : Int) / 65536
  ·obtain ⟨T, hT8, hT, hl⟩ := FI.out (x / 65536 / 256) 24 (by omega) (by omega) (by rw [Nat.div_div_eq_div_mul]) (by omega)
   go_wp2
   go_ret
   exact ⟨24 + T, ret_int (by omega), hl, rfl⟩
  ·obtain ⟨T, hT8, hT, hl⟩ := FI.out (x / 65536) 16 (by omega) (by omega) rfl (by omega)
   go_wp2
   go_ret
   exact ⟨16 + T, ret_int (by omega), hl, rfl⟩
 ·by_cases h2 : (256 : Int) ≤ (x : Int)
  ·obtain ⟨T, hT8, hT, hl⟩ := FI.out (x / 256) 8 (by omega) (by omega) rfl (by omega)
   go_wp2
   go_ret
   exact ⟨8 + T, ret_int (by omega), hl, rfl⟩
  ·obtain ⟨T, hT8, hT, hl⟩ := FI.out x 0 (by omega) (by omega) (by simp) (by omega)
   rw [Nat.zero_add] at hl
   go_wp2
   go_ret
   exact ⟨T, ret_int (by omega), hl, rfl⟩

/-- How far it must be moved till its highest bit is set. -/
def IsLead (x k : Nat) : Prop := k < 32 ∧ 2147483648 ≤ x * 2 ^ k ∧ x * 2 ^ k < 4294967296

theorem IsLen.lead {x T : Nat} (h : IsLen x T) (hx : x < 4294967296) : T ≤ 32 ∧ IsLead x (32 - T) := by
 obtain ⟨h1, h2, h3⟩ := h
 have hT : T ≤ 32 := by
  refine Nat.le_of_not_lt fun hc => ?_
  have : 2 ^ 32 ≤ 2 ^ (T - 1) := Nat.pow_le_pow_right (by omega) (by omega)
  omega
 refine ⟨hT, by omega, ?_, ?_⟩
 ·have : 2 ^ (T - 1) * 2 ^ (32 - T) ≤ x * 2 ^ (32 - T) := Nat.mul_le_mul_right _ h2
  rw [← Nat.pow_add, show T - 1 + (32 - T) = 31 by omega] at this
  exact this
 ·have : x * 2 ^ (32 - T) < 2 ^ T * 2 ^ (32 - T) := Nat.mul_lt_mul_of_pos_right h3 (Nat.pow_pos (by omega))
  rw [← Nat.pow_add, show T + (32 - T) = 32 by omega] at this
  exact this

theorem lz32_any (x : Nat) (w : World) (hx : 0 < x) (hx' : x < 4294967296) : Calls Tryz.prog 164 #[.int .u32 (x : Int)] w fun e w' => ∃ k : Nat, e = .returned (.int .i64 (k : Int)) ∧ IsLead x k ∧ w = w' := by
 go_enter Tryz.func164, Tryz.ntmps164
 go_wp2_with fail
 refine (len32_any x w hx hx').mono ?_
 rintro e w' ⟨T, rfl, hl, rfl⟩
 obtain ⟨hT, hld⟩ := hl.lead hx'
 have HL := Lib.hid hld
 clear hl hld
 go_wp2
 go_ret
 exact ⟨32 - T, ret_int (by omega), HL.out, rfl⟩

end Go.Proofs.YtbhgbilhoonopaaGreat
namespace Go.Proofs.YtbhgbilhoonopaaGreat
open Go.RowKit
set_option linter.unusedVariables false

namespace M
/-- What the loop keeps: j limbs are still to do. -/
structure LDm (rest0 : List Nat) (V n m L j : Nat) (ws qs : List Nat) : Prop where
 le : j ≤ L
 wl : ws.length = n + 1 - j
 ql : qs.length = L - j
 wlim : Lim ws
 qlim : Lim qs
 lt : val ws < V
 eq : val (rest0.drop j) = val qs * V + val ws

theorem val_take_of_lt {ws : List Nat} {m : Nat} (h : val ws < R ^ m) (hm : m ≤ ws.length) : val (ws.take m) = val ws ∧ val (ws.drop m) = 0 := by
 have e : val ws = val (ws.take m) + R ^ m * val (ws.drop m) := by
  have := val_append (ws.take m) (ws.drop m)
  rw [List.take_append_drop, List.length_take, Nat.min_eq_left hm] at this
  exact this
 have h0 : val (ws.drop m) = 0 := by
  refine Nat.eq_zero_of_not_pos fun hc => ?_
  have : R ^ m * 1 ≤ R ^ m * val (ws.drop m) := Nat.mul_le_mul_left _ hc
  omega
 rw [h0, Nat.mul_zero] at e
 exact ⟨by omega, h0⟩

theorem LDm.piece {rest0 ws qs : List Nat} {V n m L j r0 : Nat} (h : LDm rest0 V n m L (j + 1) ws qs) (hV : V < R ^ m) (hj : rest0[j]? = some r0) (hm : m ≤ ws.length) :
  ((rest0.take (j + 1) ++ ws).drop j).take (m + 1) = r0 :: ws.take m ∧ val (r0 :: ws.take m) = r0 + R * val ws := by
 have hlt : j < rest0.length := (List.getElem?_eq_some_iff.1 hj).1
 constructor
 ·rw [tr_take_succ hj, List.append_assoc, List.drop_append, List.drop_of_length_le (by rw [List.length_take]; omega), List.length_take, Nat.min_eq_left (by omega), Nat.sub_self, List.drop_zero, List.nil_append]
  simp
 ·rw [val_cons, (val_take_of_lt (Nat.lt_trans h.lt hV) hm).1]

theorem LDm.step {rest0 ws qs ys : List Nat} {V n m L j r0 : Nat} (h : LDm rest0 V n m L (j + 1) ws qs) (hV : V < R ^ m) (hVp : 0 < V) (hj : rest0[j]? = some r0) (hr0 : r0 < R) (hm : m ≤ ws.length) (hm1 : 1 ≤ m) (hyl : ys.length = m + 1) (hys : Lim ys)
  (hyv : val ys = (r0 + R * val ws) % V) : LDm rest0 V n m L j (ys ++ ws.drop m) ((r0 + R * val ws) / V :: qs) := by
 have hle := h.le
 have hwl := h.wl
 have hd0 := (val_take_of_lt (Nat.lt_trans h.lt hV) hm).2
 have hval : val (ys ++ ws.drop m) = (r0 + R * val ws) % V := by rw [val_append, hd0, Nat.mul_zero, Nat.add_zero, hyv]
 refine ⟨by omega, by rw [List.length_append, hyl, List.length_drop]; omega, by rw [List.length_cons, h.ql]; omega, hys.append (h.wlim.drop _), Lim.cons ?_ h.qlim, ?_, ?_⟩
 ·rw [Nat.add_comm]
  exact div_limb_lt h.lt hr0
 ·rw [hval]
  exact Nat.mod_lt _ hVp
 ·rw [hval, drop_pred hj, val_cons, h.eq, val_cons]
  have e := Nat.div_add_mod (r0 + R * val ws) V
  have e2 : ((r0 + R * val ws) / V + R * val qs) * V = V * ((r0 + R * val ws) / V) + R * (val qs * V) := by rw [Nat.add_mul, Nat.mul_comm, Nat.mul_assoc]
  rw [e2, Nat.mul_add]
  omega

theorem LDm.piece_lt {rest0 ws qs : List Nat} {V n m L j r0 : Nat} (h : LDm rest0 V n m L (j + 1) ws qs) (hr0 : r0 < R) : r0 + R * val ws < V * R := by
 have : R * (val ws + 1) ≤ R * V := Nat.mul_le_mul_left _ h.lt
 rw [Nat.mul_add, Nat.mul_one, Nat.mul_comm R V] at this
 omega

/-- The divisor, moved. -/
theorem scaled_by {ys vs : List Nat} {p y k cy : Nat} (hl : ys.length = p + 1) (hy : ys[p]? = some y) (hlim : Lim ys) (h1 : 2147483648 ≤ y * 2 ^ k) (h2 : y * 2 ^ k < R) (hk : k < 32) (hvl : vs.length = p + 1) (hv : Lim vs)
  (h : val vs + R ^ (p + 1) * cy = 0 + 2 ^ k * val ys) : val vs = 2 ^ k * val ys ∧ ∃ b1, vs[p]? = some b1 ∧ 2147483648 ≤ b1 := by
 have hP : 0 < R ^ p := Nat.pow_pos R_pos
 have ey := val_take_some hy
 rw [List.take_of_length_le (by omega)] at ey
 have hylt := val_lt (hlim.take p)
 rw [List.length_take, hl, Nat.min_eq_left (by omega)] at hylt
 have hup : 2 ^ k * val ys < R ^ (p + 1) := by
  have h3 : (y + 1) * 2 ^ k ≤ R := by
   have hd : R = 2 ^ (32 - k) * 2 ^ k := by rw [← Nat.pow_add, show 32 - k + k = 32 by omega]; rfl
   rw [hd] at h2 ⊢
   exact Nat.mul_le_mul_right _ (Nat.lt_of_mul_lt_mul_right h2)
  have h4 : val ys < (y + 1) * R ^ p := by
   rw [ey, Nat.add_mul, Nat.one_mul, Nat.mul_comm y]
   omega
  have h5 : 2 ^ k * val ys < 2 ^ k * ((y + 1) * R ^ p) := Nat.mul_lt_mul_of_pos_left h4 (Nat.pow_pos (by omega))
  have h6 : 2 ^ k * ((y + 1) * R ^ p) = (y + 1) * 2 ^ k * R ^ p := by rw [← Nat.mul_assoc, Nat.mul_comm (2 ^ k)]
  have h7 : (y + 1) * 2 ^ k * R ^ p ≤ R * R ^ p := Nat.mul_le_mul_right _ h3
  rw [Nat.pow_succ, Nat.mul_comm (R ^ p)]
  omega
 have hv0 : val vs = 2 ^ k * val ys := by
  have hc : cy = 0 := by
   refine Nat.eq_zero_of_not_pos fun hc => ?_
   have : R ^ (p + 1) * 1 ≤ R ^ (p + 1) * cy := Nat.mul_le_mul_left _ hc
   omega
  rw [hc, Nat.mul_zero] at h
  omega
 refine ⟨hv0, ?_⟩
 obtain ⟨b1, hb1⟩ : ∃ b1, vs[p]? = some b1 := ⟨vs[p]'(by omega), List.getElem?_eq_getElem _⟩
 refine ⟨b1, hb1, ?_⟩
 have ev := val_take_some hb1
 rw [List.take_of_length_le (by omega)] at ev
 have hvlt := val_lt (hv.take p)
 rw [List.length_take, hvl, Nat.min_eq_left (by omega)] at hvlt
 refine Nat.le_of_lt_succ (Nat.lt_of_not_le fun hc => ?_)
 have e1 : (b1 + 1) * R ^ p ≤ 2147483648 * R ^ p := Nat.mul_le_mul_right _ hc
 have e2 : 2147483648 * R ^ p ≤ y * 2 ^ k * R ^ p := Nat.mul_le_mul_right _ h1
 have e3 : y * 2 ^ k * R ^ p ≤ 2 ^ k * val ys := by
  have : R ^ p * y ≤ val ys := by omega
  have h8 : 2 ^ k * (R ^ p * y) ≤ 2 ^ k * val ys := Nat.mul_le_mul_left _ this
  have h9 : 2 ^ k * (R ^ p * y) = y * 2 ^ k * R ^ p := by simp only [Nat.mul_assoc, Nat.mul_comm, Nat.mul_left_comm]
  omega
 rw [Nat.add_mul, Nat.one_mul, Nat.mul_comm b1] at e1
 omega

/-- What is moved out of the dividend is less than the divisor's highest limb. -/
theorem scaled_start {zs xs vs : List Nat} {n p k cy b1 : Nat} (hx : Lim xs) (hxl : xs.length = n) (hzl : zs.length = n) (hz : Lim zs) (hk : k < 32) (h : val zs + R ^ n * cy = 0 + 2 ^ k * val xs) (hp : p ≤ n)
  (hvl : vs.length = p + 1) (hb1 : vs[p]? = some b1) (hb : 2147483648 ≤ b1) : LDm (zs ++ [cy]) (val vs) n (p + 1) (n - p) (n - p) ((zs ++ [cy]).drop (n - p)) [] := by
 have hcy : cy < 2 ^ k := by
  have h1 := val_lt hx
  rw [hxl] at h1
  have h2 : 2 ^ k * val xs < 2 ^ k * R ^ n := Nat.mul_lt_mul_of_pos_left h1 (Nat.pow_pos (by omega))
  refine Nat.lt_of_mul_lt_mul_left (a := R ^ n) ?_
  rw [Nat.mul_comm (R ^ n) (2 ^ k)]
  omega
 have hk2 : 2 ^ k ≤ 2147483648 := by
  have : 2 ^ k ≤ 2 ^ 31 := Nat.pow_le_pow_right (by omega) (by omega)
  exact this
 have hlim : Lim (zs ++ [cy]) := hz.append (Lim.cons (by rw [R_eq]; omega) Lim.nil)
 refine ⟨Nat.le_refl _, by rw [List.length_drop, List.length_append, hzl]; simp, by simp, hlim.drop _, Lim.nil, ?_, by simp [val]⟩
 rw [List.drop_append_of_le_length (by omega), val_append, val_one, List.length_drop, hzl, show n - (n - p) = p by omega]
 have h3 := val_lt (hz.drop (n - p))
 rw [List.length_drop, hzl, show n - (n - p) = p by omega] at h3
 have ev := val_take_some hb1
 rw [List.take_of_length_le (by omega)] at ev
 have h4 : R ^ p * (cy + 1) ≤ R ^ p * b1 := Nat.mul_le_mul_left _ (by omega)
 rw [Nat.mul_add, Nat.mul_one] at h4
 omega

theorem LDm.done {rest0 ws qs : List Nat} {T X Y n m L : Nat} (h : LDm rest0 (T * Y) n m L 0 ws qs) (hT : 0 < T) (hX : val rest0 = T * X) : val qs = X / Y ∧ val ws / T = X % Y := by
 have e := h.eq
 rw [List.drop_zero, hX] at e
 have h1 := div_done h.lt e
 rw [Nat.mul_div_mul_left _ _ hT] at h1
 refine ⟨h1.1, ?_⟩
 rw [h1.2, Nat.mul_mod_mul_left, Nat.mul_div_cancel_left _ hT]
end M

/-- append of one limb: it stays in its block, or lies in a new one. -/
theorem app_one_at (w : World) {ops : Array Oper} {rest : List Oper} {o : Oper} {a : Act} {Q : Exit → Act → World → Prop} (hgd : o.guard = none) (s x : Operand)
  (ho : o.op = .call { callee := .builtin .append, args := #[s, x], argTypes := #[22, 22] })
  (base g n c : Nat) (xs : List Nat) (hs : a.eval s = .slice (some ⟨g, 0, none⟩) n c) (hown : Own w base (some ⟨g, 0, none⟩) n c xs)
  (B : Addr) (y : Nat) (hx : a.eval x = .slice (some B) 1 1) (hr : Rd w (some B) 1 1 [y]) (hbd : n + 1 ≤ 8388608) (hbase : base ≤ w.heap.size)
  (h : ∀ g' c' w', Own w' base (some ⟨g', 0, none⟩) (n + 1) c' (xs ++ [y]) → w.grownBy w' (some g) → (g' = g ∨ g' = w.heap.size) → wpList Tryz.prog ops Q rest (a.put o.dst (.slice (some ⟨g', 0, none⟩) (n + 1) c')) w') :
  wpList Tryz.prog ops Q (o :: rest) a w := by
 obtain ⟨i0, hi, hz0, hz1, hz2⟩ := info_parts kU32.info
 refine wpList_append_own_at w hgd s x 22 ho base 44 i0 (kU32.enc kU32.zero) 1 4 Tryz.underlying22 hi hz0 hz1 hz2 kU32.zsize (by decide) _ n (xs.map kU32.enc) hs hown.row B 1 1 [kU32.enc y] hx rfl ?_ ?_ ?_ ?_ hbase ?_
 ·intro j u hj
  match j, hj with
  | 0, hj =>
   simp at hj
   subst hj
   obtain ⟨b, o', hA, hc⟩ := hr.cells (by omega)
   cases hA
   have := hc 0 y rfl
   rw [Addr.add_lit]
   exact this
 ·intro u hu
  simp at hu
  subst hu
  rfl
 ·unfold maxLen; omega
 ·omega
 ·intro v' w' h1 h2 h3 h4
  have hlim : ∀ z ∈ xs ++ [y], kU32.ok z := by
   intro z hz
   rcases List.mem_append.1 hz with hz | hz
   ·exact hown.lim z hz
   ·exact hr.lim z hz
  rcases h1.2 with ⟨rfl, h0⟩ | ⟨g', cap, cur, rfl, r⟩
  ·omega
  ·refine h g' cap w' ⟨?_, hlim⟩ h2 ?_
   ·rw [List.map_append]
    exact h1
   ·simpa [Value.ownBlock] using h4

/-- The loop's state in the world. -/
structure LD (w wr : World) (g c gq g2 c2 n m L : Nat) (rest0 vs : List Nat) (j : Nat) (ws qs : List Nat) : Prop where
 math : M.LDm rest0 (M.val vs) n m L j ws qs
 own : Own wr w.heap.size (some ⟨g, 0, none⟩) (n + 1) c (rest0.take j ++ ws)
 ownq : Own wr w.heap.size (some ⟨gq, 0, none⟩) L L (List.replicate j 0 ++ qs)
 rd : Rd wr (some ⟨g2, 0, none⟩) m c2 vs
 below : Below w.heap.size w wr

/-- One limb written. -/
theorem set_rep (j : Nat) (qs : List Nat) (q : Nat) : (List.replicate (j + 1) 0 ++ qs).set j q = List.replicate j 0 ++ q :: qs := by
 rw [List.replicate_succ', List.append_assoc, List.set_append, if_neg (by simp)]
 simp

theorem LD.step {w wr w2 : World} {g c gq g2 c2 n m L j r0 q : Nat} {rest0 vs ws qs ys : List Nat} (h : LD w wr g c gq g2 c2 n m L rest0 vs (j + 1) ws qs) (hg : w.heap.size ≤ g) (hgq : g ≠ gq) (hg2 : g2 ≠ g) (hg2q : g2 ≠ gq) (hrl : rest0.length = n + 1) (hj : rest0[j]? = some r0) (hr0 : r0 < M.R) (hm : m ≤ ws.length) (hm1 : 1 ≤ m)
  (hyl : ys.length = m + 1) (hys : M.Lim ys) (hyv : M.val ys = (r0 + M.R * M.val ws) % M.val vs) (hq : q = (r0 + M.R * M.val ws) / M.val vs) (hV : M.val vs < M.R ^ m) (hVp : 0 < M.val vs) (hp : PutK kU32 wr w2 g j ys) :
  LD w (w2.setCell ⟨gq, j, none⟩ (.int .u32 (q : Int))) g c gq g2 c2 n m L rest0 vs j (ys ++ ws.drop m) (q :: qs) ∧ w2.frozen? ⟨gq, j, none⟩ = false ∧ w2.cell? ⟨gq, j, none⟩ = some (.int .u32 0) := by
 have hmm := h.math.step hV hVp hj hr0 hm hm1 hyl hys hyv
 rw [← hq] at hmm
 have hql : q < M.R := hmm.qlim.head
 have hle := h.math.le
 have hwl := h.math.wl
 have hjl : j < rest0.length := (List.getElem?_eq_some_iff.1 hj).1
 have ho := h.own.put hp (by rw [hyl]; omega) hys
 have hlist : (rest0.take (j + 1) ++ ws).take j ++ ys ++ (rest0.take (j + 1) ++ ws).drop (j + ys.length) = rest0.take j ++ (ys ++ ws.drop m) := by
  rw [List.take_append_of_le_length (by rw [List.length_take]; omega), List.take_take, Nat.min_eq_left (by omega), List.append_assoc, List.drop_append, List.drop_of_length_le (by rw [List.length_take]; omega), List.nil_append, List.length_take, Nat.min_eq_left (by omega), hyl, show j + (m + 1) - (j + 1) = m by omega]
 rw [hlist] at ho
 have hoq := h.ownq.grown hp.grown (fun p hp e => by cases hp; injection e with e; exact hgq e.symm)
 obtain ⟨hoq2, hgr⟩ := hoq.set_ j q hql
 rw [set_rep] at hoq2
 have hcell : w2.cell? ⟨gq, j, none⟩ = some (.int .u32 0) := by
  have := hoq.cellAt (j := j) (x := 0) (by rw [List.getElem?_append_left (by simp), List.getElem?_replicate, if_pos (by omega)])
  exact this
 refine ⟨⟨hmm, ?_, hoq2, ?_, ?_⟩, hoq.frozenAt j, hcell⟩
 ·exact ho.grown hgr (fun p hp e => by cases hp; injection e with e; exact hgq e)
 ·exact (h.rd.put hp (fun p hp _ => by cases hp; exact hg2)).grown hgr (fun p hp _ e => by cases hp; injection e with e; exact hg2q e)
 ·have h1 := h.below.grown hp.grown h.below.size (fun k hk => by cases hk; exact hg)
  exact h1.setCell (p := ⟨gq, j, none⟩) (hoq.lt rfl).1 _

def Gives12 (w : World) (xs ys : List Nat) (e : Ending) (w' : World) : Prop :=
 ∃ A c B d, e = .returned (.tuple #[.slice A xs.length c, .slice B ys.length d]) ∧ Own w' w.heap.size A xs.length c xs ∧ Own w' w.heap.size B ys.length d ys ∧
  (∀ p q, A = some p → B = some q → p.block ≠ q.block) ∧ Below w.heap.size w w'

set_option maxHeartbeats 4000000 in
theorem longDivide_any (A : Option Addr) (n c : Nat) (xs : List Nat) (B : Option Addr) (p d : Nat) (ys : List Nat) (y : Nat) (w : World) (h : Rd w A n c xs) (k : Rd w B (p + 2) d ys) (hn : n ≤ 1048576) (hm : p + 2 ≤ n)
  (hy : ys[p + 1]? = some y) (hy0 : 0 < y) : Calls Tryz.prog 153 #[.slice A n c, .slice B (p + 2) d] w (Gives12 w (M.lims (M.val xs / M.val ys)) (M.lims (M.val xs % M.val ys))) := by
 obtain ⟨b, o, y', hB, hy', hyl, hcell⟩ := k.at32 (i := p + 1) (by omega)
 rw [hy] at hy'
 injection hy' with hy'
 subst hy'
 subst hB
 rw [M.R_eq] at hyl
 have H := Lib.hid h
 have K := Lib.hid k
 have HY := Lib.hid hy
 clear h k hy
 go_enter Tryz.func153, Tryz.ntmps153
 go_wp2_with fail
 refine (lz32_any y w hy0 hyl).mono ?_
 rintro e w' ⟨k, rfl, ⟨hk, hk1, hk2⟩, rfl⟩
 obtain ⟨T, hT⟩ : ∃ T, T = 2 ^ k := ⟨_, rfl⟩
 have hTp : 0 < T := by rw [hT]; exact Nat.pow_pos (by omega)
 have hTl : T ≤ 2147483648 := by
  have : 2 ^ k ≤ 2 ^ 31 := Nat.pow_le_pow_right (by omega) (by omega)
  rw [hT]
  exact this
 have hT2 : (2 : Int) ^ k % 4294967296 = (T : Int) := by
  have e : (2 : Int) ^ k = ((2 ^ k : Nat) : Int) := by simp
  rw [e, ← hT]
  omega
 have hne : ¬ n = 0 := by omega
 have HK := Lib.hid hk
 have HK1 := Lib.hid hk1
 have HK2 := Lib.hid (show y * 2 ^ k < M.R by rw [M.R_eq]; exact hk2)
 have HT := Lib.hid hT
 clear hk1 hk2 hT
 go_wp2_with fail
 refine (clone_any _ _ _ _ _ H.out (by omega)).mono ?_
 rw [Gives_len H.out.len]
 rintro e w1 ⟨A1, c1, rfl, ho1, hb1⟩
 obtain ⟨g1, rfl, hg1, hg1'⟩ := ho1.head (by omega)
 have HO1 := Lib.hid ho1
 have HB1 := Lib.hid hb1
 clear ho1 hb1
 go_wp2_with fail
 refine (clone_any _ _ _ _ _ (K.out.below HB1.out) (by omega)).mono ?_
 rw [Gives_len K.out.len]
 rintro e w2 ⟨A2, c2, rfl, ho2, hb2⟩
 obtain ⟨g2, rfl, hg2, hg2'⟩ := ho2.head (by omega)
 have ho1' := HO1.out.below hb2
 have hb2' := HB1.out.trans (hb2.mono HB1.out.size)
 have hwr1 := OwK.wr (o := 0) (m := n) ho1' (by omega)
 rw [List.drop_zero, List.take_of_length_le (by rw [H.out.len]; exact Nat.le_refl _)] at hwr1
 have HO1' := Lib.hid ho1'
 have HO2 := Lib.hid ho2
 have HB2 := Lib.hid hb2'
 have HW1 := Lib.hid hwr1
 clear ho1' ho2 hb2 hb2' hwr1 HO1
 go_wp2_with fail
 refine (scale_any g1 0 n c1 xs T 0 w2 HW1.out (by omega) (by omega) (by omega)).mono ?_
 rintro e w3 ⟨zs, cy, rfl, hcy, hzl, hzs, hzv, hp3⟩
 have ho3 := HO1'.out.put hp3 (by omega) hzs
 rw [List.take_zero, List.nil_append, Nat.zero_add, hzl, List.drop_of_length_le (by rw [H.out.len]; exact Nat.le_refl _), List.append_nil] at ho3
 have ho2' := HO2.out.grown hp3.grown (fun q hq e => by cases hq; injection e with e; dsimp only at e; omega)
 have hb3 := HB2.out.grown hp3.grown HB2.out.size (fun k hk => by cases hk; exact hg1)
 have HSZ3 := Lib.hid hp3.size
 have HO3 := Lib.hid ho3
 have HO2' := Lib.hid ho2'
 have HB3 := Lib.hid hb3
 have HCY := Lib.hid hcy
 have HZL := Lib.hid hzl
 have HZS := Lib.hid hzs
 have HZV := Lib.hid hzv
 clear ho3 ho2' hb3 hcy hzl hzs hzv hp3 HO2 HO1' HB2 HW1
 go_wp2_with (at_builtin; refine app_one_at _ rfl _ _ rfl w.heap.size g1 n c1 zs rfl (HO3.out.alloc _) _ cy rfl (RdK.one _ cy HCY.out) (by omega) (by have := HB3.out.size; simp; omega) ?_; intro g3 c3 w4 ho4 hg4 hg3; have HO4 := Lib.hid ho4; have HG4 := Lib.hid hg4; have HG3 := Lib.hid hg3; clear ho4 hg4 hg3)
 have hg3 : w.heap.size ≤ g3 := (HO4.out.lt rfl).1
 have hsz4 := HG4.out.size
 have hg23 : g2 ≠ g3 := by
  have h1 := HSZ3.out
  have h2 := HG3.out
  simp only [World.size_alloc] at h2
  omega
 have ho2 := (HO2'.out.alloc (.cells #[.int .u32 (cy : Int)] 44)).grown HG4.out (fun q hq e => by cases hq; injection e with e; dsimp only at e; omega)
 have hb4 := below_app HB3.out HB3.out.size HO3.out HG4.out
 have hwr2 := OwK.wr (o := 0) (m := p + 2) ho2 (by omega)
 rw [List.drop_zero, List.take_of_length_le (by rw [K.out.len]; exact Nat.le_refl _)] at hwr2
 have HO2 := Lib.hid ho2
 have HB4 := Lib.hid hb4
 have HW2 := Lib.hid hwr2
 clear ho2 hb4 hwr2 HO2' HB3 hsz4
 go_wp2_with fail
 refine (scale_any g2 0 (p + 2) c2 ys T 0 w4 HW2.out (by omega) (by omega) (by omega)).mono ?_
 rintro e w5 ⟨vs, cy2, rfl, hcy2, hvl, hvs, hvv, hp5⟩
 rw [HT.out] at hvv
 obtain ⟨hvv2, b1, hb1, hb1l⟩ := M.scaled_by K.out.len HY.out K.out.Lim HK1.out HK2.out HK.out hvl hvs hvv
 have hzv := HZV.out
 rw [HT.out] at hzv
 have hst := M.scaled_start H.out.Lim H.out.len HZL.out HZS.out HK.out hzv (p := p + 1) (by omega) hvl hb1 hb1l
 have ho2 := HO2.out.put hp5 (by omega) hvs
 rw [List.take_zero, List.nil_append, Nat.zero_add, hvl, List.drop_of_length_le (by rw [K.out.len]; exact Nat.le_refl _), List.append_nil] at ho2
 have ho5 := HO4.out.grown hp5.grown (fun q hq e => by cases hq; injection e with e; exact hg23 e.symm)
 have hb5 := HB4.out.grown hp5.grown HB4.out.size (fun k hk => by cases hk; have := HB1.out.size; omega)
 have hVlt := M.val_lt hvs
 rw [hvl] at hVlt
 have hVp : 0 < M.val vs := by
  have ev := M.val_take_some hb1
  rw [List.take_of_length_le (by omega)] at ev
  have : 0 < M.R ^ (p + 1) * b1 := Nat.mul_pos (Nat.pow_pos M.R_pos) (by omega)
  omega
 have hXT : M.val (zs ++ [cy]) = T * M.val xs := by
  rw [M.val_append, M.val_one, HZL.out]
  have := HZV.out
  omega
 have hVT : M.val vs = T * M.val ys := by rw [hvv2, HT.out]
 have hrl : (zs ++ [cy]).length = n + 1 := by simp [HZL.out]
 obtain ⟨L, hL⟩ : ∃ L, L + (p + 1) = n := ⟨n - (p + 1), by omega⟩
 have hL2 : n - (p + 1) = L := by omega
 rw [hL2] at hst
 have hG25 : g2 < w5.heap.size := (ho2.lt rfl).2
 clear hL2
 have HST := Lib.hid hst
 have HRD5 := Lib.hid ho2.rd
 have HO5 := Lib.hid ho5
 have HB5 := Lib.hid hb5
 have HVL := Lib.hid hVlt
 have HVP := Lib.hid hVp
 have HXT := Lib.hid hXT
 have HVT := Lib.hid hVT
 have HRL := Lib.hid hrl
 have HB1' := Lib.hid hb1
 clear hst ho2 ho5 hb5 hVlt hVp hXT hVT hrl hb1 hvv hvv2 hzv hcy2 hvl hvs hp5 HO2 HB4 HW2 HO4 HZV HZL HZS HCY HK1 HK2 HY HT
 have hG35 : g3 < w5.heap.size := (HO5.out.lt rfl).2
 go_wp2_with (at_make; refine make_full kU32 _ rfl _ _ rfl .i64 .i64 _ _ L rfl rfl (by omega) (by omega) (by omega) M.R_pos ?_; intro w6 ho6 hb6; have HO6 := Lib.hid ho6; have HB6 := Lib.hid hb6; clear ho6 hb6)
 go_loopw [10] (fun i wr => ∃ (j : Nat) (ws qs : List Nat), j ≤ L ∧ i = .int .i64 ((j : Int) - 1) ∧ LD w wr g3 c3 w5.heap.size g2 c2 n (p + 2) L (zs ++ [cy]) vs j ws qs) (fun i _ => (intOf i + 1).toNat)
 case atStart =>
  refine ⟨L, _, [], Nat.le_refl _, rfl, HST.out, ?_, ?_, ?_, ?_⟩
  ·rw [List.take_append_drop]
   exact HO5.out.below HB6.out
  ·rw [List.append_nil]
   exact HO6.out.mono HB5.out.size
  ·exact HRD5.out.below HB6.out
  ·exact HB5.out.trans (HB6.out.mono HB5.out.size)
 case round =>
  obtain ⟨j, ws, qs, hj, rfl, hld⟩ := hrel
  have HLD := Lib.hid hld
  clear hld HST HO5 HRD5 HB5 HO6 HB6
  have hgq : g3 ≠ w5.heap.size := by omega
  have hg2q : g2 ≠ w5.heap.size := by omega
  by_cases h0 : j = 0
  ·subst h0
   have hm := HLD.out.math
   rw [HVT.out] at hm
   obtain ⟨hq, hr⟩ := hm.done hTp HXT.out
   have ho := HLD.out.own
   have hwl := HLD.out.math.wl
   have hql := HLD.out.math.ql
   have hqlim := HLD.out.math.qlim
   rw [List.take_zero, List.nil_append] at ho
   have hoq := HLD.out.ownq
   rw [List.replicate_zero, List.nil_append] at hoq
   have hwr := OwK.wr (o := 0) (m := n + 1) ho (by omega)
   rw [List.drop_zero, List.take_of_length_le (by omega)] at hwr
   have HO := Lib.hid ho
   have HOQ := Lib.hid hoq
   have HW := Lib.hid hwr
   have HQ := Lib.hid hq
   have HR := Lib.hid hr
   have HB := Lib.hid HLD.out.below
   have HQL := Lib.hid hqlim
   have HWL := Lib.hid hwl
   clear hm ho hoq hwr hq hr hql hqlim hwl
   go_wp2_with fail
   refine (divideBy_any g3 0 (n + 1) c3 ws T wr HW.out (by omega) hTp (by omega)).mono ?_
   rintro e w7 ⟨rs, rfl, hrl, hrs, hrv, hp7⟩
   have ho7 := HO.out.put hp7 (by omega) hrs
   rw [List.take_zero, List.nil_append, Nat.zero_add, hrl, List.drop_of_length_le (by rw [HWL.out]; omega), List.append_nil] at ho7
   have hoq7 := HOQ.out.grown hp7.grown (fun q hq e => by cases hq; injection e with e; exact hgq e.symm)
   have hb7 := HB.out.grown hp7.grown HB.out.size (fun k hk => by cases hk; exact hg3)
   have e1 : M.tr qs = M.lims (M.val xs / M.val ys) := by rw [M.tr_eq_lims HQL.out, HQ.out]
   have e2 : M.tr rs = M.lims (M.val xs % M.val ys) := by rw [M.tr_eq_lims hrs, hrv, HR.out]
   have HO7 := Lib.hid ho7
   have HOQ7 := Lib.hid hoq7
   have HB7 := Lib.hid hb7
   have E1 := Lib.hid e1
   have E2 := Lib.hid e2
   clear ho7 hoq7 hb7 e1 e2 hrl hrs hrv hp7
   go_wp2_with fail
   refine (short_any _ _ _ _ _ HOQ7.out.rd (by omega)).mono ?_
   rintro e w' ⟨rfl, rfl⟩
   go_wp2_with fail
   refine (short_any _ _ _ _ _ HO7.out.rd (by omega)).mono ?_
   rintro e w' ⟨rfl, rfl⟩
   go_wp2_with fail
   go_ret2
   have s1 := HOQ7.out.short
   have s2 := HO7.out.short
   rw [E1.out] at s1
   rw [E2.out] at s2
   rw [E1.out, E2.out]
   exact ⟨_, _, _, _, rfl, s1, s2, (fun a b ha hb e => by cases ha; cases hb; exact hgq e.symm), HB7.out⟩
  ·obtain ⟨i, rfl⟩ : ∃ i, j = i + 1 := ⟨j - 1, by omega⟩
   have hji : ((i + 1 : Nat) : Int) - 1 = (i : Int) := by omega
   have hwl := HLD.out.math.wl
   have hm2 : p + 2 ≤ ws.length := by omega
   obtain ⟨r0, hr0⟩ : ∃ r0, (zs ++ [cy])[i]? = some r0 := ⟨(zs ++ [cy])[i]'(by rw [HRL.out]; omega), List.getElem?_eq_getElem _⟩
   have hr0l : r0 < M.R := by
    refine HLD.out.own.lim r0 ?_
    refine List.mem_append.2 (.inl ?_)
    rw [M.tr_take_succ hr0]
    simp
   obtain ⟨hpc, hpv⟩ := HLD.out.math.piece HVL.out hr0 hm2
   have hplt := HLD.out.math.piece_lt hr0l
   have hwr := OwK.wr (o := i) (m := p + 2 + 1) HLD.out.own (by omega)
   rw [hpc] at hwr
   have HW := Lib.hid hwr
   have HPV := Lib.hid hpv
   have HPL := Lib.hid hplt
   have HR0 := Lib.hid hr0
   have HR0L := Lib.hid hr0l
   have HM2 := Lib.hid hm2
   have hc3 : n + 1 ≤ c3 := HLD.out.own.rd.cap
   clear hwr hpv hplt hr0 hr0l hm2 hwl hpc h0
   have hie : i + (p + 2) + 1 - i = p + 2 + 1 := by omega
   have hne2 : ¬ c3 = i := by omega
   go_wp2_with fail
   refine (divideLimb_any g3 i p (c3 - i) _ g2 0 c2 vs b1 wr HW.out HLD.out.rd (by omega) hg23 (by omega) HB1'.out hb1l (by rw [HPV.out]; exact HPL.out)).mono ?_
   rw [HPV.out]
   rintro e w7 ⟨rs, rfl, hrl, hrs, hrv, hp7⟩
   obtain ⟨q, hq⟩ : ∃ q, q = (r0 + M.R * M.val ws) / M.val vs := ⟨_, rfl⟩
   obtain ⟨hst, hfz, hcl⟩ := HLD.out.step hg3 hgq hg23 hg2q HRL.out HR0.out HR0L.out HM2.out (by omega) hrl hrs hrv hq HVL.out HVP.out hp7
   rw [← hq]
   have HST := Lib.hid hst
   clear hst hrl hrs hrv hp7 hq
   go_wp2
   go_roundw
   case rel => exact ⟨i, _, _, by omega, by go_num, HST.out⟩
   case measure => simp [intOf]

end Go.Proofs.YtbhgbilhoonopaaGreat

/- nat.Div and nat.Gcd of all numbers. -/
namespace Go.Proofs.YtbhgbilhoonopaaGreat
open Go.RowKit
set_option linter.unusedVariables false

namespace M
theorem tr_last {xs : List Nat} {p : Nat} (h : (tr xs).length = p + 1) : ∃ y, (tr xs)[p]? = some y ∧ 0 < y := by
 obtain ⟨y, hy⟩ : ∃ y, (tr xs)[p]? = some y := ⟨(tr xs)[p]'(by omega), List.getElem?_eq_getElem _⟩
 refine ⟨y, hy, ?_⟩
 rcases Nat.eq_zero_or_pos y with h0 | h0
 ·exfalso
  have e := tr_take_succ hy
  rw [List.take_of_length_le (by omega), h0] at e
  have h1 := tr_tr xs
  have h2 := tr_length_le ((tr xs).take p)
  rw [e, tr_snoc_zero] at h1
  have h3 := congrArg List.length h1
  rw [List.length_append, List.length_take] at h3
  rw [List.length_take] at h2
  simp at h3
  omega
 ·exact h0
theorem lt_of_tr_length {xs ys : List Nat} (hx : Lim xs) (hy : Lim ys) (h : (tr xs).length < (tr ys).length) : val xs < val ys := by
 have h1 := (lims_length_le (n := val xs) (k := (tr xs).length)).1 (by rw [tr_eq_lims hx]; exact Nat.le_refl _)
 rw [tr_eq_lims hy] at h
 refine Nat.lt_of_not_le fun hc => ?_
 have := (lims_length_le (n := val ys) (k := (tr xs).length)).2 (by omega)
 omega
end M

set_option maxHeartbeats 2000000 in
theorem div_long (A : Option Addr) (n c : Nat) (xs : List Nat) (B : Option Addr) (m d : Nat) (ys : List Nat) (p : Nat) (w : World) (h : Rd w A n c xs) (k : Rd w B m d ys) (hn : n ≤ 1048576) (hm : m ≤ 1048576)
  (hp : (M.tr ys).length = p + 2) (hle : p + 2 ≤ (M.tr xs).length) : Calls Tryz.prog 133 #[.slice A n c, .slice B m d] w (Gives2 w (M.lims (M.val xs / M.val ys)) (M.lims (M.val xs % M.val ys)) 0) := by
 have h1 := M.tr_length_le xs
 rw [h.len] at h1
 obtain ⟨y, hy, hy0⟩ := M.tr_last (p := p + 1) hp
 have hs := h.short
 have ks := k.short
 rw [hp] at ks
 obtain ⟨nx, hnx⟩ : ∃ nx, (M.tr xs).length = nx := ⟨_, rfl⟩
 rw [hnx] at hs hle h1
 have H := Lib.hid h
 have K := Lib.hid k
 have HS := Lib.hid hs
 have KS := Lib.hid ks
 have HP := Lib.hid hp
 have HNX := Lib.hid hnx
 have HY := Lib.hid hy
 clear h k hs ks hp hnx hy
 have hne : ((nx : Int) < (p : Int) + 2) = False := by simp; omega
 have hne1 : (((p : Int) + 2) == 0) = false := by simp; omega
 have hne2 : (((p : Int) + 2) == 1) = false := by simp; omega
 go_enter Tryz.func133, Tryz.ntmps133
 go_wp2_with fail
 refine (short_any _ _ _ _ _ H.out (by omega)).mono ?_
 rw [HNX.out]
 rintro e w' ⟨rfl, rfl⟩
 go_wp2_with fail
 refine (short_any _ _ _ _ _ K.out (by omega)).mono ?_
 rw [HP.out]
 rintro e w' ⟨rfl, rfl⟩
 go_wp2_with fail
 refine (longDivide_any _ _ _ _ _ _ _ _ y _ HS.out KS.out (by omega) hle HY.out hy0).mono ?_
 rw [M.val_tr, M.val_tr]
 rintro e w1 ⟨A1, c1, B1, d1, rfl, ho1, ho2, hne, hb⟩
 go_wp2_with fail
 go_ret3
 exact ⟨A1, c1, B1, d1, rfl, ho1, ho2, hne, hb⟩

theorem div_all (A : Option Addr) (n c : Nat) (xs : List Nat) (B : Option Addr) (m d : Nat) (ys : List Nat) (w : World) (h : Rd w A n c xs) (k : Rd w B m d ys) (hn : n ≤ 1048576) (hm : m ≤ 1048576) (h0 : M.val ys ≠ 0) :
  Calls Tryz.prog 133 #[.slice A n c, .slice B m d] w (Gives2 w (M.lims (M.val xs / M.val ys)) (M.lims (M.val xs % M.val ys)) 0) := by
 have hpos : 0 < (M.tr ys).length := by
  refine Nat.pos_of_ne_zero fun hc => h0 ?_
  exact (M.tr_eq_nil_iff ys).1 (List.eq_nil_of_length_eq_zero hc)
 by_cases hl : (M.tr xs).length < (M.tr ys).length
 ·have hlt := M.lt_of_tr_length h.Lim k.Lim hl
  rw [Nat.div_eq_of_lt hlt, Nat.mod_eq_of_lt hlt, M.lims_zero, ← M.tr_eq_lims h.Lim]
  exact div_less A n c xs B m d ys w h k hn hm hl
 ·by_cases h1 : (M.tr ys).length = 1
  ·obtain ⟨y, hy⟩ := List.length_eq_one_iff.1 h1
   have hv : M.val ys = y := by rw [← M.val_tr, hy, M.val_one]
   rw [hv]
   exact div_limb A n c xs B m d ys y w h k hn hm hy (by omega)
  ·obtain ⟨p, hp⟩ : ∃ p, (M.tr ys).length = p + 2 := ⟨(M.tr ys).length - 2, by omega⟩
   exact div_long A n c xs B m d ys p w h k hn hm hp (by omega)

theorem M.lims_length_le_of_le {x y : Nat} {k : Nat} (h : x ≤ y) (hy : (M.lims y).length ≤ k) : (M.lims x).length ≤ k := by
 rw [M.lims_length_le] at hy ⊢
 omega

def GcdR (w : World) (G base k : Nat) (p q : Value) (wr : World) : Prop :=
 ∃ A1 n1 c1 A2 n2 c2 a, p = .slice A1 n1 c1 ∧ q = .slice A2 n2 c2 ∧ Own wr base A1 n1 c1 (M.lims a) ∧ Own wr base A2 n2 c2 (M.lims k) ∧ n1 ≤ 1048576 ∧ n2 ≤ 1048576 ∧ Nat.gcd a k = G ∧ Below base w wr

set_option maxHeartbeats 4000000 in
theorem gcd_all (A : Option Addr) (n c : Nat) (xs : List Nat) (B : Option Addr) (m d : Nat) (ys : List Nat) (w : World) (h : Rd w A n c xs) (k : Rd w B m d ys) (hn : n ≤ 1048576) (hm : m ≤ 1048576) :
  Calls Tryz.prog 99 #[.slice A n c, .slice B m d] w (Gives w (M.lims (Nat.gcd (M.val xs) (M.val ys)))) := by
 obtain ⟨G, hG⟩ : ∃ G, G = Nat.gcd (M.val xs) (M.val ys) := ⟨_, rfl⟩
 rw [← hG]
 have HGG := Lib.hid hG
 clear hG
 have H := Lib.hid h
 have K := Lib.hid k
 clear h k
 have hlx : (M.lims (M.val xs)).length ≤ 1048576 := by have := M.lims_val_length_le H.out.Lim; rw [H.out.len] at this; omega
 have hly : (M.lims (M.val ys)).length ≤ 1048576 := by have := M.lims_val_length_le K.out.Lim; rw [K.out.len] at this; omega
 obtain ⟨nx, hnx⟩ : ∃ nx, (M.lims (M.val xs)).length = nx := ⟨_, rfl⟩
 obtain ⟨ny, hny⟩ : ∃ ny, (M.lims (M.val ys)).length = ny := ⟨_, rfl⟩
 rw [hnx] at hlx
 rw [hny] at hly
 have HNX := Lib.hid hnx
 have HNY := Lib.hid hny
 clear hnx hny
 go_enter Tryz.func99, Tryz.ntmps99
 go_wp2_with fail
 refine (trim_any _ _ _ _ _ H.out (by omega)).mono ?_
 rw [Gives_len HNX.out]
 rintro e w1 ⟨A1, c1, rfl, ho1, hb1⟩
 have HO1 := Lib.hid ho1
 have HB1 := Lib.hid hb1
 clear ho1 hb1
 go_wp2_with fail
 refine (trim_any _ _ _ _ _ (K.out.below HB1.out) (by omega)).mono ?_
 rw [Gives_len HNY.out]
 rintro e w2 ⟨A2, c2, rfl, ho2, hb2⟩
 have HR := Lib.hid (show GcdR w G w.heap.size (M.val ys) (.slice A1 nx c1) (.slice A2 ny c2) w2 from
  ⟨A1, nx, c1, A2, ny, c2, M.val xs, rfl, rfl, HO1.out.below hb2, ho2.mono HB1.out.size, hlx, hly, HGG.out.symm, HB1.out.trans (hb2.mono HB1.out.size)⟩)
 clear ho2 hb2 HO1 HB1
 go_wp2_with fail
 go_loopg [0, 1] (M.val ys) (fun k p q wr => GcdR w G w.heap.size k p q wr)
 case atStart => exact HR.out
 case round =>
  obtain ⟨A3, n3, c3, A4, n4, c4, a, rfl, rfl, ho3, ho4, hn3, hn4, hg, hb⟩ := hrel
  have HO3 := Lib.hid ho3
  have HO4 := Lib.hid ho4
  have HG := Lib.hid hg
  have HB := Lib.hid hb
  have hl3 := ho3.len
  have hl4 := ho4.len
  have HL3 := Lib.hid hl3
  have HL4 := Lib.hid hl4
  clear HR ho3 ho4 hg hb HGG hl3 hl4 H K HNX HNY hlx hly
  by_cases h0 : n4 = 0
  ·have hv : gk = 0 := by
    have := HL4.out
    rw [h0] at this
    exact M.lims_eq_nil.1 (List.eq_nil_of_length_eq_zero this)
   have HE := Lib.hid (show a = G by rw [← HG.out, hv, Nat.gcd_zero_right])
   clear hv
   subst h0
   go_wp2_with fail
   go_ret
   rw [← HE.out, Gives_len HL3.out]
   exact ⟨A3, c3, rfl, HO3.out, HB.out⟩
  ·have hpos : 0 < n4 := by omega
   have hkp : 0 < gk := by
    rcases Nat.eq_zero_or_pos gk with h | h
    ·have := HL4.out
     rw [h, M.lims_zero] at this
     simp at this
     omega
    ·exact h
   by_cases ha : a < 18446744073709551616
   ·by_cases hk : gk < 18446744073709551616
    ·have hgl : G < 18446744073709551616 := by
      rw [← HG.out]
      exact Nat.lt_of_le_of_lt (Nat.gcd_le_right _ hkp) hk
     go_wp2_with fail
     refine (small_yes _ _ _ _ _ HO3.out.rd (by omega) (by rw [M.val_lims]; exact ha)).mono ?_
     rw [M.val_lims]
     rintro e w' ⟨rfl, rfl⟩
     go_wp2_with fail
     refine (small_yes _ _ _ _ _ HO4.out.rd (by omega) (by rw [M.val_lims]; exact hk)).mono ?_
     rw [M.val_lims]
     rintro e w' ⟨rfl, rfl⟩
     go_wp2_with fail
     refine (smallGcd_any _ _ _ ha hk).mono ?_
     rw [HG.out]
     rintro e w3 ⟨rfl, hb3⟩
     have HB3 := Lib.hid hb3
     clear hb3
     go_wp2_with fail
     refine (from_any _ _ (by omega) (by omega)).mono ?_
     rw [Int.toNat_natCast]
     rintro e w4 ⟨A5, c5, rfl, ho5, hb5⟩
     go_wp2_with fail
     go_ret
     have hb13 := HB.out.trans (HB3.out.mono HB.out.size)
     exact ⟨A5, c5, rfl, ho5.mono hb13.size, hb13.trans (hb5.mono hb13.size)⟩
    ·go_wp2_with fail
     refine (small_yes _ _ _ _ _ HO3.out.rd (by omega) (by rw [M.val_lims]; exact ha)).mono ?_
     rw [M.val_lims]
     rintro e w' ⟨rfl, rfl⟩
     go_wp2_with fail
     refine (small_no _ _ _ _ _ HO4.out.rd (by omega) (by rw [M.val_lims]; omega)).mono ?_
     rintro e w' ⟨rfl, rfl⟩
     go_wp2_with fail
     refine (div_all _ _ _ _ _ _ _ _ _ HO3.out.rd HO4.out.rd hn3 hn4 (by rw [M.val_lims]; omega)).mono ?_
     rw [M.val_lims, M.val_lims]
     rintro e w3 ⟨A5, c5, B5, d5, rfl, ho5, ho6, hne, hb5⟩
     have hmod : a % gk < gk := Nat.mod_lt _ hkp
     have HR := Lib.hid (show GcdR w G w.heap.size (a % gk) (.slice A4 n4 c4) (.slice B5 (M.lims (a % gk)).length d5) w3 from
      ⟨A4, n4, c4, B5, _, d5, gk, rfl, rfl, HO4.out.below hb5, ho6.mono HB.out.size, hn4, M.lims_length_le_of_le (Nat.le_of_lt hmod) (by rw [HL4.out]; exact hn4), by rw [← HG.out, Nat.gcd_comm gk, ← Nat.gcd_rec gk a, Nat.gcd_comm], HB.out.trans (hb5.mono HB.out.size)⟩)
     clear ho5 ho6 hne hb5
     go_wp2_with fail
     go_roundg (a % gk)
     case measure => exact hmod
     case rel => exact HR.out
   ·by_cases hk : gk < 18446744073709551616
    ·go_wp2_with fail
     refine (small_no _ _ _ _ _ HO3.out.rd (by omega) (by rw [M.val_lims]; omega)).mono ?_
     rintro e w' ⟨rfl, rfl⟩
     go_wp2_with fail
     refine (small_yes _ _ _ _ _ HO4.out.rd (by omega) (by rw [M.val_lims]; exact hk)).mono ?_
     rw [M.val_lims]
     rintro e w' ⟨rfl, rfl⟩
     go_wp2_with fail
     refine (div_all _ _ _ _ _ _ _ _ _ HO3.out.rd HO4.out.rd hn3 hn4 (by rw [M.val_lims]; omega)).mono ?_
     rw [M.val_lims, M.val_lims]
     rintro e w3 ⟨A5, c5, B5, d5, rfl, ho5, ho6, hne, hb5⟩
     have hmod : a % gk < gk := Nat.mod_lt _ hkp
     have HR := Lib.hid (show GcdR w G w.heap.size (a % gk) (.slice A4 n4 c4) (.slice B5 (M.lims (a % gk)).length d5) w3 from
      ⟨A4, n4, c4, B5, _, d5, gk, rfl, rfl, HO4.out.below hb5, ho6.mono HB.out.size, hn4, M.lims_length_le_of_le (Nat.le_of_lt hmod) (by rw [HL4.out]; exact hn4), by rw [← HG.out, Nat.gcd_comm gk, ← Nat.gcd_rec gk a, Nat.gcd_comm], HB.out.trans (hb5.mono HB.out.size)⟩)
     clear ho5 ho6 hne hb5
     go_wp2_with fail
     go_roundg (a % gk)
     case measure => exact hmod
     case rel => exact HR.out
    ·go_wp2_with fail
     refine (small_no _ _ _ _ _ HO3.out.rd (by omega) (by rw [M.val_lims]; omega)).mono ?_
     rintro e w' ⟨rfl, rfl⟩
     go_wp2_with fail
     refine (small_no _ _ _ _ _ HO4.out.rd (by omega) (by rw [M.val_lims]; omega)).mono ?_
     rintro e w' ⟨rfl, rfl⟩
     go_wp2_with fail
     refine (div_all _ _ _ _ _ _ _ _ _ HO3.out.rd HO4.out.rd hn3 hn4 (by rw [M.val_lims]; omega)).mono ?_
     rw [M.val_lims, M.val_lims]
     rintro e w3 ⟨A5, c5, B5, d5, rfl, ho5, ho6, hne, hb5⟩
     have hmod : a % gk < gk := Nat.mod_lt _ hkp
     have HR := Lib.hid (show GcdR w G w.heap.size (a % gk) (.slice A4 n4 c4) (.slice B5 (M.lims (a % gk)).length d5) w3 from
      ⟨A4, n4, c4, B5, _, d5, gk, rfl, rfl, HO4.out.below hb5, ho6.mono HB.out.size, hn4, M.lims_length_le_of_le (Nat.le_of_lt hmod) (by rw [HL4.out]; exact hn4), by rw [← HG.out, Nat.gcd_comm gk, ← Nat.gcd_rec gk a, Nat.gcd_comm], HB.out.trans (hb5.mono HB.out.size)⟩)
     clear ho5 ho6 hne hb5
     go_wp2_with fail
     go_roundg (a % gk)
     case measure => exact hmod
     case rel => exact HR.out

end Go.Proofs.YtbhgbilhoonopaaGreat

/- nat.Div and nat.Gcd in numbers alone. -/
namespace Go.Proofs.YtbhgbilhoonopaaGreat
open Go.RowKit
set_option linter.unusedVariables false

section
variable {w w' : World} {A B : Option Addr} {n c m d v x y k j : Nat}
def GivD (w : World) (q kq r kr : Nat) (code : Int) (e : Ending) (w' : World) : Prop :=
 ∃ A n c B m d, e = .returned (.tuple #[.slice A n c, .slice B m d, .int .i64 code]) ∧ Tm w' A n c q kq ∧ Tm w' B m d r kr ∧ Below w.heap.size w w'

theorem gcd_lt_pow {x y a b : Nat} (hx : x < M.R ^ a) (hy : y < M.R ^ b) : Nat.gcd x y < M.R ^ max a b := by
 have h1 : M.R ^ a ≤ M.R ^ max a b := Nat.pow_le_pow_right M.R_pos (by omega)
 have h2 : M.R ^ b ≤ M.R ^ max a b := Nat.pow_le_pow_right M.R_pos (by omega)
 rcases Nat.eq_zero_or_pos x with h | h
 ·rw [h, Nat.gcd_zero_left]
  omega
 ·have := Nat.gcd_le_left y h
  omega

theorem litT1 (w : World) (a : Nat) (v : Int) (hx : a < M.R) (h0 : a ≠ 0) (hv : v = (a : Int)) : Tm (w.alloc (.cells #[.int .u32 v] 44)) (some ⟨w.heap.size, 0, none⟩) 1 1 a 1 := by
 have := lit1 w a v hx hv
 refine ⟨?_, Nat.le_refl _⟩
 have e : M.lims a = [a] := by
  rw [M.lims_pos h0, Nat.mod_eq_of_lt hx, Nat.div_eq_of_lt hx, M.lims_zero]
 rw [e]
 exact this
end

end Go.Proofs.YtbhgbilhoonopaaGreat
namespace Go.Proofs.YtbhgbilhoonopaaGreat
open Go.RowKit
set_option linter.unusedVariables false
set_option maxRecDepth 100000

/-- What a sign and a size are worth. -/
def zv (b : Bool) (v : Nat) : Int := bif b then -(v : Int) else (v : Int)
theorem zv_false (v : Nat) : zv false v = v := rfl
theorem zv_true (v : Nat) : zv true v = -(v : Int) := rfl
theorem zv_abs (b : Bool) (v : Nat) : (zv b v).natAbs = v := by cases b <;> simp [zv]
theorem zv_not (b : Bool) (v : Nat) : zv (!b) v = - zv b v := by cases b <;> simp [zv]

/-- A number as it comes, of at most k limbs. -/
structure Zm (w : World) (b : Bool) (A : Option Addr) (n c : Nat) (z : Int) (k : Nat) : Prop where
 row : ∃ v, Nm w A n c v k ∧ zv b v = z
/-- A right number whose limbs the call made. -/
structure Zt (w : World) (base : Nat) (b : Bool) (A : Option Addr) (n c : Nat) (z : Int) (k : Nat) : Prop where
 own : Own w base A n c (M.lims z.natAbs)
 le : n ≤ k
 neg : b = decide (z < 0)

section
variable {w w' : World} {base : Nat} {b : Bool} {A B : Option Addr} {n c m d v x y k j : Nat} {z : Int}
theorem Zm.below (h : Zm w b A n c z k) (hb : Below w.heap.size w w') : Zm w' b A n c z k := by
 obtain ⟨v, h1, h2⟩ := h.row
 exact ⟨⟨v, h1.below hb, h2⟩⟩
theorem Zt.below (h : Zt w base b A n c z k) (hb : Below w.heap.size w w') : Zt w' base b A n c z k := ⟨h.own.below hb, h.le, h.neg⟩
theorem Zt.tm (h : Zt w base b A n c z k) : Tm w A n c z.natAbs k := ⟨h.own.rd, h.le⟩
theorem Zt.zm (h : Zt w base b A n c z k) : Zm w b A n c z k := by
 refine ⟨⟨z.natAbs, h.tm.nm, ?_⟩⟩
 rw [h.neg]
 by_cases hz : z < 0
 ·rw [decide_eq_true hz, zv_true]; omega
 ·rw [decide_eq_false hz, zv_false]; omega
theorem Zm.alloc (h : Zm w b A n c z k) (o : Obj) : Zm (w.alloc o) b A n c z k := h.below (bl_alloc w o)
theorem Zm.lt (h : Zm w b A n c z k) : z.natAbs < M.R ^ k := by
 obtain ⟨v, h1, rfl⟩ := h.row
 rw [zv_abs]
 exact h1.lt
theorem Zm.nm (h : Zm w b A n c z k) : Nm w A n c z.natAbs k := by
 obtain ⟨v, h1, rfl⟩ := h.row
 rw [zv_abs]
 exact h1
theorem Zm.eq (h : Zm w b A n c z k) : z = zv b z.natAbs := by
 obtain ⟨v, h1, rfl⟩ := h.row
 rw [zv_abs]

/-- A call answers a right number of its own. -/
def GivZ (w : World) (z : Int) (k : Nat) (e : Ending) (w' : World) : Prop :=
 ∃ b A n c, e = .returned (.agg #[.bool b, .slice A n c]) ∧ Zt w' w.heap.size b A n c z k ∧ Below w.heap.size w w'
/-- .. and a number of Go's int beside it. -/
def GivZE (w : World) (z : Int) (k : Nat) (o : Int) (e : Ending) (w' : World) : Prop :=
 ∃ b A n c, e = .returned (.tuple #[.agg #[.bool b, .slice A n c], .int .i64 o]) ∧ Zt w' w.heap.size b A n c z k ∧ Below w.heap.size w w'
/-- .. and a truth beside it. -/
def GivZB (w : World) (z : Int) (k : Nat) (o : Bool) (e : Ending) (w' : World) : Prop :=
 ∃ b A n c, e = .returned (.tuple #[.agg #[.bool b, .slice A n c], .bool o]) ∧ Zt w' w.heap.size b A n c z k ∧ Below w.heap.size w w'

/-- What signed makes of limbs. -/
theorem zt_signed {s : Bool} (h : Own w base A n c (M.lims v)) (hn : n ≤ k) : Zt w base (s && decide (0 < n)) A n c (zv s v) k := by
 refine ⟨by rw [zv_abs]; exact h, hn, ?_⟩
 have hl := h.len
 have h0 : 0 < n ↔ v ≠ 0 := by
  rw [← hl, List.length_pos_iff, ne_eq, M.lims_eq_nil]
 cases s
 ·rw [zv_false, Bool.false_and]
  exact (decide_eq_false (by omega)).symm
 ·rw [zv_true, Bool.true_and, decide_eq_decide, h0]
  omega

end

/-- Block g holds an api.Int. -/
structure Bz (w : World) (g : Nat) (b : Bool) (A : Option Addr) (n c : Nat) : Prop where
 row : w.heap[g]? = some (.cells #[.bool b, .slice A n c] 24 (0, 0))

section
variable {w w' w2 : World} {base g : Nat} {b : Bool} {A : Option Addr} {n c k : Nat} {z : Int}
theorem Bz.lt (h : Bz w g b A n c) : g < w.heap.size := by
 have := (Array.getElem?_eq_some_iff.1 h.row).1
 exact this
theorem Bz.below (h : Bz w g b A n c) (hb : Below w.heap.size w w') : Bz w' g b A n c := ⟨(hb.block g h.lt).trans h.row⟩
theorem Bz.alloc (h : Bz w g b A n c) (o : Obj) : Bz (w.alloc o) g b A n c := h.below (bl_alloc w o)
theorem Bz.new (w : World) (b : Bool) (A : Option Addr) (n c : Nat) : Bz (w.alloc (.cells #[.bool b, .slice A n c] 24)) w.heap.size b A n c := ⟨heap_alloc_new w _⟩
theorem hs_alloc (w : World) (o : Obj) : (w.alloc o).heap.size = w.heap.size + 1 := by simp
theorem Bz.new2 (w : World) (o : Obj) (b : Bool) (A : Option Addr) (n c : Nat) : Bz ((w.alloc o).alloc (.cells #[.bool b, .slice A n c] 24)) (w.heap.size + 1) b A n c := by
 have := Bz.new (w.alloc o) b A n c
 rw [hs_alloc] at this
 exact this
theorem Bz.new3 (w : World) (o o' : Obj) (b : Bool) (A : Option Addr) (n c : Nat) : Bz (((w.alloc o).alloc o').alloc (.cells #[.bool b, .slice A n c] 24)) (w.heap.size + 1 + 1) b A n c := by
 have := Bz.new2 (w.alloc o) o' b A n c
 rw [hs_alloc] at this
 exact this
theorem Bz.drew (h : Bz w g b A n c) : Bz w.drew g b A n c := ⟨h.row⟩
theorem Bz.c0 (h : Bz w g b A n c) : w.cell? ⟨g, 0, none⟩ = some (.bool b) := by
 rw [cell_of_row _ _ _ _ _ _ h.row]
 rfl
theorem Bz.c1 (h : Bz w g b A n c) : w.cell? ⟨g, 1, none⟩ = some (.slice A n c) := by
 rw [cell_of_row _ _ _ _ _ _ h.row]
 rfl
theorem Bz.f (h : Bz w g b A n c) (i : Nat) : w.frozen? ⟨g, i, none⟩ = false := frozen_of_row _ _ _ _ _ h.row

theorem cell_st2 {g' a i : Nat} {x y : Value} (hne : a ≠ g') : ((w.setCell ⟨g', 0, none⟩ x).setCell ⟨g', 1, none⟩ y).cell? ⟨a, i, none⟩ = w.cell? ⟨a, i, none⟩ := by
 refine World.cell?_of_block (a := ⟨a, i, none⟩) ?_
 rw [heap_setCell_other _ ⟨g', 1, none⟩ a _ hne, heap_setCell_other _ ⟨g', 0, none⟩ a _ hne]
theorem Bz.st2 {g' : Nat} {x y : Value} (h : Bz w g b A n c) (hne : g ≠ g') : Bz ((w.setCell ⟨g', 0, none⟩ x).setCell ⟨g', 1, none⟩ y) g b A n c := by
 refine ⟨?_⟩
 rw [heap_setCell_other _ ⟨g', 1, none⟩ g _ hne, heap_setCell_other _ ⟨g', 0, none⟩ g _ hne]
 exact h.row

/-- Behind the store of a result: what was answered stands. -/
theorem Zt.stored (h : Zt w base b A n c z k) (hg : g < base) (i : Nat) (v : Value) : Zt (w.setCell ⟨g, i, none⟩ v) base b A n c z k := by
 refine ⟨h.own.grown (grownBy_setCell w ⟨g, i, none⟩ v) (fun p hp e => ?_), h.le, h.neg⟩
 injection e with e
 have := (OwK.lt h.own hp).1
 dsimp only at e
 omega
theorem Zt.mono {base' : Nat} (h : Zt w base b A n c z k) (hb : base' ≤ base) : Zt w base' b A n c z k := ⟨h.own.mono hb, h.le, h.neg⟩
theorem fin_z (h : Zt w2 base b A n c z k) (hb : Below w.heap.size w w2) (hg : w.heap.size ≤ g) (hgb : g < base) (x y : Value) :
  Zt ((w2.setCell ⟨g, 0, none⟩ x).setCell ⟨g, 1, none⟩ y) w.heap.size b A n c z k ∧ Below w.heap.size w ((w2.setCell ⟨g, 0, none⟩ x).setCell ⟨g, 1, none⟩ y) :=
 ⟨((h.stored hgb 0 x).stored hgb 1 y).mono (by omega), (hb.setCell (p := ⟨g, 0, none⟩) hg x).setCell (p := ⟨g, 1, none⟩) hg y⟩
end

set_option maxHeartbeats 400000 in
theorem signed_any (s : Bool) (A : Option Addr) (n c : Nat) (w : World) : Calls Tryz.prog 119 #[.bool s, .slice A n c] w fun e w' => e = .returned (.agg #[.bool (s && decide (0 < n)), .slice A n c]) ∧ Below w.heap.size w w' := by
 cases s
 ·go_enter Tryz.func119, Tryz.ntmps119
  go_wp2
  exact bodyPost_ret (v := .agg #[.bool false, .slice A n c]) (by simp [results, Tryz.results119, go_sem]) rfl ⟨rfl, bl_alloc _ _⟩
 ·go_enter Tryz.func119, Tryz.ntmps119
  go_wp2
  exact bodyPost_ret (v := .agg #[.bool (decide (0 < n)), .slice A n c]) (by simp [results, Tryz.results119, go_sem]) rfl ⟨by rw [Bool.true_and], bl_alloc _ _⟩

end Go.Proofs.YtbhgbilhoonopaaGreat
namespace Go.Proofs.YtbhgbilhoonopaaGreat
open Go.RowKit
set_option linter.unusedVariables false
set_option maxRecDepth 100000

section
variable {w : World} {s t : Bool} {A B : Option Addr} {n c m d x y k j : Nat} {z u : Int}

set_option maxHeartbeats 400000 in
theorem ofZ (s : Bool) (h : Nm w A n c x k) (hk : k ≤ 1000) : Calls Tryz.prog 89 #[.bool s, .slice A n c] w (GivZ w (zv s x) k) := by
 have h1 := h.lt
 have hl := h.le
 obtain ⟨xs, hx, rfl⟩ := h.row
 go_enter Tryz.func89, Tryz.ntmps89
 go_wp2_with fail
 refine (trim_any _ _ _ _ _ (hx.alloc _) (by omega)).mono ?_
 rintro e w1 ⟨A1, c1, rfl, ho, hb1⟩
 go_wp2_with fail
 refine (signed_any _ _ _ _ _).mono ?_
 rintro e w2 ⟨rfl, hb2⟩
 have R := ((Bz.new w false none 0 0).below hb1).below hb2
 have Z := (zt_signed (s := s) ho (M.lims_length_le.2 h1)).below hb2
 have BB := bl_trans (bl_trans (bl_alloc w _) hb1) hb2
 have c0 := R.c0
 have c1' := R.c1
 have f0 := R.f 0
 have f1 := R.f 1
 clear R hb1 hb2
 go_wp2_with fail
 exact bodyPost_ret (v := .agg #[.bool (s && decide (0 < (M.lims (M.val xs)).length)), .slice A1 (M.lims (M.val xs)).length c1]) (by simp [results, Tryz.results89, go_sem, *]) rfl ⟨_, _, _, _, rfl, fin_z Z BB (Nat.le_refl _) (by simp) _ _⟩

set_option maxHeartbeats 1000000 in
theorem plus_false (h : Nm w A n c x k) (g : Nm w B m d y j) (hk : k ≤ 1000) (hj : j ≤ 1000) : Calls Tryz.prog 138 #[.agg #[.bool false, .slice A n c], .agg #[.bool false, .slice B m d]] w (GivZ w (zv false (x + y)) (max k j + 1)) := by
 have h1 := h.lt
 have g1 := g.lt
 have hl := h.le
 have gl := g.le
 obtain ⟨xs, hx, rfl⟩ := h.row
 obtain ⟨ys, hy, rfl⟩ := g.row
 have PA := (((Bz.new w false A n c).alloc (.cells #[.bool false, .slice B m d] 24)).alloc (.cells #[.bool false, .slice none 0 0] 24)).drew
 have PB := ((Bz.new2 w (.cells #[.bool false, .slice A n c] 24) false B m d).alloc (.cells #[.bool false, .slice none 0 0] 24)).drew
 have PR := (Bz.new3 w (.cells #[.bool false, .slice A n c] 24) (.cells #[.bool false, .slice B m d] 24) false none 0 0).drew
 have BB := Below.drew (bl_trans (bl_trans (bl_alloc w (.cells #[.bool false, .slice A n c] 24)) (bl_alloc _ (.cells #[.bool false, .slice B m d] 24))) (bl_alloc _ (.cells #[.bool false, .slice none 0 0] 24)))
 go_enter Tryz.func138, Tryz.ntmps138
 go_wp2_with fail
 go_region_held3 (fun w' => w'.cell? ⟨w.heap.size, 0, none⟩ = some (.bool false) ∧ w'.cell? ⟨w.heap.size, 1, none⟩ = some (.slice A n c) ∧ w'.cell? ⟨w.heap.size + 1, 0, none⟩ = some (.bool false) ∧ w'.cell? ⟨w.heap.size + 1, 1, none⟩ = some (.slice B m d))
  (first | exact ⟨(Q2A.st2 (by omega)).c0, (Q2A.st2 (by omega)).c1, (Q2B.st2 (by omega)).c0, (Q2B.st2 (by omega)).c1⟩ | exact ⟨Q2A.c0, Q2A.c1, Q2B.c0, Q2B.c1⟩ | exact ⟨QA.c0, QA.c1, QB.c0, QB.c1⟩ | exact ⟨PA.c0, PA.c1, PB.c0, PB.c1⟩)
  (first
   | (go_at_call 118; refine (add_any _ _ _ _ _ _ _ _ _ ((((hx.alloc _).alloc _).alloc _).drew) ((((hy.alloc _).alloc _).alloc _).drew) (by omega) (by omega)).mono ?_; rintro e w1 ⟨A1, c1, rfl, ho, hb1⟩; have QA := PA.below hb1; have QB := PB.below hb1; have QR := PR.below hb1; replace BB := bl_trans BB hb1)
   | (go_at_call 119; refine (signed_any _ _ _ _ _).mono ?_; rintro e w2 ⟨rfl, hb2⟩; have Q2A := QA.below hb2; have Q2B := QB.below hb2; have Q2R := QR.below hb2; have r0 := Q2R.c0; have r1 := Q2R.c1; have f0 := Q2R.f 0; have f1 := Q2R.f 1; have Z := (zt_signed (s := false) ho (M.lims_length_le.2 (add_lt_pow h1 g1))).below hb2; replace BB := bl_trans BB hb2))
 go_wp2_with fail
 exact bodyPost_ret (v := .agg #[.bool (false && decide (0 < (M.lims (M.val xs + M.val ys)).length)), .slice A1 (M.lims (M.val xs + M.val ys)).length c1]) (by simp [results, Tryz.results138, go_sem, *]) rfl ⟨_, _, _, _, rfl, fin_z Z BB (by omega) (by simp) _ _⟩

set_option maxHeartbeats 1000000 in
theorem plus_true (h : Nm w A n c x k) (g : Nm w B m d y j) (hk : k ≤ 1000) (hj : j ≤ 1000) : Calls Tryz.prog 138 #[.agg #[.bool true, .slice A n c], .agg #[.bool true, .slice B m d]] w (GivZ w (zv true (x + y)) (max k j + 1)) := by
 have h1 := h.lt
 have g1 := g.lt
 have hl := h.le
 have gl := g.le
 obtain ⟨xs, hx, rfl⟩ := h.row
 obtain ⟨ys, hy, rfl⟩ := g.row
 have PA := (((Bz.new w true A n c).alloc (.cells #[.bool true, .slice B m d] 24)).alloc (.cells #[.bool false, .slice none 0 0] 24)).drew
 have PB := ((Bz.new2 w (.cells #[.bool true, .slice A n c] 24) true B m d).alloc (.cells #[.bool false, .slice none 0 0] 24)).drew
 have PR := (Bz.new3 w (.cells #[.bool true, .slice A n c] 24) (.cells #[.bool true, .slice B m d] 24) false none 0 0).drew
 have BB := Below.drew (bl_trans (bl_trans (bl_alloc w (.cells #[.bool true, .slice A n c] 24)) (bl_alloc _ (.cells #[.bool true, .slice B m d] 24))) (bl_alloc _ (.cells #[.bool false, .slice none 0 0] 24)))
 go_enter Tryz.func138, Tryz.ntmps138
 go_wp2_with fail
 go_region_held3 (fun w' => w'.cell? ⟨w.heap.size, 0, none⟩ = some (.bool true) ∧ w'.cell? ⟨w.heap.size, 1, none⟩ = some (.slice A n c) ∧ w'.cell? ⟨w.heap.size + 1, 0, none⟩ = some (.bool true) ∧ w'.cell? ⟨w.heap.size + 1, 1, none⟩ = some (.slice B m d))
  (first | exact ⟨(Q2A.st2 (by omega)).c0, (Q2A.st2 (by omega)).c1, (Q2B.st2 (by omega)).c0, (Q2B.st2 (by omega)).c1⟩ | exact ⟨Q2A.c0, Q2A.c1, Q2B.c0, Q2B.c1⟩ | exact ⟨QA.c0, QA.c1, QB.c0, QB.c1⟩ | exact ⟨PA.c0, PA.c1, PB.c0, PB.c1⟩)
  (first
   | (go_at_call 118; refine (add_any _ _ _ _ _ _ _ _ _ ((((hx.alloc _).alloc _).alloc _).drew) ((((hy.alloc _).alloc _).alloc _).drew) (by omega) (by omega)).mono ?_; rintro e w1 ⟨A1, c1, rfl, ho, hb1⟩; have QA := PA.below hb1; have QB := PB.below hb1; have QR := PR.below hb1; replace BB := bl_trans BB hb1)
   | (go_at_call 119; refine (signed_any _ _ _ _ _).mono ?_; rintro e w2 ⟨rfl, hb2⟩; have Q2A := QA.below hb2; have Q2B := QB.below hb2; have Q2R := QR.below hb2; have r0 := Q2R.c0; have r1 := Q2R.c1; have f0 := Q2R.f 0; have f1 := Q2R.f 1; have Z := (zt_signed (s := true) ho (M.lims_length_le.2 (add_lt_pow h1 g1))).below hb2; replace BB := bl_trans BB hb2))
 go_wp2_with fail
 exact bodyPost_ret (v := .agg #[.bool (true && decide (0 < (M.lims (M.val xs + M.val ys)).length)), .slice A1 (M.lims (M.val xs + M.val ys)).length c1]) (by simp [results, Tryz.results138, go_sem, *]) rfl ⟨_, _, _, _, rfl, fin_z Z BB (by omega) (by simp) _ _⟩

set_option maxHeartbeats 1000000 in
theorem times_false_false (h : Nm w A n c x k) (g : Nm w B m d y j) (hk : k ≤ 1000) (hj : j ≤ 1000) (hm : min k j < 40) : Calls Tryz.prog 109 #[.agg #[.bool false, .slice A n c], .agg #[.bool false, .slice B m d]] w (GivZ w (zv false (x * y)) (k + j)) := by
 have h1 := h.lt
 have g1 := g.lt
 have hl := h.le
 have gl := g.le
 obtain ⟨xs, hx, rfl⟩ := h.row
 obtain ⟨ys, hy, rfl⟩ := g.row
 have e1 := M.lims_length_le.2 h1
 have e2 := M.lims_length_le.2 g1
 have PA := (((Bz.new w false A n c).alloc (.cells #[.bool false, .slice B m d] 24)).alloc (.cells #[.bool false, .slice none 0 0] 24)).drew
 have PB := ((Bz.new2 w (.cells #[.bool false, .slice A n c] 24) false B m d).alloc (.cells #[.bool false, .slice none 0 0] 24)).drew
 have PR := (Bz.new3 w (.cells #[.bool false, .slice A n c] 24) (.cells #[.bool false, .slice B m d] 24) false none 0 0).drew
 have BB := Below.drew (bl_trans (bl_trans (bl_alloc w (.cells #[.bool false, .slice A n c] 24)) (bl_alloc _ (.cells #[.bool false, .slice B m d] 24))) (bl_alloc _ (.cells #[.bool false, .slice none 0 0] 24)))
 go_enter Tryz.func109, Tryz.ntmps109
 go_wp2_with fail
 go_region_held3 (fun w' => w'.cell? ⟨w.heap.size, 0, none⟩ = some (.bool false) ∧ w'.cell? ⟨w.heap.size, 1, none⟩ = some (.slice A n c) ∧ w'.cell? ⟨w.heap.size + 1, 0, none⟩ = some (.bool false) ∧ w'.cell? ⟨w.heap.size + 1, 1, none⟩ = some (.slice B m d))
  (first | exact ⟨(Q2A.st2 (by omega)).c0, (Q2A.st2 (by omega)).c1, (Q2B.st2 (by omega)).c0, (Q2B.st2 (by omega)).c1⟩ | exact ⟨Q2A.c0, Q2A.c1, Q2B.c0, Q2B.c1⟩ | exact ⟨QA.c0, QA.c1, QB.c0, QB.c1⟩ | exact ⟨PA.c0, PA.c1, PB.c0, PB.c1⟩)
  (first
   | (go_at_call 68; refine (mul_few _ _ _ _ _ _ _ _ _ ((((hx.alloc _).alloc _).alloc _).drew) ((((hy.alloc _).alloc _).alloc _).drew) (by omega) (by omega) (by omega)).mono ?_; rintro e w1 ⟨A1, c1, rfl, ho, hb1⟩; have QA := PA.below hb1; have QB := PB.below hb1; have QR := PR.below hb1; replace BB := bl_trans BB hb1)
   | (go_at_call 119; refine (signed_any _ _ _ _ _).mono ?_; rintro e w2 ⟨rfl, hb2⟩; have Q2A := QA.below hb2; have Q2B := QB.below hb2; have Q2R := QR.below hb2; have r0 := Q2R.c0; have r1 := Q2R.c1; have f0 := Q2R.f 0; have f1 := Q2R.f 1; have Z := (zt_signed (s := false) ho (M.lims_length_le.2 (mul_lt_pow h1 g1))).below hb2; replace BB := bl_trans BB hb2))
 go_wp2_with fail
 exact bodyPost_ret (v := .agg #[.bool (false && decide (0 < (M.lims (M.val xs * M.val ys)).length)), .slice A1 (M.lims (M.val xs * M.val ys)).length c1]) (by simp [results, Tryz.results109, go_sem, *]) rfl ⟨_, _, _, _, rfl, fin_z Z BB (by omega) (by simp) _ _⟩

set_option maxHeartbeats 1000000 in
theorem times_false_true (h : Nm w A n c x k) (g : Nm w B m d y j) (hk : k ≤ 1000) (hj : j ≤ 1000) (hm : min k j < 40) : Calls Tryz.prog 109 #[.agg #[.bool false, .slice A n c], .agg #[.bool true, .slice B m d]] w (GivZ w (zv true (x * y)) (k + j)) := by
 have h1 := h.lt
 have g1 := g.lt
 have hl := h.le
 have gl := g.le
 obtain ⟨xs, hx, rfl⟩ := h.row
 obtain ⟨ys, hy, rfl⟩ := g.row
 have e1 := M.lims_length_le.2 h1
 have e2 := M.lims_length_le.2 g1
 have PA := (((Bz.new w false A n c).alloc (.cells #[.bool true, .slice B m d] 24)).alloc (.cells #[.bool false, .slice none 0 0] 24)).drew
 have PB := ((Bz.new2 w (.cells #[.bool false, .slice A n c] 24) true B m d).alloc (.cells #[.bool false, .slice none 0 0] 24)).drew
 have PR := (Bz.new3 w (.cells #[.bool false, .slice A n c] 24) (.cells #[.bool true, .slice B m d] 24) false none 0 0).drew
 have BB := Below.drew (bl_trans (bl_trans (bl_alloc w (.cells #[.bool false, .slice A n c] 24)) (bl_alloc _ (.cells #[.bool true, .slice B m d] 24))) (bl_alloc _ (.cells #[.bool false, .slice none 0 0] 24)))
 go_enter Tryz.func109, Tryz.ntmps109
 go_wp2_with fail
 go_region_held3 (fun w' => w'.cell? ⟨w.heap.size, 0, none⟩ = some (.bool false) ∧ w'.cell? ⟨w.heap.size, 1, none⟩ = some (.slice A n c) ∧ w'.cell? ⟨w.heap.size + 1, 0, none⟩ = some (.bool true) ∧ w'.cell? ⟨w.heap.size + 1, 1, none⟩ = some (.slice B m d))
  (first | exact ⟨(Q2A.st2 (by omega)).c0, (Q2A.st2 (by omega)).c1, (Q2B.st2 (by omega)).c0, (Q2B.st2 (by omega)).c1⟩ | exact ⟨Q2A.c0, Q2A.c1, Q2B.c0, Q2B.c1⟩ | exact ⟨QA.c0, QA.c1, QB.c0, QB.c1⟩ | exact ⟨PA.c0, PA.c1, PB.c0, PB.c1⟩)
  (first
   | (go_at_call 68; refine (mul_few _ _ _ _ _ _ _ _ _ ((((hx.alloc _).alloc _).alloc _).drew) ((((hy.alloc _).alloc _).alloc _).drew) (by omega) (by omega) (by omega)).mono ?_; rintro e w1 ⟨A1, c1, rfl, ho, hb1⟩; have QA := PA.below hb1; have QB := PB.below hb1; have QR := PR.below hb1; replace BB := bl_trans BB hb1)
   | (go_at_call 119; refine (signed_any _ _ _ _ _).mono ?_; rintro e w2 ⟨rfl, hb2⟩; have Q2A := QA.below hb2; have Q2B := QB.below hb2; have Q2R := QR.below hb2; have r0 := Q2R.c0; have r1 := Q2R.c1; have f0 := Q2R.f 0; have f1 := Q2R.f 1; have Z := (zt_signed (s := true) ho (M.lims_length_le.2 (mul_lt_pow h1 g1))).below hb2; replace BB := bl_trans BB hb2))
 go_wp2_with fail
 exact bodyPost_ret (v := .agg #[.bool (true && decide (0 < (M.lims (M.val xs * M.val ys)).length)), .slice A1 (M.lims (M.val xs * M.val ys)).length c1]) (by simp [results, Tryz.results109, go_sem, *]) rfl ⟨_, _, _, _, rfl, fin_z Z BB (by omega) (by simp) _ _⟩

set_option maxHeartbeats 1000000 in
theorem times_true_false (h : Nm w A n c x k) (g : Nm w B m d y j) (hk : k ≤ 1000) (hj : j ≤ 1000) (hm : min k j < 40) : Calls Tryz.prog 109 #[.agg #[.bool true, .slice A n c], .agg #[.bool false, .slice B m d]] w (GivZ w (zv true (x * y)) (k + j)) := by
 have h1 := h.lt
 have g1 := g.lt
 have hl := h.le
 have gl := g.le
 obtain ⟨xs, hx, rfl⟩ := h.row
 obtain ⟨ys, hy, rfl⟩ := g.row
 have e1 := M.lims_length_le.2 h1
 have e2 := M.lims_length_le.2 g1
 have PA := (((Bz.new w true A n c).alloc (.cells #[.bool false, .slice B m d] 24)).alloc (.cells #[.bool false, .slice none 0 0] 24)).drew
 have PB := ((Bz.new2 w (.cells #[.bool true, .slice A n c] 24) false B m d).alloc (.cells #[.bool false, .slice none 0 0] 24)).drew
 have PR := (Bz.new3 w (.cells #[.bool true, .slice A n c] 24) (.cells #[.bool false, .slice B m d] 24) false none 0 0).drew
 have BB := Below.drew (bl_trans (bl_trans (bl_alloc w (.cells #[.bool true, .slice A n c] 24)) (bl_alloc _ (.cells #[.bool false, .slice B m d] 24))) (bl_alloc _ (.cells #[.bool false, .slice none 0 0] 24)))
 go_enter Tryz.func109, Tryz.ntmps109
 go_wp2_with fail
 go_region_held3 (fun w' => w'.cell? ⟨w.heap.size, 0, none⟩ = some (.bool true) ∧ w'.cell? ⟨w.heap.size, 1, none⟩ = some (.slice A n c) ∧ w'.cell? ⟨w.heap.size + 1, 0, none⟩ = some (.bool false) ∧ w'.cell? ⟨w.heap.size + 1, 1, none⟩ = some (.slice B m d))
  (first | exact ⟨(Q2A.st2 (by omega)).c0, (Q2A.st2 (by omega)).c1, (Q2B.st2 (by omega)).c0, (Q2B.st2 (by omega)).c1⟩ | exact ⟨Q2A.c0, Q2A.c1, Q2B.c0, Q2B.c1⟩ | exact ⟨QA.c0, QA.c1, QB.c0, QB.c1⟩ | exact ⟨PA.c0, PA.c1, PB.c0, PB.c1⟩)
  (first
   | (go_at_call 68; refine (mul_few _ _ _ _ _ _ _ _ _ ((((hx.alloc _).alloc _).alloc _).drew) ((((hy.alloc _).alloc _).alloc _).drew) (by omega) (by omega) (by omega)).mono ?_; rintro e w1 ⟨A1, c1, rfl, ho, hb1⟩; have QA := PA.below hb1; have QB := PB.below hb1; have QR := PR.below hb1; replace BB := bl_trans BB hb1)
   | (go_at_call 119; refine (signed_any _ _ _ _ _).mono ?_; rintro e w2 ⟨rfl, hb2⟩; have Q2A := QA.below hb2; have Q2B := QB.below hb2; have Q2R := QR.below hb2; have r0 := Q2R.c0; have r1 := Q2R.c1; have f0 := Q2R.f 0; have f1 := Q2R.f 1; have Z := (zt_signed (s := true) ho (M.lims_length_le.2 (mul_lt_pow h1 g1))).below hb2; replace BB := bl_trans BB hb2))
 go_wp2_with fail
 exact bodyPost_ret (v := .agg #[.bool (true && decide (0 < (M.lims (M.val xs * M.val ys)).length)), .slice A1 (M.lims (M.val xs * M.val ys)).length c1]) (by simp [results, Tryz.results109, go_sem, *]) rfl ⟨_, _, _, _, rfl, fin_z Z BB (by omega) (by simp) _ _⟩

set_option maxHeartbeats 1000000 in
theorem times_true_true (h : Nm w A n c x k) (g : Nm w B m d y j) (hk : k ≤ 1000) (hj : j ≤ 1000) (hm : min k j < 40) : Calls Tryz.prog 109 #[.agg #[.bool true, .slice A n c], .agg #[.bool true, .slice B m d]] w (GivZ w (zv false (x * y)) (k + j)) := by
 have h1 := h.lt
 have g1 := g.lt
 have hl := h.le
 have gl := g.le
 obtain ⟨xs, hx, rfl⟩ := h.row
 obtain ⟨ys, hy, rfl⟩ := g.row
 have e1 := M.lims_length_le.2 h1
 have e2 := M.lims_length_le.2 g1
 have PA := (((Bz.new w true A n c).alloc (.cells #[.bool true, .slice B m d] 24)).alloc (.cells #[.bool false, .slice none 0 0] 24)).drew
 have PB := ((Bz.new2 w (.cells #[.bool true, .slice A n c] 24) true B m d).alloc (.cells #[.bool false, .slice none 0 0] 24)).drew
 have PR := (Bz.new3 w (.cells #[.bool true, .slice A n c] 24) (.cells #[.bool true, .slice B m d] 24) false none 0 0).drew
 have BB := Below.drew (bl_trans (bl_trans (bl_alloc w (.cells #[.bool true, .slice A n c] 24)) (bl_alloc _ (.cells #[.bool true, .slice B m d] 24))) (bl_alloc _ (.cells #[.bool false, .slice none 0 0] 24)))
 go_enter Tryz.func109, Tryz.ntmps109
 go_wp2_with fail
 go_region_held3 (fun w' => w'.cell? ⟨w.heap.size, 0, none⟩ = some (.bool true) ∧ w'.cell? ⟨w.heap.size, 1, none⟩ = some (.slice A n c) ∧ w'.cell? ⟨w.heap.size + 1, 0, none⟩ = some (.bool true) ∧ w'.cell? ⟨w.heap.size + 1, 1, none⟩ = some (.slice B m d))
  (first | exact ⟨(Q2A.st2 (by omega)).c0, (Q2A.st2 (by omega)).c1, (Q2B.st2 (by omega)).c0, (Q2B.st2 (by omega)).c1⟩ | exact ⟨Q2A.c0, Q2A.c1, Q2B.c0, Q2B.c1⟩ | exact ⟨QA.c0, QA.c1, QB.c0, QB.c1⟩ | exact ⟨PA.c0, PA.c1, PB.c0, PB.c1⟩)
  (first
   | (go_at_call 68; refine (mul_few _ _ _ _ _ _ _ _ _ ((((hx.alloc _).alloc _).alloc _).drew) ((((hy.alloc _).alloc _).alloc _).drew) (by omega) (by omega) (by omega)).mono ?_; rintro e w1 ⟨A1, c1, rfl, ho, hb1⟩; have QA := PA.below hb1; have QB := PB.below hb1; have QR := PR.below hb1; replace BB := bl_trans BB hb1)
   | (go_at_call 119; refine (signed_any _ _ _ _ _).mono ?_; rintro e w2 ⟨rfl, hb2⟩; have Q2A := QA.below hb2; have Q2B := QB.below hb2; have Q2R := QR.below hb2; have r0 := Q2R.c0; have r1 := Q2R.c1; have f0 := Q2R.f 0; have f1 := Q2R.f 1; have Z := (zt_signed (s := false) ho (M.lims_length_le.2 (mul_lt_pow h1 g1))).below hb2; replace BB := bl_trans BB hb2))
 go_wp2_with fail
 exact bodyPost_ret (v := .agg #[.bool (false && decide (0 < (M.lims (M.val xs * M.val ys)).length)), .slice A1 (M.lims (M.val xs * M.val ys)).length c1]) (by simp [results, Tryz.results109, go_sem, *]) rfl ⟨_, _, _, _, rfl, fin_z Z BB (by omega) (by simp) _ _⟩

set_option maxHeartbeats 1000000 in
theorem minus_false (h : Nm w A n c x k) (g : Nm w B m d y j) (hk : k ≤ 1000) (hj : j ≤ 1000) (hle : y ≤ x) : Calls Tryz.prog 138 #[.agg #[.bool false, .slice A n c], .agg #[.bool true, .slice B m d]] w (GivZ w (zv false (x - y)) (max k j + 1)) := by
 have h1 := h.lt
 have g1 := g.lt
 have hl := h.le
 have gl := g.le
 obtain ⟨xs, hx, rfl⟩ := h.row
 obtain ⟨ys, hy, rfl⟩ := g.row
 have PA := (((Bz.new w false A n c).alloc (.cells #[.bool true, .slice B m d] 24)).alloc (.cells #[.bool false, .slice none 0 0] 24))
 have PB := ((Bz.new2 w (.cells #[.bool false, .slice A n c] 24) true B m d).alloc (.cells #[.bool false, .slice none 0 0] 24))
 have PR := (Bz.new3 w (.cells #[.bool false, .slice A n c] 24) (.cells #[.bool true, .slice B m d] 24) false none 0 0)
 have BB := (bl_trans (bl_trans (bl_alloc w (.cells #[.bool false, .slice A n c] 24)) (bl_alloc _ (.cells #[.bool true, .slice B m d] 24))) (bl_alloc _ (.cells #[.bool false, .slice none 0 0] 24)))
 go_enter Tryz.func138, Tryz.ntmps138
 go_wp2_with fail
 refine (sub_any _ _ _ _ _ _ _ _ _ (((hx.alloc _).alloc _).alloc _) (((hy.alloc _).alloc _).alloc _) (by omega) (by omega)).mono fun e w1 r => ?_
 rcases r with ⟨_, r⟩ | ⟨h0, r⟩
 ·obtain ⟨A1, c1, rfl, ho, hb1⟩ := r
  have a0 := (PA.below hb1).c0
  replace PR := PR.below hb1
  replace BB := bl_trans BB hb1
  clear PA PB hb1
  go_wp2_with fail
  refine (signed_any _ _ _ _ _).mono ?_
  rintro e w2 ⟨rfl, hb2⟩
  have Z := (zt_signed (s := false) (k := max k j + 1) ho (Nat.le_trans (M.lims_length_le.2 (Nat.lt_of_le_of_lt (Nat.sub_le _ _) h1)) (by omega))).below hb2
  replace PR := PR.below hb2
  replace BB := bl_trans BB hb2
  have r0 := PR.c0
  have r1 := PR.c1
  have f0 := PR.f 0
  have f1 := PR.f 1
  clear a0 hb2
  go_wp2_with fail
  exact bodyPost_ret (v := .agg #[.bool (false && decide (0 < (M.lims (M.val xs - M.val ys)).length)), .slice A1 (M.lims (M.val xs - M.val ys)).length c1]) (by simp [results, Tryz.results138, go_sem, *]) rfl ⟨_, _, _, _, rfl, fin_z Z BB (by omega) (by simp) _ _⟩
 ·omega

set_option maxHeartbeats 1000000 in
theorem under_false (h : Nm w A n c x k) (g : Nm w B m d y j) (hk : k ≤ 1000) (hj : j ≤ 1000) (hlt : x < y) : Calls Tryz.prog 138 #[.agg #[.bool false, .slice A n c], .agg #[.bool true, .slice B m d]] w (GivZ w (zv true (y - x)) (max k j + 1)) := by
 have h1 := h.lt
 have g1 := g.lt
 have hl := h.le
 have gl := g.le
 obtain ⟨xs, hx, rfl⟩ := h.row
 obtain ⟨ys, hy, rfl⟩ := g.row
 have PA := (((Bz.new w false A n c).alloc (.cells #[.bool true, .slice B m d] 24)).alloc (.cells #[.bool false, .slice none 0 0] 24))
 have PB := ((Bz.new2 w (.cells #[.bool false, .slice A n c] 24) true B m d).alloc (.cells #[.bool false, .slice none 0 0] 24))
 have PR := (Bz.new3 w (.cells #[.bool false, .slice A n c] 24) (.cells #[.bool true, .slice B m d] 24) false none 0 0)
 have BB := (bl_trans (bl_trans (bl_alloc w (.cells #[.bool false, .slice A n c] 24)) (bl_alloc _ (.cells #[.bool true, .slice B m d] 24))) (bl_alloc _ (.cells #[.bool false, .slice none 0 0] 24)))
 go_enter Tryz.func138, Tryz.ntmps138
 go_wp2_with fail
 refine (sub_any _ _ _ _ _ _ _ _ _ (((hx.alloc _).alloc _).alloc _) (((hy.alloc _).alloc _).alloc _) (by omega) (by omega)).mono fun e w1 r => ?_
 rcases r with ⟨h0, r⟩ | ⟨_, r⟩
 ·omega
 ·obtain ⟨A0, c0, rfl, _, hb1⟩ := r
  replace PA := PA.below hb1
  replace PB := PB.below hb1
  have HX := ((((hx.alloc _).alloc _).alloc _).below hb1)
  have HY := ((((hy.alloc _).alloc _).alloc _).below hb1)
  have a1 := PA.c1
  have b1 := PB.c1
  replace PR := PR.below hb1
  have hs := PR.lt
  replace BB := bl_trans BB hb1
  clear hb1
  go_wp2_with fail
  refine (sub_any _ _ _ _ _ _ _ _ _ HY HX (by omega) (by omega)).mono fun e w3 r => ?_
  rcases r with ⟨_, r⟩ | ⟨h0, r⟩
  ·obtain ⟨A1, c1, rfl, ho, hb1⟩ := r
   have b0 := (PB.below hb1).c0
   replace PR := PR.below hb1
   replace BB := bl_trans BB hb1
   clear PA PB hb1 a1 b1 HX HY
   go_wp2_with fail
   refine (signed_any _ _ _ _ _).mono ?_
   rintro e w2 ⟨rfl, hb2⟩
   have Z := (zt_signed (s := true) (k := max k j + 1) ho (Nat.le_trans (M.lims_length_le.2 (Nat.lt_of_le_of_lt (Nat.sub_le _ _) g1)) (by omega))).below hb2
   replace BB' := bl_trans BB hb2
   replace PR := PR.below hb2
   have r0 := PR.c0
   have r1 := PR.c1
   have f0 := PR.f 0
   have f1 := PR.f 1
   clear b0 hb2
   go_wp2_with fail
   exact bodyPost_ret (v := .agg #[.bool (true && decide (0 < (M.lims (M.val ys - M.val xs)).length)), .slice A1 (M.lims (M.val ys - M.val xs)).length c1]) (by simp [results, Tryz.results138, go_sem, *]) rfl ⟨_, _, _, _, rfl, fin_z Z BB' (by omega) (by omega) _ _⟩
  ·omega

set_option maxHeartbeats 1000000 in
theorem minus_true (h : Nm w A n c x k) (g : Nm w B m d y j) (hk : k ≤ 1000) (hj : j ≤ 1000) (hle : y ≤ x) : Calls Tryz.prog 138 #[.agg #[.bool true, .slice A n c], .agg #[.bool false, .slice B m d]] w (GivZ w (zv true (x - y)) (max k j + 1)) := by
 have h1 := h.lt
 have g1 := g.lt
 have hl := h.le
 have gl := g.le
 obtain ⟨xs, hx, rfl⟩ := h.row
 obtain ⟨ys, hy, rfl⟩ := g.row
 have PA := (((Bz.new w true A n c).alloc (.cells #[.bool false, .slice B m d] 24)).alloc (.cells #[.bool false, .slice none 0 0] 24))
 have PB := ((Bz.new2 w (.cells #[.bool true, .slice A n c] 24) false B m d).alloc (.cells #[.bool false, .slice none 0 0] 24))
 have PR := (Bz.new3 w (.cells #[.bool true, .slice A n c] 24) (.cells #[.bool false, .slice B m d] 24) false none 0 0)
 have BB := (bl_trans (bl_trans (bl_alloc w (.cells #[.bool true, .slice A n c] 24)) (bl_alloc _ (.cells #[.bool false, .slice B m d] 24))) (bl_alloc _ (.cells #[.bool false, .slice none 0 0] 24)))
 go_enter Tryz.func138, Tryz.ntmps138
 go_wp2_with fail
 refine (sub_any _ _ _ _ _ _ _ _ _ (((hx.alloc _).alloc _).alloc _) (((hy.alloc _).alloc _).alloc _) (by omega) (by omega)).mono fun e w1 r => ?_
 rcases r with ⟨_, r⟩ | ⟨h0, r⟩
 ·obtain ⟨A1, c1, rfl, ho, hb1⟩ := r
  have a0 := (PA.below hb1).c0
  replace PR := PR.below hb1
  replace BB := bl_trans BB hb1
  clear PA PB hb1
  go_wp2_with fail
  refine (signed_any _ _ _ _ _).mono ?_
  rintro e w2 ⟨rfl, hb2⟩
  have Z := (zt_signed (s := true) (k := max k j + 1) ho (Nat.le_trans (M.lims_length_le.2 (Nat.lt_of_le_of_lt (Nat.sub_le _ _) h1)) (by omega))).below hb2
  replace PR := PR.below hb2
  replace BB := bl_trans BB hb2
  have r0 := PR.c0
  have r1 := PR.c1
  have f0 := PR.f 0
  have f1 := PR.f 1
  clear a0 hb2
  go_wp2_with fail
  exact bodyPost_ret (v := .agg #[.bool (true && decide (0 < (M.lims (M.val xs - M.val ys)).length)), .slice A1 (M.lims (M.val xs - M.val ys)).length c1]) (by simp [results, Tryz.results138, go_sem, *]) rfl ⟨_, _, _, _, rfl, fin_z Z BB (by omega) (by simp) _ _⟩
 ·omega

set_option maxHeartbeats 1000000 in
theorem under_true (h : Nm w A n c x k) (g : Nm w B m d y j) (hk : k ≤ 1000) (hj : j ≤ 1000) (hlt : x < y) : Calls Tryz.prog 138 #[.agg #[.bool true, .slice A n c], .agg #[.bool false, .slice B m d]] w (GivZ w (zv false (y - x)) (max k j + 1)) := by
 have h1 := h.lt
 have g1 := g.lt
 have hl := h.le
 have gl := g.le
 obtain ⟨xs, hx, rfl⟩ := h.row
 obtain ⟨ys, hy, rfl⟩ := g.row
 have PA := (((Bz.new w true A n c).alloc (.cells #[.bool false, .slice B m d] 24)).alloc (.cells #[.bool false, .slice none 0 0] 24))
 have PB := ((Bz.new2 w (.cells #[.bool true, .slice A n c] 24) false B m d).alloc (.cells #[.bool false, .slice none 0 0] 24))
 have PR := (Bz.new3 w (.cells #[.bool true, .slice A n c] 24) (.cells #[.bool false, .slice B m d] 24) false none 0 0)
 have BB := (bl_trans (bl_trans (bl_alloc w (.cells #[.bool true, .slice A n c] 24)) (bl_alloc _ (.cells #[.bool false, .slice B m d] 24))) (bl_alloc _ (.cells #[.bool false, .slice none 0 0] 24)))
 go_enter Tryz.func138, Tryz.ntmps138
 go_wp2_with fail
 refine (sub_any _ _ _ _ _ _ _ _ _ (((hx.alloc _).alloc _).alloc _) (((hy.alloc _).alloc _).alloc _) (by omega) (by omega)).mono fun e w1 r => ?_
 rcases r with ⟨h0, r⟩ | ⟨_, r⟩
 ·omega
 ·obtain ⟨A0, c0, rfl, _, hb1⟩ := r
  replace PA := PA.below hb1
  replace PB := PB.below hb1
  have HX := ((((hx.alloc _).alloc _).alloc _).below hb1)
  have HY := ((((hy.alloc _).alloc _).alloc _).below hb1)
  have a1 := PA.c1
  have b1 := PB.c1
  replace PR := PR.below hb1
  have hs := PR.lt
  replace BB := bl_trans BB hb1
  clear hb1
  go_wp2_with fail
  refine (sub_any _ _ _ _ _ _ _ _ _ HY HX (by omega) (by omega)).mono fun e w3 r => ?_
  rcases r with ⟨_, r⟩ | ⟨h0, r⟩
  ·obtain ⟨A1, c1, rfl, ho, hb1⟩ := r
   have b0 := (PB.below hb1).c0
   replace PR := PR.below hb1
   replace BB := bl_trans BB hb1
   clear PA PB hb1 a1 b1 HX HY
   go_wp2_with fail
   refine (signed_any _ _ _ _ _).mono ?_
   rintro e w2 ⟨rfl, hb2⟩
   have Z := (zt_signed (s := false) (k := max k j + 1) ho (Nat.le_trans (M.lims_length_le.2 (Nat.lt_of_le_of_lt (Nat.sub_le _ _) g1)) (by omega))).below hb2
   replace BB' := bl_trans BB hb2
   replace PR := PR.below hb2
   have r0 := PR.c0
   have r1 := PR.c1
   have f0 := PR.f 0
   have f1 := PR.f 1
   clear b0 hb2
   go_wp2_with fail
   exact bodyPost_ret (v := .agg #[.bool (false && decide (0 < (M.lims (M.val ys - M.val xs)).length)), .slice A1 (M.lims (M.val ys - M.val xs)).length c1]) (by simp [results, Tryz.results138, go_sem, *]) rfl ⟨_, _, _, _, rfl, fin_z Z BB' (by omega) (by omega) _ _⟩
  ·omega

end

end Go.Proofs.YtbhgbilhoonopaaGreat
namespace Go.Proofs.YtbhgbilhoonopaaGreat
open Go.RowKit
set_option linter.unusedVariables false
set_option maxRecDepth 100000

section
variable {w : World} {s t : Bool} {A B : Option Addr} {n c m d x y k j : Nat} {z u : Int}

theorem plusZ (h : Zm w s A n c z k) (g : Zm w t B m d u j) (hk : k ≤ 1000) (hj : j ≤ 1000) : Calls Tryz.prog 138 #[.agg #[.bool s, .slice A n c], .agg #[.bool t, .slice B m d]] w (GivZ w (z + u) (max k j + 1)) := by
 obtain ⟨x, h', rfl⟩ := h.row
 obtain ⟨y, g', rfl⟩ := g.row
 cases s <;> cases t
 ·have := plus_false h' g' hk hj
  rw [show zv false (x + y) = zv false x + zv false y by simp only [zv_false]; omega] at this
  exact this
 ·by_cases hle : y ≤ x
  ·have := minus_false h' g' hk hj hle
   rw [show zv false (x - y) = zv false x + zv true y by simp only [zv_false, zv_true]; omega] at this
   exact this
  ·have := under_false h' g' hk hj (by omega)
   rw [show zv true (y - x) = zv false x + zv true y by simp only [zv_false, zv_true]; omega] at this
   exact this
 ·by_cases hle : y ≤ x
  ·have := minus_true h' g' hk hj hle
   rw [show zv true (x - y) = zv true x + zv false y by simp only [zv_false, zv_true]; omega] at this
   exact this
  ·have := under_true h' g' hk hj (by omega)
   rw [show zv false (y - x) = zv true x + zv false y by simp only [zv_false, zv_true]; omega] at this
   exact this
 ·have := plus_true h' g' hk hj
  rw [show zv true (x + y) = zv true x + zv true y by simp only [zv_true]; omega] at this
  exact this

theorem timesZ (h : Zm w s A n c z k) (g : Zm w t B m d u j) (hk : k ≤ 1000) (hj : j ≤ 1000) (hm : min k j < 40) : Calls Tryz.prog 109 #[.agg #[.bool s, .slice A n c], .agg #[.bool t, .slice B m d]] w (GivZ w (z * u) (k + j)) := by
 obtain ⟨x, h', rfl⟩ := h.row
 obtain ⟨y, g', rfl⟩ := g.row
 cases s <;> cases t
 ·have := times_false_false h' g' hk hj hm
  rw [show zv false (x * y) = zv false x * zv false y by simp only [zv_false, Int.natCast_mul]] at this
  exact this
 ·have := times_false_true h' g' hk hj hm
  rw [show zv true (x * y) = zv false x * zv true y by simp only [zv_false, zv_true, Int.natCast_mul, Int.mul_neg]] at this
  exact this
 ·have := times_true_false h' g' hk hj hm
  rw [show zv true (x * y) = zv true x * zv false y by simp only [zv_false, zv_true, Int.natCast_mul, Int.neg_mul]] at this
  exact this
 ·have := times_true_true h' g' hk hj hm
  rw [show zv false (x * y) = zv true x * zv true y by simp only [zv_false, zv_true, Int.natCast_mul, Int.neg_mul_neg]] at this
  exact this

set_option maxHeartbeats 400000 in
theorem negZ (h : Zm w s A n c z k) (hk : k ≤ 1000) : Calls Tryz.prog 59 #[.agg #[.bool s, .slice A n c]] w (GivZ w (-z) k) := by
 obtain ⟨x, h', rfl⟩ := h.row
 rw [← zv_not]
 have X := (h'.alloc (.cells #[.bool s, .slice A n c] 24)).alloc (.cells #[.bool false, .slice none 0 0] 24)
 have PR := Bz.new2 w (.cells #[.bool s, .slice A n c] 24) false none 0 0
 have BB := bl_trans (bl_alloc w (.cells #[.bool s, .slice A n c] 24)) (bl_alloc _ (.cells #[.bool false, .slice none 0 0] 24))
 go_enter Tryz.func59, Tryz.ntmps59
 go_wp2_with fail
 refine (ofZ _ X hk).mono ?_
 rintro e w1 ⟨b1, A1, n1, c1, rfl, Z, hb1⟩
 replace PR := PR.below hb1
 replace BB := bl_trans BB hb1
 have r0 := PR.c0
 have r1 := PR.c1
 have f0 := PR.f 0
 have f1 := PR.f 1
 clear hb1 X
 go_wp2_with fail
 exact bodyPost_ret (v := .agg #[.bool b1, .slice A1 n1 c1]) (by simp [results, Tryz.results59, go_sem, *]) rfl ⟨_, _, _, _, rfl, fin_z Z BB (by omega) (by simp) _ _⟩

/-- On which side of 0. -/
def sgn (z : Int) : Int := if z < 0 then -1 else if z = 0 then 0 else 1
theorem sgn_neg {z : Int} (h : z < 0) : sgn z = -1 := by unfold sgn; rw [if_pos h]
theorem sgn_zero {z : Int} (h : z = 0) : sgn z = 0 := by unfold sgn; rw [if_neg (by omega), if_pos h]
theorem sgn_pos {z : Int} (h : 0 < z) : sgn z = 1 := by unfold sgn; rw [if_neg (by omega), if_neg (by omega)]

set_option maxHeartbeats 400000 in
theorem signZ (h : Zm w s A n c z k) (hk : k ≤ 1000) : Calls Tryz.prog 72 #[.agg #[.bool s, .slice A n c]] w fun e w' => e = .returned (.int .i64 (sgn z)) ∧ Below w.heap.size w w' := by
 obtain ⟨x, h', rfl⟩ := h.row
 have X := h'.alloc (.cells #[.bool s, .slice A n c] 24)
 have PA := Bz.new w s A n c
 have BB := bl_alloc w (.cells #[.bool s, .slice A n c] 24)
 by_cases h0 : x = 0
 ·subst h0
  cases s
  all_goals
   go_enter Tryz.func72, Tryz.ntmps72
   go_wp2_with fail
   refine (cmpN X (nilN _) hk (by omega)).mono ?_
   rw [cmpV_eq]
   rintro e w1 ⟨rfl, hb1⟩
   replace BB := bl_trans BB hb1
   have a0 := (PA.below hb1).c0
   clear hb1 X h h'
   go_wp2_with fail
   go_ret
   exact ⟨ret_int (by rfl), BB⟩
 ·cases s
  all_goals
   go_enter Tryz.func72, Tryz.ntmps72
   go_wp2_with fail
   refine (cmpN X (nilN _) hk (by omega)).mono ?_
   rw [cmpV_gt (Nat.pos_of_ne_zero h0)]
   rintro e w1 ⟨rfl, hb1⟩
   replace BB := bl_trans BB hb1
   have a0 := (PA.below hb1).c0
   have g1 : sgn (zv true x) = -1 := sgn_neg (by rw [zv_true]; omega)
   have g2 : sgn (zv false x) = 1 := sgn_pos (by rw [zv_false]; omega)
   have G1 := Lib.hid g1
   have G2 := Lib.hid g2
   clear hb1 X h h' h0 g1 g2
   go_wp2_with fail
   go_ret
   first
    | exact ⟨ret_int G1.out.symm, BB⟩
    | exact ⟨ret_int G2.out.symm, BB⟩
end

end Go.Proofs.YtbhgbilhoonopaaGreat

/- big.Cmp, Right, From, Small. -/
namespace Go.Proofs.YtbhgbilhoonopaaGreat
open Go.RowKit
set_option linter.unusedVariables false
set_option maxRecDepth 100000

def cmpI (z u : Int) : Int := if z < u then -1 else if z = u then 0 else 1
theorem cmpI_lt {z u : Int} (h : z < u) : cmpI z u = -1 := if_pos h
theorem cmpI_eq {z u : Int} (h : z = u) : cmpI z u = 0 := by unfold cmpI; rw [if_neg (by omega), if_pos h]
theorem cmpI_gt {z u : Int} (h : u < z) : cmpI z u = 1 := by unfold cmpI; rw [if_neg (by omega), if_neg (by omega)]
theorem sgn_cases (z : Int) : (z < 0 ∧ sgn z = -1) ∨ (z = 0 ∧ sgn z = 0) ∨ (0 < z ∧ sgn z = 1) := by
 rcases Int.lt_trichotomy z 0 with h | h | h
 ·exact .inl ⟨h, sgn_neg h⟩
 ·exact .inr (.inl ⟨h, sgn_zero h⟩)
 ·exact .inr (.inr ⟨h, sgn_pos h⟩)
theorem cmpI_neg (x y : Nat) : cmpI (-(x : Int)) (-(y : Int)) = cmpV y x := by
 rcases Nat.lt_trichotomy x y with h | h | h
 ·rw [cmpI_gt (by omega), cmpV_gt h]
 ·subst h; rw [cmpI_eq rfl, cmpV_eq]
 ·rw [cmpI_lt (by omega), cmpV_lt h]
theorem cmpI_nat (x y : Nat) : cmpI (x : Int) (y : Int) = cmpV x y := by
 rcases Nat.lt_trichotomy x y with h | h | h
 ·rw [cmpI_lt (by omega), cmpV_lt h]
 ·subst h; rw [cmpI_eq rfl, cmpV_eq]
 ·rw [cmpI_gt (by omega), cmpV_gt h]

section
variable {w : World} {s t : Bool} {A B : Option Addr} {n c m d x y k j : Nat} {z u : Int}

set_option maxHeartbeats 400000 in
theorem compareI (p q : Int) (w : World) : Calls Tryz.prog 115 #[.int .i64 p, .int .i64 q] w fun e w' => e = .returned (.int .i64 (cmpI p q)) ∧ w = w' := by
 rcases Int.lt_trichotomy p q with h | h | h
 ·rw [cmpI_lt h]
  go_enter Tryz.func115, Tryz.ntmps115
  go_wp2
  go_ret
  exact ⟨rfl, rfl⟩
 ·rw [cmpI_eq h]
  subst h
  go_enter Tryz.func115, Tryz.ntmps115
  go_wp2
  go_ret
  exact ⟨rfl, rfl⟩
 ·rw [cmpI_gt h]
  have h' : ¬ p < q := by omega
  go_enter Tryz.func115, Tryz.ntmps115
  go_wp2
  go_ret
  exact ⟨rfl, rfl⟩

theorem signZ' {p : Int} (h : Zm w s A n c z k) (hk : k ≤ 1000) (hp : sgn z = p) : Calls Tryz.prog 72 #[.agg #[.bool s, .slice A n c]] w fun e w' => e = .returned (.int .i64 p) ∧ Below w.heap.size w w' := by
 rw [← hp]
 exact signZ h hk

theorem cmp_ne {p q : Int} (hp : (z < 0 ∧ p = -1) ∨ (z = 0 ∧ p = 0) ∨ (0 < z ∧ p = 1)) (hq : (u < 0 ∧ q = -1) ∨ (u = 0 ∧ q = 0) ∨ (0 < u ∧ q = 1)) (h : p ≠ q) : cmpI p q = cmpI z u := by
 rcases Int.lt_or_gt_of_ne h with h | h
 ·rw [cmpI_lt h, cmpI_lt (by omega)]
 ·rw [cmpI_gt h, cmpI_gt (by omega)]

set_option maxHeartbeats 2000000 in
theorem cmpZ (h : Zm w s A n c z k) (g : Zm w t B m d u j) (hk : k ≤ 1000) (hj : j ≤ 1000) : Calls Tryz.prog 71 #[.agg #[.bool s, .slice A n c], .agg #[.bool t, .slice B m d]] w fun e w' => e = .returned (.int .i64 (cmpI z u)) ∧ Below w.heap.size w w' := by
  have X := ((h.alloc (.cells #[.bool s, .slice A n c] 24)).alloc (.cells #[.bool t, .slice B m d] 24)).below (Below.drew (Below.refl _ _))
  have Y := ((g.alloc (.cells #[.bool s, .slice A n c] 24)).alloc (.cells #[.bool t, .slice B m d] 24)).below (Below.drew (Below.refl _ _))
  have PA := ((Bz.new w s A n c).alloc (.cells #[.bool t, .slice B m d] 24)).drew
  have PB := (Bz.new2 w (.cells #[.bool s, .slice A n c] 24) t B m d).drew
  have BB := Below.drew (bl_trans (bl_alloc w (.cells #[.bool s, .slice A n c] 24)) (bl_alloc _ (.cells #[.bool t, .slice B m d] 24)))
  have hp := sgn_cases z
  have hq := sgn_cases u
  have hc : ∀ p q : Int, sgn z = p → sgn u = q → p ≠ q → cmpI p q = cmpI z u := by
    intro p q h1 h2 h3
    rw [h1] at hp
    rw [h2] at hq
    exact cmp_ne hp hq h3
  have hn : z < 0 → u < 0 → cmpI z u = cmpV u.natAbs z.natAbs := by
    intro h1 h2
    rw [← cmpI_neg]
    congr 1 <;> omega
  have hm : ¬ z < 0 → ¬ u < 0 → cmpI z u = cmpV z.natAbs u.natAbs := by
    intro h1 h2
    rw [← cmpI_nat]
    congr 1 <;> omega
  have HC := Lib.hid hc
  have HN := Lib.hid hn
  have HM := Lib.hid hm
  clear hc hn hm h g
  rcases hp with ⟨hz, hp⟩ | ⟨hz, hp⟩ | ⟨hz, hp⟩ <;> rcases hq with ⟨hu, hq⟩ | ⟨hu, hq⟩ | ⟨hu, hq⟩
  all_goals
    have HZ := Lib.hid hz
    have HU := Lib.hid hu
    have HP := Lib.hid hp
    have HQ := Lib.hid hq
    clear hz hu hp hq
    go_enter Tryz.func71, Tryz.ntmps71
    go_wp2_with fail
    go_region_held3 (fun w' => w'.cell? ⟨w.heap.size, 0, none⟩ = some (.bool s) ∧ w'.cell? ⟨w.heap.size, 1, none⟩ = some (.slice A n c) ∧ w'.cell? ⟨w.heap.size + 1, 0, none⟩ = some (.bool t) ∧ w'.cell? ⟨w.heap.size + 1, 1, none⟩ = some (.slice B m d))
      (first | exact ⟨Q2A.c0, Q2A.c1, Q2B.c0, Q2B.c1⟩ | exact ⟨QA.c0, QA.c1, QB.c0, QB.c1⟩ | exact ⟨PA.c0, PA.c1, PB.c0, PB.c1⟩)
      (first
        | (go_at_call 72; ((with_reducible refine (signZ' X hk HP.out).mono ?_); rintro e w1 ⟨rfl, hb1⟩; have QA := PA.below hb1; have QB := PB.below hb1; replace Y := Y.below hb1; have X1 := X.below hb1; replace BB := bl_trans BB hb1; clear hb1))
        | (go_at_call 72; refine (signZ' Y hj HQ.out).mono ?_; rintro e w2 ⟨rfl, hb2⟩; have Q2A := QA.below hb2; have Q2B := QB.below hb2; replace Y := Y.below hb2; have X2 := X1.below hb2; replace BB := bl_trans BB hb2; clear hb2))
    have a0 := Q2A.c0
    have a1 := Q2A.c1
    have b0 := Q2B.c0
    have b1 := Q2B.c1
    clear PA PB QA QB Q2A Q2B X X1
    go_wp2_with fail
    first
      | (go_at_call 115
         refine (compareI _ _ _).mono ?_
         rw [HC.out _ _ HP.out HQ.out (by decide)]
         rintro e w' ⟨rfl, rfl⟩
         go_wp2_with fail
         go_ret
         exact ⟨rfl, BB⟩)
      | (go_at_call 104
         (with_reducible refine (cmpN Y.nm X2.nm hj hk).mono ?_)
         rw [← HN.out HZ.out HU.out]
         rintro e w3 ⟨rfl, hb3⟩
         replace BB := bl_trans BB hb3
         clear hb3
         go_wp2_with fail
         go_ret
         exact ⟨rfl, BB⟩)
      | (go_at_call 104
         (with_reducible refine (cmpN X2.nm Y.nm hk hj).mono ?_)
         rw [← HM.out (by have := HZ.out; omega) (by have := HU.out; omega)]
         rintro e w3 ⟨rfl, hb3⟩
         replace BB := bl_trans BB hb3
         clear hb3
         go_wp2_with fail
         go_ret
         exact ⟨rfl, BB⟩)

end

end Go.Proofs.YtbhgbilhoonopaaGreat

/- big.From, Small. -/
namespace Go.Proofs.YtbhgbilhoonopaaGreat
open Go.RowKit
set_option linter.unusedVariables false
set_option maxRecDepth 100000

theorem xor_zero (v : Int) (h0 : 0 ≤ v) (h1 : v < 9223372036854775808) : bits .xor .i64 v 0 = v := by
 obtain ⟨x, rfl⟩ : ∃ x : Nat, v = (x : Int) := ⟨v.toNat, by omega⟩
 show IntKind.i64.wrap ((BitVec.ofInt 64 (x : Int) ^^^ BitVec.ofInt 64 0).toNat : Int) = _
 have h2 : (BitVec.ofInt 64 (x : Int)).toNat = x := by
  rw [BitVec.ofInt_natCast, BitVec.toNat_ofNat]; exact Nat.mod_eq_of_lt (by omega)
 have h3 : (BitVec.ofInt 64 0).toNat = 0 := by decide
 rw [BitVec.toNat_xor, h2, h3, Nat.xor_zero, IntKind.wrap_i64]
 omega
theorem xor_ones (v : Int) (h0 : v < 0) (h1 : -9223372036854775808 ≤ v) : bits .xor .i64 v (-1) = -v - 1 := by
 obtain ⟨x, rfl⟩ : ∃ x : Nat, v = (x : Int) - 18446744073709551616 := ⟨(v + 18446744073709551616).toNat, by omega⟩
 show IntKind.i64.wrap ((BitVec.ofInt 64 ((x : Int) - 18446744073709551616) ^^^ BitVec.ofInt 64 (-1)).toNat : Int) = _
 have h2 : (BitVec.ofInt 64 ((x : Int) - 18446744073709551616)).toNat = x := by
  rw [BitVec.toNat_ofInt]
  omega
 have h3 : (BitVec.ofInt 64 (-1)).toNat = 2 ^ 64 - 1 := by decide
 rw [BitVec.toNat_xor, h2, h3, Nat.xor_comm, Lib.xor_ones64 x (by omega), IntKind.wrap_i64]
 omega

section
variable {w : World} {s t : Bool} {A B : Option Addr} {n c m d x y k j : Nat} {z u : Int}

set_option maxHeartbeats 400000 in
theorem from_pos (v : Int) (w : World) (h0 : 0 ≤ v) (h1 : v < 9223372036854775808) : Calls Tryz.prog 91 #[.int .i64 v] w (GivZ w v 2) := by
 have hq : v / 9223372036854775808 = 0 := by omega
 have hx := xor_zero v h0 h1
 go_enter Tryz.func91, Tryz.ntmps91
 go_wp2_with fail
 refine (from_any v _ (by omega) (by omega)).mono ?_
 rintro e w1 ⟨A1, c1, rfl, ho, hb1⟩
 have PR := (Bz.new w false none 0 0).below hb1
 have BB := bl_trans (bl_alloc w _) hb1
 have hl : (M.lims v.toNat).length ≤ 2 := M.lims_length_le.2 (by rw [show M.R ^ 2 = 18446744073709551616 from rfl]; omega)
 clear hb1 hx
 go_wp2_with fail
 refine (signed_any _ _ _ _ _).mono ?_
 rintro e w2 ⟨rfl, hb2⟩
 have Z := (zt_signed (s := false) ho hl).below hb2
 rw [show zv false v.toNat = v by rw [zv_false]; omega] at Z
 replace PR := PR.below hb2
 replace BB := bl_trans BB hb2
 have r0 := PR.c0
 have r1 := PR.c1
 have f0 := PR.f 0
 have f1 := PR.f 1
 clear hb2 ho
 go_wp2_with fail
 exact bodyPost_ret (v := .agg #[.bool (false && decide (0 < (M.lims v.toNat).length)), .slice A1 (M.lims v.toNat).length c1]) (by simp [results, Tryz.results91, go_sem, *]) rfl ⟨_, _, _, _, rfl, fin_z Z BB (by omega) (by simp) _ _⟩

set_option maxHeartbeats 400000 in
theorem from_neg (v : Int) (w : World) (h0 : v < 0) (h1 : -9223372036854775808 ≤ v) : Calls Tryz.prog 91 #[.int .i64 v] w (GivZ w v 2) := by
 have hq : v / 9223372036854775808 = -1 := by omega
 have hx := xor_ones v h0 h1
 go_enter Tryz.func91, Tryz.ntmps91
 go_wp2_with fail
 refine (from_any (-v) _ (by omega) (by omega)).mono ?_
 rintro e w1 ⟨A1, c1, rfl, ho, hb1⟩
 have PR := (Bz.new w false none 0 0).below hb1
 have BB := bl_trans (bl_alloc w _) hb1
 have hl : (M.lims (-v).toNat).length ≤ 2 := M.lims_length_le.2 (by rw [show M.R ^ 2 = 18446744073709551616 from rfl]; omega)
 clear hb1 hx
 go_wp2_with fail
 refine (signed_any _ _ _ _ _).mono ?_
 rintro e w2 ⟨rfl, hb2⟩
 have Z := (zt_signed (s := true) ho hl).below hb2
 rw [show zv true (-v).toNat = v by rw [zv_true]; omega] at Z
 replace PR := PR.below hb2
 replace BB := bl_trans BB hb2
 have r0 := PR.c0
 have r1 := PR.c1
 have f0 := PR.f 0
 have f1 := PR.f 1
 clear hb2 ho
 go_wp2_with fail
 exact bodyPost_ret (v := .agg #[.bool (true && decide (0 < (M.lims (-v).toNat).length)), .slice A1 (M.lims (-v).toNat).length c1]) (by simp [results, Tryz.results91, go_sem, *]) rfl ⟨_, _, _, _, rfl, fin_z Z BB (by omega) (by simp) _ _⟩

theorem fromZ (v : Int) (w : World) (h0 : -9223372036854775808 ≤ v) (h1 : v < 9223372036854775808) : Calls Tryz.prog 91 #[.int .i64 v] w (GivZ w v 2) := by
 by_cases h : v < 0
 ·exact from_neg v w h h0
 ·exact from_pos v w (by omega) h1

end

end Go.Proofs.YtbhgbilhoonopaaGreat
namespace Go.Proofs.YtbhgbilhoonopaaGreat
set_option linter.unusedVariables false

/-- What a D counts as. -/
def dOf (y : Nat) : Nat := if y = 0 then 1 else y
theorem dOf_pos (y : Nat) : dOf y ≠ 0 := by unfold dOf; split <;> omega
theorem dOf_zero : dOf 0 = 1 := rfl
theorem dOf_of {y : Nat} (h : y ≠ 0) : dOf y = y := by unfold dOf; rw [if_neg h]

theorem zv_div (b : Bool) {x g : Nat} (h : g ∣ x) : zv b (x / g) = zv b x / (g : Int) := by
 cases b
 ·rw [zv_false, zv_false, Int.natCast_ediv]
 ·rw [zv_true, zv_true, Int.natCast_ediv, Int.neg_ediv_of_dvd (Int.natCast_dvd_natCast.2 h)]

theorem low_num (b : Bool) (x : Nat) {y : Nat} (hy : y ≠ 0) : zv b (x / x.gcd y) = (mkRat (zv b x) y).num := by
 rw [Rat.num_mkRat, if_neg hy, zv_abs, zv_div b (Nat.gcd_dvd_left x y), Nat.gcd_comm]
theorem low_den (b : Bool) (x : Nat) {y : Nat} (hy : y ≠ 0) : y / x.gcd y = (mkRat (zv b x) y).den := by
 rw [Rat.den_mkRat, if_neg hy, zv_abs, Nat.gcd_comm]
theorem num_le (z : Int) (y : Nat) : (mkRat z y).num.natAbs ≤ z.natAbs := by
 rw [Rat.num_mkRat]
 split
 ·simp
 ·exact Int.natAbs_ediv_le_natAbs z _
theorem den_le (z : Int) {y : Nat} (hy : y ≠ 0) : (mkRat z y).den ≤ y := by
 rw [Rat.den_mkRat, if_neg hy]
 exact Nat.div_le_self _ _

section
variable (a b : Rat)
/-- What Ns over one D are times. -/
def ofA : Nat := b.den / a.den.gcd b.den
def ofB : Nat := a.den / a.den.gcd b.den
theorem two_g : 0 < a.den.gcd b.den := Nat.gcd_pos_of_pos_left _ a.den_pos
theorem two_A : ofA a b * a.den.gcd b.den = b.den := Nat.div_mul_cancel (Nat.gcd_dvd_right _ _)
theorem two_B : ofB a b * a.den.gcd b.den = a.den := Nat.div_mul_cancel (Nat.gcd_dvd_left _ _)
theorem two_A_pos : ofA a b ≠ 0 := fun h => by have := two_A a b; rw [h, Nat.zero_mul] at this; exact b.den_nz this.symm
theorem two_B_pos : ofB a b ≠ 0 := fun h => by have := two_B a b; rw [h, Nat.zero_mul] at this; exact a.den_nz this.symm
theorem two_d : a.den * ofA a b = b.den * ofB a b := by
 have h := two_g a b
 have h1 := two_A a b
 have h2 := two_B a b
 refine Nat.eq_of_mul_eq_mul_right h ?_
 rw [Nat.mul_assoc, h1, Nat.mul_assoc, h2, Nat.mul_comm]
theorem two_add : mkRat (a.num * (ofA a b : Int) + b.num * (ofB a b : Int)) (a.den * ofA a b) = a + b := by
 rw [← Rat.mkRat_mul_right (a := a.den.gcd b.den) (by have := two_g a b; omega), Rat.add_def', Int.add_mul, Int.mul_assoc, Int.mul_assoc, ← Int.natCast_mul, ← Int.natCast_mul, two_A, two_B, Nat.mul_assoc, two_A]
theorem two_mul : mkRat ((a.num * (ofA a b : Int)) * (b.num * (ofB a b : Int))) ((a.den * ofA a b) * (a.den * ofA a b)) = a * b := by
 have e1 : (a.den * ofA a b) * (a.den * ofA a b) = (a.den * b.den) * (ofA a b * ofB a b) := by
  conv => lhs; rhs; rw [two_d]
  simp only [Nat.mul_assoc, Nat.mul_left_comm]
 have e2 : (a.num * (ofA a b : Int)) * (b.num * (ofB a b : Int)) = (a.num * b.num) * ((ofA a b * ofB a b : Nat) : Int) := by
  rw [Int.natCast_mul]
  simp only [Int.mul_assoc, Int.mul_left_comm]
 rw [e1, e2, Rat.mkRat_mul_right (Nat.mul_ne_zero (two_A_pos a b) (two_B_pos a b)), Rat.mul_def']
theorem two_cmp : cmpI (a.num * (ofA a b : Int)) (b.num * (ofB a b : Int)) = cmpI (a.num * b.den) (b.num * a.den) := by
 have hg : (0 : Int) < (a.den.gcd b.den : Nat) := by have := two_g a b; omega
 have e1 : a.num * (b.den : Int) = (a.num * (ofA a b : Int)) * ((a.den.gcd b.den : Nat) : Int) := by rw [Int.mul_assoc, ← Int.natCast_mul, two_A]
 have e2 : b.num * (a.den : Int) = (b.num * (ofB a b : Int)) * ((a.den.gcd b.den : Nat) : Int) := by rw [Int.mul_assoc, ← Int.natCast_mul, two_B]
 rw [e1, e2]
 generalize a.num * (ofA a b : Int) = n
 generalize b.num * (ofB a b : Int) = m
 rcases Int.lt_trichotomy n m with h | h | h
 ·rw [cmpI_lt h, cmpI_lt (Int.mul_lt_mul_of_pos_right h hg)]
 ·rw [cmpI_eq h, cmpI_eq (by rw [h])]
 ·rw [cmpI_gt h, cmpI_gt (Int.mul_lt_mul_of_pos_right h hg)]
/-- How one fraction is to another one. -/
def cmpQ : Int := cmpI (a.num * b.den) (b.num * a.den)
end

end Go.Proofs.YtbhgbilhoonopaaGreat
namespace Go.Proofs.YtbhgbilhoonopaaGreat
open Go.RowKit
set_option linter.unusedVariables false

section
variable {P : Program} {ops : Array Oper} {Q : Exit → Act → World → Prop}

def dstOf (ops : Array Oper) (i : Nat) : Option Tmp := (ops[i]?).bind (·.dst)
/-- No slot is written by two operations. -/
def dstsApart (ops : Array Oper) : Bool := (List.range ops.size).all fun i => (List.range ops.size).all fun j => i == j || (dstOf ops i).all fun d => dstOf ops j != some d
def dstsIn (ops : Array Oper) (n : Nat) : Bool := (List.range ops.size).all fun i => (dstOf ops i).all fun d => decide (d < n)
/-- Operation i waits for j. -/
def needs (ops : Array Oper) (i j : Nat) : Bool := (ops[i]?).any fun o => o.after.any fun e => Region.binds .any e && e.on == j
/-- Slot k is not written ahead of operation i. -/
def untouched (ops : Array Oper) (i k : Nat) : Bool := (List.range ops.size).all fun j => j == i || dstOf ops j != some k || needs ops j i

theorem dstsApart_ne (h : dstsApart ops = true) {i j d : Nat} (hi : i < ops.size) (hj : j < ops.size) (hne : i ≠ j) (hd : dstOf ops i = some d) : dstOf ops j ≠ some d := by
 unfold dstsApart at h
 rw [List.all_eq_true] at h
 have h1 := h i (List.mem_range.2 hi)
 rw [List.all_eq_true] at h1
 have h2 := h1 j (List.mem_range.2 hj)
 rw [hd] at h2
 simp [hne] at h2
 exact h2
theorem dstsIn_lt {n : Nat} (h : dstsIn ops n = true) {i d : Nat} (hi : i < ops.size) (hd : dstOf ops i = some d) : d < n := by
 unfold dstsIn at h
 rw [List.all_eq_true] at h
 have h1 := h i (List.mem_range.2 hi)
 rw [hd] at h1
 simpa using h1

/-- The slot of a store's pointer. -/
def auxOf (ops : Array Oper) (i : Nat) : Option Tmp := (ops[i]?).bind fun o => match o.op with | .store _ (.tmp p) _ => some p | _ => none
/-- .. what it holds. -/
def auxV (ops : Array Oper) (i : Nat) (a : Act) : Value := match auxOf ops i with | some p => a.tmps.getD p undef | none => undef
/-- No store's pointer is written behind it. -/
def auxKept (ops : Array Oper) : Bool := (List.range ops.size).all fun i => (auxOf ops i).all fun p => (List.range ops.size).all fun j => dstOf ops j != some p || needs ops i j
theorem auxKept_ne (h : auxKept ops = true) {i j p : Nat} (hi : i < ops.size) (hj : j < ops.size) (ha : auxOf ops i = some p) (hn : needs ops i j = false) : dstOf ops j ≠ some p := by
 unfold auxKept at h
 rw [List.all_eq_true] at h
 have h1 := h i (List.mem_range.2 hi)
 rw [ha] at h1
 simp only [Option.all_some, List.all_eq_true] at h1
 have h2 := h1 j (List.mem_range.2 hj)
 rw [hn, Bool.or_false] at h2
 simpa using h2

def isAlloc (ops : Array Oper) (i : Nat) : Bool := (ops[i]?).any fun o => match o.op with | .alloc _ => true | _ => false
/-- Stores go each to a variable of its own, which the region makes. -/
def auxApart (ops : Array Oper) : Bool := (List.range ops.size).all fun i => (auxOf ops i).all fun p =>
 ((List.range ops.size).any fun m => isAlloc ops m && dstOf ops m == some p && needs ops i m) && (List.range ops.size).all fun j => i == j || auxOf ops j != some p
theorem auxApart_alloc (h : auxApart ops = true) {i p : Nat} (hi : i < ops.size) (ha : auxOf ops i = some p) : ∃ m, m < ops.size ∧ isAlloc ops m = true ∧ dstOf ops m = some p ∧ needs ops i m = true := by
 unfold auxApart at h
 rw [List.all_eq_true] at h
 have h1 := h i (List.mem_range.2 hi)
 rw [ha] at h1
 simp only [Option.all_some, Bool.and_eq_true, List.any_eq_true] at h1
 obtain ⟨⟨m, hm, hx⟩, _⟩ := h1
 exact ⟨m, List.mem_range.1 hm, hx.1.1, by simpa using hx.1.2, hx.2⟩
theorem auxApart_ne (h : auxApart ops = true) {i j p : Nat} (hi : i < ops.size) (hj : j < ops.size) (hne : i ≠ j) (ha : auxOf ops i = some p) : auxOf ops j ≠ some p := by
 unfold auxApart at h
 rw [List.all_eq_true] at h
 have h1 := h i (List.mem_range.2 hi)
 rw [ha] at h1
 simp only [Option.all_some, Bool.and_eq_true, List.all_eq_true] at h1
 have := h1.2 j (List.mem_range.2 hj)
 simp [hne] at this
 exact this

/-- What is known of a region that is under way: which operations came up, and what they left. -/
structure RInv (Ext : World → World → Prop) (Rel : Value → World → World → Prop) (ops : Array Oper) (sp : Nat → Value → Value → World → Prop) (a0 : Act) (W0 : World) (listed : Array Bool) (a : Act) (w : World) : Prop where
 ext : Ext W0 w
 sz : a.tmps.size = a0.tmps.size
 defers : a.defers = a0.defers
 lsz : listed.size = ops.size
 closed : ∀ j o, ops[j]? = some o → listed.getD j false = true → ∀ e ∈ o.after, Region.binds .any e = true → listed.getD e.on false = true
 old : ∀ k, (∀ i, listed.getD i false = true → dstOf ops i ≠ some k) → a.tmps[k]? = a0.tmps[k]?
 got : ∀ i, listed.getD i false = true → ∃ v, (∀ d, dstOf ops i = some d → a.tmps[d]? = some v) ∧ sp i v (auxV ops i a) w
 apart : ∀ i j di dj, i ≠ j → listed.getD i false = true → listed.getD j false = true → isAlloc ops i = true → isAlloc ops j = true → dstOf ops i = some di → dstOf ops j = some dj → a.tmps[di]? ≠ a.tmps[dj]?

/-- What an operation may go by. -/
structure Sees (Ext : World → World → Prop) (Rel : Value → World → World → Prop) (ops : Array Oper) (sp : Nat → Value → Value → World → Prop) (a0 : Act) (W0 : World) (i : Nat) (a : Act) (w : World) : Prop where
 ext : Ext W0 w
 got : ∀ j, needs ops i j = true → ∃ v, (∀ d, dstOf ops j = some d → a.tmps[d]? = some v) ∧ sp j v (auxV ops j a) w
 old : ∀ k, untouched ops i k = true → a.tmps[k]? = a0.tmps[k]?

/-- What an operation must leave. -/
def Leaves (Rel : Value → World → World → Prop) (ops : Array Oper) (sp : Nat → Value → Value → World → Prop) (i : Nat) (a : Act) (w : World) (a' : Act) (w' : World) : Prop :=
 ∃ v, a' = a.put (dstOf ops i) v ∧ Rel (auxV ops i a) w w' ∧ sp i v (auxV ops i a) w' ∧ (isAlloc ops i = true → ∀ j vj u, isAlloc ops j = true → sp j vj u w → vj ≠ v)

def RStep (P : Program) (Ext : World → World → Prop) (Rel : Value → World → World → Prop) (ops : Array Oper) (Q : Exit → Act → World → Prop) (sp : Nat → Value → Value → World → Prop) (a0 : Act) (W0 : World) (i : Nat) : Prop :=
 ∀ a w, Sees Ext Rel ops sp a0 W0 i a w → wpOp P ops Q i (Leaves Rel ops sp i a w) a w

theorem getD_set_cases {listed : Array Bool} {i j : Nat} (h : (listed.setIfInBounds i true).getD j false = true) : j = i ∨ listed.getD j false = true := by
 by_cases hij : i = j
 ·exact .inl hij.symm
 ·rw [getD_set_ne false hij] at h
  exact .inr h
theorem getD_lt {listed : Array Bool} {j : Nat} (h : listed.getD j false = true) : j < listed.size := by
 rcases Nat.lt_or_ge j listed.size with h' | h'
 ·exact h'
 ·simp [Array.getElem?_eq_none h'] at h
theorem not_true_of {listed : Array Bool} {j : Nat} (h : listed.getD j true = false) : listed.getD j false = false := by
 rcases Nat.lt_or_ge j listed.size with h' | h'
 ·simp [h'] at h ⊢
  exact h
 ·simp [Array.getElem?_eq_none h']

theorem put_size (a : Act) (d : Option Tmp) (v : Value) : (a.put d v).tmps.size = a.tmps.size := by cases d <;> simp [Act.put]
theorem put_defers (a : Act) (d : Option Tmp) (v : Value) : (a.put d v).defers = a.defers := by cases d <;> rfl
theorem put_other (a : Act) {d : Option Tmp} {k : Nat} (v : Value) (h : d ≠ some k) : (a.put d v).tmps[k]? = a.tmps[k]? := by
 cases d with
 | none => rfl
 | some d =>
  have : d ≠ k := fun e => h (by rw [e])
  simp [Act.put, Array.getElem?_setIfInBounds_ne this]
theorem put_same (a : Act) {k : Nat} (v : Value) (h : k < a.tmps.size) : (a.put (some k) v).tmps[k]? = some v := by
 simp [Act.put, h]

/-- Each operation waits for earlier ones alone. -/
def edgesBack (ops : Array Oper) : Bool := (List.range ops.size).all fun i => (ops[i]?).all fun o => o.after.all fun e => !Region.binds .any e || decide (e.on < i)
theorem edgesBack_lt (h : edgesBack ops = true) {i : Nat} {o : Oper} {e : Edge} (ho : ops[i]? = some o) (he : e ∈ o.after) (hb : Region.binds .any e = true) : e.on < i := by
 have hi : i < ops.size := (Array.getElem?_eq_some_iff.1 ho).1
 unfold edgesBack at h
 rw [List.all_eq_true] at h
 have h1 := h i (List.mem_range.2 hi)
 rw [ho] at h1
 simp only [Option.all_some, Array.all_eq_true'] at h1
 have h2 := h1 e he
 rw [hb] at h2
 simpa using h2
theorem noself (hE : edgesBack ops = true) {i : Nat} {o : Oper} (ho : ops[i]? = some o) : needs ops i i = false := by
 cases hn : needs ops i i with
 | false => rfl
 | true =>
  exfalso
  unfold needs at hn
  rw [ho] at hn
  simp only [Option.any_some, Array.any_eq_true'] at hn
  obtain ⟨e, he, hje⟩ := hn
  rw [Bool.and_eq_true, beq_iff_eq] at hje
  have := edgesBack_lt hE ho he hje.1
  omega
theorem auxV_put {i : Nat} {a : Act} {d : Option Tmp} {v : Value} (h : ∀ p, auxOf ops i = some p → d ≠ some p) : auxV ops i (a.put d v) = auxV ops i a := by
 unfold auxV
 cases ha : auxOf ops i with
 | none => rfl
 | some p =>
  have := put_other a (d := d) (k := p) v (h p ha)
  simp only [Array.getD_eq_getD_getElem?, this]

theorem needs_listed {Ext : World → World → Prop} {Rel : Value → World → World → Prop} {sp : Nat → Value → Value → World → Prop} {a0 : Act} {W0 : World} {listed : Array Bool} {a : Act} {w : World} (h : RInv Ext Rel ops sp a0 W0 listed a w) {j m : Nat} (hj : listed.getD j false = true) (hn : needs ops j m = true) : listed.getD m false = true := by
 unfold needs at hn
 cases hoj : ops[j]? with
 | none => rw [hoj] at hn; cases hn
 | some oj =>
  rw [hoj] at hn
  simp only [Option.any_some, Array.any_eq_true'] at hn
  obtain ⟨e, he, hje⟩ := hn
  rw [Bool.and_eq_true, beq_iff_eq] at hje
  have := h.closed j oj hoj hj e he hje.1
  rw [hje.2] at this
  exact this
theorem ready_needs {listed : Array Bool} {i m : Nat} (hi : i ∈ Region.ready .any ops listed) (hn : needs ops i m = true) : listed.getD m false = true := by
 obtain ⟨hun, o, ho, hall⟩ := mem_ready.1 hi
 unfold needs at hn
 rw [ho] at hn
 simp only [Option.any_some, Array.any_eq_true'] at hn
 obtain ⟨e, he, hje⟩ := hn
 rw [Bool.and_eq_true, beq_iff_eq] at hje
 have := hall e he hje.1
 rw [hje.2] at this
 exact this
/-- The variables of two stores are two. -/
theorem auxV_ne {Ext : World → World → Prop} {Rel : Value → World → World → Prop} {sp : Nat → Value → Value → World → Prop} {a0 : Act} {W0 : World} {listed : Array Bool} {a : Act} {w : World} (hY : auxApart ops = true) (h : RInv Ext Rel ops sp a0 W0 listed a w) {i j : Nat} (hi : i ∈ Region.ready .any ops listed) (hjl : j < ops.size) (hj : listed.getD j false = true) (hne : j ≠ i) (hu : auxV ops i a ≠ undef) : auxV ops i a ≠ auxV ops j a := by
 have hilt : i < ops.size := by
  obtain ⟨_, o, ho, _⟩ := mem_ready.1 hi
  exact (Array.getElem?_eq_some_iff.1 ho).1
 cases hpi : auxOf ops i with
 | none => exact absurd (by unfold auxV; rw [hpi]) hu
 | some p =>
  cases hpj : auxOf ops j with
  | none =>
   have : auxV ops j a = undef := by unfold auxV; rw [hpj]
   rw [this]
   exact hu
  | some q =>
   have hpq : p ≠ q := fun e => auxApart_ne hY hilt hjl (Ne.symm hne) hpi (by rw [hpj, e])
   obtain ⟨m, hm, ham, hdm, hnm⟩ := auxApart_alloc hY hilt hpi
   obtain ⟨m', hm', ham', hdm', hnm'⟩ := auxApart_alloc hY hjl hpj
   have hlm := ready_needs hi hnm
   have hlm' := needs_listed h hj hnm'
   have hmm : m ≠ m' := fun e => hpq (by rw [e, hdm'] at hdm; exact (Option.some.inj hdm).symm)
   have := h.apart m m' p q hmm hlm hlm' ham ham' hdm hdm'
   obtain ⟨v, hv, _⟩ := h.got m hlm
   obtain ⟨v', hv', _⟩ := h.got m' hlm'
   rw [hv p hdm, hv' q hdm'] at this
   unfold auxV
   rw [hpi, hpj]
   simp only [Array.getD_eq_getD_getElem?, hv p hdm, hv' q hdm', Option.getD_some]
   exact fun e => this (by rw [e])

theorem RInv.step {Ext : World → World → Prop} {Rel : Value → World → World → Prop} {sp : Nat → Value → Value → World → Prop} {a0 : Act} {W0 : World} {listed : Array Bool} {a : Act} {w : World} (hA : dstsApart ops = true) (hI : dstsIn ops a0.tmps.size = true) (hE : edgesBack ops = true)
  (htr : ∀ u a b c, Ext a b → Rel u b c → Ext a c) (hX : auxKept ops = true) (hY : auxApart ops = true) (hst : ∀ i v u u' w w', Rel u' w w' → (u' ≠ undef → u' ≠ u) → sp i v u w → sp i v u w') (h : RInv Ext Rel ops sp a0 W0 listed a w) {i : Nat} (hi : i ∈ Region.ready .any ops listed) {a' : Act} {w' : World} (hl : Leaves Rel ops sp i a w a' w') :
  RInv Ext Rel ops sp a0 W0 (listed.setIfInBounds i true) a' w' := by
 obtain ⟨v, rfl, hb, hsp, hfr⟩ := hl
 obtain ⟨hun, o, ho, hall⟩ := mem_ready.1 hi
 have hilt : i < ops.size := (Array.getElem?_eq_some_iff.1 ho).1
 have hnl := not_true_of hun
 refine ⟨htr _ _ _ _ h.ext hb, (put_size _ _ _).trans h.sz, (put_defers _ _ _).trans h.defers, by rw [Array.size_setIfInBounds]; exact h.lsz, ?_, ?_, ?_, ?_⟩
 ·intro j oj hoj hj e he hbe
  rcases getD_set_cases hj with rfl | hj
  ·rw [ho] at hoj
   cases hoj
   exact getD_set_true (hall e he hbe)
  ·exact getD_set_true (h.closed j oj hoj hj e he hbe)
 ·intro k hk
  have hik : dstOf ops i ≠ some k := hk i (by simp [h.lsz, hilt])
  rw [put_other _ _ hik]
  exact h.old k fun j hj => hk j (getD_set_true hj)
 ·intro j hj
  rcases getD_set_cases hj with rfl | hj
  ·refine ⟨v, fun d hd => ?_, ?_⟩
   ·rw [hd]
    exact put_same _ _ (by rw [h.sz]; exact dstsIn_lt hI hilt hd)
   ·rw [auxV_put]
    ·exact hsp
    ·intro p hp
     exact auxKept_ne hX hilt hilt hp (noself hE ho)
  ·obtain ⟨u, hu, hs⟩ := h.got j hj
   have hjl : j < ops.size := by rw [← h.lsz]; exact getD_lt hj
   have hne : j ≠ i := fun e => by rw [e, hnl] at hj; cases hj
   refine ⟨u, fun d hd => ?_, ?_⟩
   ·rw [put_other _ _ (dstsApart_ne hA hjl hilt hne hd)]
    exact hu d hd
   ·rw [auxV_put]
    ·refine hst j u _ _ w w' hb (fun hu0 => ?_) hs
     exact auxV_ne hY h hi hjl hj hne hu0
    ·intro p hp
     refine auxKept_ne hX hjl hilt hp ?_
     cases hn : needs ops j i with
     | false => rfl
     | true =>
      exfalso
      unfold needs at hn
      cases hoj : ops[j]? with
      | none => rw [hoj] at hn; cases hn
      | some oj =>
       rw [hoj] at hn
       simp only [Option.any_some, Array.any_eq_true'] at hn
       obtain ⟨e, he, hje⟩ := hn
       rw [Bool.and_eq_true, beq_iff_eq] at hje
       have := h.closed j oj hoj hj e he hje.1
       rw [hje.2, hnl] at this
       cases this
 ·intro j k dj dk hjk hj0 hk0 haj hak hdj hdk
  rcases getD_set_cases hj0 with rfl | hj
  ·rcases getD_set_cases hk0 with rfl | hk
   ·exact absurd rfl hjk
   ·have hkl : k < ops.size := by rw [← h.lsz]; exact getD_lt hk
    obtain ⟨u, hu, hs⟩ := h.got k hk
    rw [hdj, put_same _ _ (by rw [h.sz]; exact dstsIn_lt hI hilt hdj), put_other _ _ (fun e => dstsApart_ne hA hilt hkl hjk hdj (by rw [hdk, e])), hu dk hdk]
    intro e
    injection e with e
    exact hfr haj k u _ hak hs e.symm
  ·rcases getD_set_cases hk0 with rfl | hk
   ·have hjl : j < ops.size := by rw [← h.lsz]; exact getD_lt hj
    obtain ⟨u, hu, hs⟩ := h.got j hj
    rw [hdk, put_same _ _ (by rw [h.sz]; exact dstsIn_lt hI hilt hdk), put_other _ _ (fun e => dstsApart_ne hA hilt hjl (Ne.symm hjk) hdk (by rw [hdj, e])), hu dj hdj]
    intro e
    injection e with e
    exact hfr hak j u _ haj hs e
   ·have hjl : j < ops.size := by rw [← h.lsz]; exact getD_lt hj
    have hkl : k < ops.size := by rw [← h.lsz]; exact getD_lt hk
    have hji : j ≠ i := fun e => by rw [e, hnl] at hj; cases hj
    have hki : k ≠ i := fun e => by rw [e, hnl] at hk; cases hk
    rw [put_other _ _ (dstsApart_ne hA hjl hilt hji hdj), put_other _ _ (dstsApart_ne hA hkl hilt hki hdk)]
    exact h.apart j k dj dk hjk hj hk haj hak hdj hdk

theorem RInv.sees {Ext : World → World → Prop} {Rel : Value → World → World → Prop} {sp : Nat → Value → Value → World → Prop} {a0 : Act} {W0 : World} {listed : Array Bool} {a : Act} {w : World} (h : RInv Ext Rel ops sp a0 W0 listed a w) {i : Nat} (hi : i ∈ Region.ready .any ops listed) : Sees Ext Rel ops sp a0 W0 i a w := by
 obtain ⟨hun, o, ho, hall⟩ := mem_ready.1 hi
 have hnl := not_true_of hun
 refine ⟨h.ext, fun j hj => ?_, fun k hk => ?_⟩
 ·unfold needs at hj
  rw [ho] at hj
  simp only [Option.any_some, Array.any_eq_true'] at hj
  obtain ⟨e, he, hje⟩ := hj
  rw [Bool.and_eq_true, beq_iff_eq] at hje
  have := hall e he hje.1
  rw [hje.2] at this
  exact h.got j this
 ·refine h.old k fun j hj hd => ?_
  unfold untouched at hk
  rw [List.all_eq_true] at hk
  have hjl : j < ops.size := by rw [← h.lsz]; exact getD_lt hj
  have h1 := hk j (List.mem_range.2 hjl)
  rw [hd] at h1
  simp only [bne_self_eq_false, Bool.or_false, Bool.or_eq_true, beq_iff_eq] at h1
  rcases h1 with h1 | h1
  ·rw [h1, hnl] at hj; cases hj
  ·unfold needs at h1
   cases hoj : ops[j]? with
   | none => rw [hoj] at h1; cases h1
   | some oj =>
    rw [hoj] at h1
    simp only [Option.any_some, Array.any_eq_true'] at h1
    obtain ⟨e, he, hje⟩ := h1
    rw [Bool.and_eq_true, beq_iff_eq] at hje
    have := h.closed j oj hoj hj e he hje.1
    rw [hje.2, hnl] at this
    cases this

def allBelow : Nat → (Nat → Prop) → Prop
 | 0, _ => True
 | n + 1, p => allBelow n p ∧ p n
theorem allBelow_lt {p : Nat → Prop} : ∀ {n : Nat}, allBelow n p → ∀ i, i < n → p i
 | 0, _, i, hi => absurd hi (by omega)
 | n + 1, h, i, hi => by
  rcases Nat.lt_or_ge i n with h' | h'
  ·exact allBelow_lt h.1 i h'
  ·have : i = n := by omega
   subst this
   exact h.2

/-- All that the operations left, in the text's order. -/
def putAll : List Oper → List Value → Act → Act
 | o :: os, v :: vs, a => putAll os vs (a.put o.dst v)
 | _, _, a => a

theorem ready_all {listed : Array Bool} (hl : listed.size = ops.size) (hE : edgesBack ops = true) (h : Region.ready .any ops listed = []) (i : Nat) : i < ops.size → listed.getD i false = true := by
 induction i using Nat.strongRecOn with
 | ind i ih =>
  intro hi
  cases hc : listed.getD i false with
  | true => rfl
  | false =>
   exfalso
   have hi' : i < listed.size := by omega
   have : i ∈ Region.ready .any ops listed := by
    refine mem_ready.2 ⟨?_, ops[i], Array.getElem?_eq_getElem hi, fun e he hb => ?_⟩
    ·simp [hi'] at hc ⊢
     exact hc
    ·have := edgesBack_lt hE (Array.getElem?_eq_getElem hi) he hb
     exact ih e.on this (by omega)
   rw [h] at this
   cases this

theorem putAll_size : ∀ (os : List Oper) (vs : List Value) (a : Act), (putAll os vs a).tmps.size = a.tmps.size
 | o :: os, v :: vs, a => by rw [putAll, putAll_size, put_size]
 | [], _, a => by simp [putAll]
 | _ :: _, [], a => by simp [putAll]
theorem putAll_defers : ∀ (os : List Oper) (vs : List Value) (a : Act), (putAll os vs a).defers = a.defers
 | o :: os, v :: vs, a => by rw [putAll, putAll_defers, put_defers]
 | [], _, a => by simp [putAll]
 | _ :: _, [], a => by simp [putAll]
theorem putAll_other : ∀ (os : List Oper) (vs : List Value) (a : Act) (k : Nat), (∀ o ∈ os, o.dst ≠ some k) → (putAll os vs a).tmps[k]? = a.tmps[k]?
 | o :: os, v :: vs, a, k, h => by rw [putAll, putAll_other os vs _ k (fun o' ho' => h o' (List.mem_cons_of_mem _ ho')), put_other _ _ (h o List.mem_cons_self)]
 | [], _, a, k, _ => by simp [putAll]
 | _ :: _, [], a, k, _ => by simp [putAll]
theorem putAll_at : ∀ (os : List Oper) (vs : List Value) (a : Act) (i k : Nat) (o : Oper) (v : Value), os[i]? = some o → vs[i]? = some v → o.dst = some k → k < a.tmps.size → (∀ j o', os[j]? = some o' → j ≠ i → o'.dst ≠ some k) → (putAll os vs a).tmps[k]? = some v
 | o :: os, v :: vs, a, 0, k, o', v', ho, hv, hd, hk, hne => by
  simp at ho hv
  subst ho hv
  rw [putAll, putAll_other os vs _ k, hd, put_same _ _ hk]
  intro o' ho'
  obtain ⟨j, hj⟩ := List.getElem?_of_mem ho'
  exact hne (j + 1) o' (by simpa using hj) (by omega)
 | o :: os, v :: vs, a, i + 1, k, o', v', ho, hv, hd, hk, hne => by
  simp at ho hv
  rw [putAll]
  refine putAll_at os vs _ i k o' v' ho hv hd (by rw [put_size]; exact hk) fun j o'' hj hji => ?_
  exact hne (j + 1) o'' (by simpa using hj) (by omega)
 | [], _, a, i, k, o, v, ho, _, _, _, _ => by simp at ho
 | _ :: _, [], a, i, k, o, v, _, hv, _, _, _ => by simp at hv

theorem vals_of {p : Nat → Value → Prop} : ∀ n, (∀ i, i < n → ∃ v, p i v) → ∃ vs : List Value, vs.length = n ∧ ∀ i v, vs[i]? = some v → p i v
 | 0, _ => ⟨[], rfl, fun i v h => by simp at h⟩
 | n + 1, h => by
  obtain ⟨vs, hl, hv⟩ := vals_of n fun i hi => h i (by omega)
  obtain ⟨v, hv'⟩ := h n (by omega)
  refine ⟨vs ++ [v], by simp [hl], fun i u hu => ?_⟩
  rcases Nat.lt_or_ge i n with hi | hi
  ·rw [List.getElem?_append_left (by omega)] at hu
   exact hv i u hu
  ·rw [List.getElem?_append_right (by omega)] at hu
   rcases Nat.lt_or_ge n i with h9 | h9
   ·rw [List.getElem?_eq_none (by simp; omega)] at hu; cases hu
   ·have : i = n := by omega
    subst this
    rw [hl, Nat.sub_self] at hu
    simp at hu
    subst hu
    exact hv'

theorem RInv.fin {Ext : World → World → Prop} {Rel : Value → World → World → Prop} {sp : Nat → Value → Value → World → Prop} {a0 : Act} {W0 : World} {listed : Array Bool} {a : Act} {w : World} (hA : dstsApart ops = true) (hI : dstsIn ops a0.tmps.size = true) (hE : edgesBack ops = true)
  (h : RInv Ext Rel ops sp a0 W0 listed a w) (hr : Region.ready .any ops listed = []) : ∃ vs : List Value, vs.length = ops.size ∧ a = putAll ops.toList vs a0 ∧ ∀ i v, vs[i]? = some v → (∀ d, dstOf ops i = some d → a.tmps[d]? = some v) ∧ sp i v (auxV ops i a) w := by
 have hall := ready_all h.lsz hE hr
 obtain ⟨vs, hl, hv⟩ := vals_of (p := fun i v => (∀ d, dstOf ops i = some d → a.tmps[d]? = some v) ∧ sp i v (auxV ops i a) w) ops.size fun i hi => h.got i (hall i hi)
 refine ⟨vs, hl, ?_, hv⟩
 have ht : a.tmps = (putAll ops.toList vs a0).tmps := by
  apply Array.ext_getElem?
  intro k
  by_cases hk : ∃ i, i < ops.size ∧ dstOf ops i = some k
  ·obtain ⟨i, hi, hd⟩ := hk
   have hvi : vs[i]? = some (vs[i]'(by omega)) := List.getElem?_eq_getElem _
   rw [(hv i _ hvi).1 k hd]
   refine (putAll_at ops.toList vs a0 i k ops[i] _ (by simp [hi]) hvi ?_ (dstsIn_lt hI hi hd) ?_).symm
   ·unfold dstOf at hd
    rw [Array.getElem?_eq_getElem hi] at hd
    exact hd
   ·intro j o' hj hji hd'
    rw [Array.getElem?_toList] at hj
    have hjl : j < ops.size := (Array.getElem?_eq_some_iff.1 hj).1
    refine dstsApart_ne hA hi hjl (Ne.symm hji) hd ?_
    unfold dstOf
    rw [hj]
    exact hd'
  ·rw [h.old k fun i hi hd => hk ⟨i, by rw [← h.lsz]; exact getD_lt hi, hd⟩]
   refine (putAll_other _ _ _ _ fun o ho hd => ?_).symm
   obtain ⟨j, hj⟩ := List.getElem?_of_mem ho
   rw [Array.getElem?_toList] at hj
   exact hk ⟨j, (Array.getElem?_eq_some_iff.1 hj).1, by unfold dstOf; rw [hj]; exact hd⟩
 have hd : a.defers = (putAll ops.toList vs a0).defers := by rw [h.defers, putAll_defers]
 cases a
 simp only at ht hd
 rw [ht, hd]

theorem count_set_true : ∀ (l : List Bool) (i : Nat), l[i]? = some false → (l.set i true).count false + 1 = l.count false
 | [], i, h => by simp at h
 | b :: l, 0, h => by
  simp at h
  subst h
  simp
 | b :: l, i + 1, h => by
  have := count_set_true l i (by simpa using h)
  rw [List.set_cons_succ, List.count_cons, List.count_cons]
  omega

theorem wpAny_spec {Ext : World → World → Prop} {Rel : Value → World → World → Prop} {sp : Nat → Value → Value → World → Prop} {a0 : Act} {W0 : World} (hA : dstsApart ops = true) (hI : dstsIn ops a0.tmps.size = true) (hE : edgesBack ops = true)
  (htr : ∀ u a b c, Ext a b → Rel u b c → Ext a c) (hX : auxKept ops = true) (hY : auxApart ops = true) (hst : ∀ i v u u' w w', Rel u' w w' → (u' ≠ undef → u' ≠ u) → sp i v u w → sp i v u w')
  (hstep : ∀ i, i < ops.size → RStep P Ext Rel ops Q sp a0 W0 i)
  (hfin : ∀ vs w, vs.length = ops.size → Ext W0 w → (∀ i v, vs[i]? = some v → (∀ d, dstOf ops i = some d → (putAll ops.toList vs a0).tmps[d]? = some v) ∧ sp i v (auxV ops i (putAll ops.toList vs a0)) w) → Q .normal (putAll ops.toList vs a0) w) :
  ∀ (fuel : Nat) (listed : Array Bool) (a : Act) (w : World), listed.toList.count false ≤ fuel → RInv Ext Rel ops sp a0 W0 listed a w → wpAny P .any ops Q fuel listed a w := by
 have fin : ∀ (listed : Array Bool) (a : Act) (w : World), RInv Ext Rel ops sp a0 W0 listed a w → Region.ready .any ops listed = [] → Q .normal a w := by
  intro listed a w h hr
  obtain ⟨vs, hl, rfl, hv⟩ := h.fin hA hI hE hr
  exact hfin vs w hl h.ext hv
 intro fuel
 induction fuel with
 | zero =>
  intro listed a w hc h
  have hr : Region.ready .any ops listed = [] := by
   apply List.eq_nil_iff_forall_not_mem.2
   intro i hi
   obtain ⟨hun, o, ho, _⟩ := mem_ready.1 hi
   have hil : i < listed.size := by rw [h.lsz]; exact (Array.getElem?_eq_some_iff.1 ho).1
   simp [hil] at hun
   have : false ∈ listed.toList := by rw [← hun]; simp
   have := List.count_pos_iff.2 this
   omega
  exact ⟨hr, fin listed a w h hr⟩
 | succ fuel ih =>
  intro listed a w hc h
  refine ⟨fin listed a w h, fun i hi => ?_⟩
  obtain ⟨hun, o, ho, _⟩ := mem_ready.1 hi
  have hil : i < ops.size := (Array.getElem?_eq_some_iff.1 ho).1
  refine wpOp_mono (fun a' w' hl => ih _ a' w' ?_ (h.step hA hI hE htr hX hY hst hi hl)) (hstep i hil a w (h.sees hi))
  have hil' : i < listed.size := by rw [h.lsz]; exact hil
  have hl : listed.toList[i]? = some false := by
   rw [Array.getElem?_toList, Array.getElem?_eq_getElem hil']
   simp [hil'] at hun
   rw [hun]
  have := count_set_true listed.toList i hl
  rw [Array.toList_setIfInBounds]
  omega

theorem no_one (n j : Nat) : ¬ (Array.replicate n false).getD j false = true := by
 by_cases h : j < n
 ·simp [h]
 ·simp [h]

theorem wp_region_spec {Ext : World → World → Prop} {Rel : Value → World → World → Prop} {sp : Nat → Value → Value → World → Prop} {id : Nat} {a0 : Act} {w0 : World} (hm : P.follows .mixedOrders = true) (hA : dstsApart ops = true) (hI : dstsIn ops a0.tmps.size = true) (hE : edgesBack ops = true)
  (hrf : ∀ a, Ext a a) (htr : ∀ u a b c, Ext a b → Rel u b c → Ext a c) (hX : auxKept ops = true) (hY : auxApart ops = true) (hst : ∀ i v u u' w w', Rel u' w w' → (u' ≠ undef → u' ≠ u) → sp i v u w → sp i v u w')
  (hstep : allBelow ops.size (RStep P Ext Rel ops Q sp a0 w0.drew))
  (hfin : ∀ vs w, vs.length = ops.size → Ext w0.drew w → (∀ i v, vs[i]? = some v → (∀ d, dstOf ops i = some d → (putAll ops.toList vs a0).tmps[d]? = some v) ∧ sp i v (auxV ops i (putAll ops.toList vs a0)) w) → Q .normal (putAll ops.toList vs a0) w) : (Code.region id ops true).wp P Q a0 w0 := by
 refine wp_region_any hm (wpAny_spec hA hI hE htr hX hY hst (allBelow_lt hstep) hfin _ _ _ _ ?_ ⟨hrf _, rfl, rfl, by simp, ?_, fun _ _ => rfl, ?_, ?_⟩)
 ·simp
 ·intro j o _ h
  exact absurd h (no_one _ _)
 ·intro i h
  exact absurd h (no_one _ _)
 ·intro i j di dj _ h
  exact absurd h (no_one _ _)
end

end Go.Proofs.YtbhgbilhoonopaaGreat

/- Single operations at a state of which only the slots that they read are known. -/
namespace Go.Proofs.YtbhgbilhoonopaaGreat
open Go.RowKit
set_option linter.unusedVariables false
set_option maxRecDepth 100000

section
variable {P : Program} {ops : Array Oper} {Q : Exit → Act → World → Prop} {Ext : World → World → Prop} {Rel : Value → World → World → Prop} {sp : Nat → Value → Value → World → Prop} {a0 : Act} {W0 : World} {i j d : Nat} {o : Oper}

theorem ev_of {a : Act} {k : Nat} {v : Value} (h : a.tmps[k]? = some v) : a.eval (.tmp k) = v := by
 show a.tmps.getD k undef = v
 rw [Array.getD_eq_getD_getElem?, h]
 rfl
/-- What an operation that is carried out must lead to. -/
def Done (Rel : Value → World → World → Prop) (ops : Array Oper) (sp : Nat → Value → Value → World → Prop) (i : Nat) (a : Act) (d : Option Tmp) (w : World) (a' : Act) (w' : World) : Prop := ∃ v, a' = a.put d v ∧ Rel (auxV ops i a) w w' ∧ sp i v (auxV ops i a) w' ∧ (isAlloc ops i = true → ∀ j vj u, isAlloc ops j = true → sp j vj u w → vj ≠ v)
theorem rs_plain (ho : ops[i]? = some o) (hg : o.guard = none) (h : ∀ a w, Sees Ext Rel ops sp a0 W0 i a w → o.wp P a w (Done Rel ops sp i a o.dst w) Q) : RStep P Ext Rel ops Q sp a0 W0 i := by
 intro a w hs
 unfold wpOp
 rw [ho]
 simp only
 have hw : Region.wanted o (yielded ops a.tmps) = true := by unfold Region.wanted; rw [hg]
 rw [if_pos hw]
 refine .inl (Oper.wp_mono (fun a' w' h' => ?_) (h a w hs))
 unfold Leaves
 rw [show dstOf ops i = o.dst by unfold dstOf; rw [ho]; rfl]
 exact h'
theorem rs_yes {b : Bool} (ho : ops[i]? = some o) (hg : o.guard = some (j, b)) (hn : needs ops i j = true) (hd : dstOf ops j = some d) (hj : ∀ v u w, sp j v u w → v = .bool b)
  (h : ∀ a w, Sees Ext Rel ops sp a0 W0 i a w → o.wp P a w (Done Rel ops sp i a o.dst w) Q) : RStep P Ext Rel ops Q sp a0 W0 i := by
 intro a w hs
 obtain ⟨v, hv, hsv⟩ := hs.got j hn
 have hv' := hv d hd
 rw [hj v _ w hsv] at hv'
 unfold wpOp
 rw [ho]
 simp only
 have hw : Region.wanted o (yielded ops a.tmps) = true := by
  unfold Region.wanted
  rw [hg]
  have : yielded ops a.tmps j = some b := by
   unfold yielded
   rw [show (ops[j]?).bind (·.dst) = some d from hd]
   simp only [Option.bind_some, hv']
  simp [this]
 rw [if_pos hw]
 refine .inl (Oper.wp_mono (fun a' w' h' => ?_) (h a w hs))
 unfold Leaves
 rw [show dstOf ops i = o.dst by unfold dstOf; rw [ho]; rfl]
 exact h'
theorem rs_no {b : Bool} (ho : ops[i]? = some o) (hg : o.guard = some (j, b)) (hn : needs ops i j = true) (hd : dstOf ops j = some d) (hj : ∀ v u w, sp j v u w → v = .bool (!b))
  (hna : isAlloc ops i = false) (hrf : ∀ u w, Rel u w w) (h : ∀ u w, sp i undef u w) : RStep P Ext Rel ops Q sp a0 W0 i := by
 intro a w hs
 obtain ⟨v, hv, hsv⟩ := hs.got j hn
 have hv' := hv d hd
 rw [hj v _ w hsv] at hv'
 unfold wpOp
 rw [ho]
 simp only
 have hw : ¬ Region.wanted o (yielded ops a.tmps) = true := by
  unfold Region.wanted
  rw [hg]
  have : yielded ops a.tmps j = some (!b) := by
   unfold yielded
   rw [show (ops[j]?).bind (·.dst) = some d from hd]
   simp only [Option.bind_some, hv']
  cases b <;> simp [this]
 rw [if_neg hw]
 unfold Leaves
 rw [show dstOf ops i = o.dst by unfold dstOf; rw [ho]; rfl]
 exact ⟨undef, rfl, hrf _ w, h _ w, fun e => by rw [hna] at e; cases e⟩
theorem wp_call {a : Act} {w : World} {f : FuncId} {args : Array Value} {K : Act → World → Prop} (h : (execOp a.eval o).run P w = .ok (.enter f args) w) (hc : Calls P f args w fun e w' => ∃ v, e = .returned v ∧ K (a.put o.dst v) w') : o.wp P a w K Q := by
 unfold Oper.wp
 rw [h]
 show Calls P f args w _
 refine hc.mono ?_
 rintro e w' ⟨v, rfl, hk⟩
 exact hk
end

section
variable {a : Act} {w : World} {K : Act → World → Prop} {Q : Exit → Act → World → Prop} {dst : Option Tmp} {ty : TypeId} {pos : String} {af : Array Edge} {gd : Option (Nat × Bool)} {x y : Operand} {s t : Bool} {A B : Option Addr} {n c m d g off : Nat} {p q : Int} {u v v' : Value}
theorem wp_move (h : K (a.put dst (a.eval x)) w) : Oper.wp Tryz.prog ⟨dst, .move x, ty, pos, af, gd⟩ a w K Q := h
theorem wp_mv {v : Value} (hx : a.eval x = v) (h : K (a.put dst v) w) : Oper.wp Tryz.prog ⟨dst, .move x, ty, pos, af, gd⟩ a w K Q := wp_move (by rw [hx]; exact h)
theorem wp_assign (h : K (a.put dst (a.eval x)) w) : Oper.wp Tryz.prog ⟨dst, .assign x, ty, pos, af, gd⟩ a w K Q := h
theorem wp_load (hx : a.eval x = .pointer (some ⟨g, 0, none⟩)) (hb : Bz w g s A n c) (h : K (a.put dst (.agg #[.bool s, .slice A n c])) w) : Oper.wp Tryz.prog ⟨dst, .load 24 x, ty, pos, af, gd⟩ a w K Q := by
 have c0 := hb.c0
 have c1 := hb.c1
 unfold Oper.wp execOp
 simp only [hx]
 go_simp
 exact h
theorem wp_bs2 (hx : a.eval x = .agg #[.bool s, .slice A n c]) (hy : a.eval y = .agg #[.bool t, .slice B m d]) (h : K (a.put dst (.slice (some ⟨w.heap.size, 0, none⟩) 2 2)) (w.alloc (.cells #[.bool s, .slice A n c, .bool t, .slice B m d] 24))) : Oper.wp Tryz.prog ⟨dst, .buildSlice 97 2 #[(0, x), (1, y)], ty, pos, af, gd⟩ a w K Q := by
 unfold Oper.wp execOp
 simp only [List.map_toArray, List.map_cons, List.map_nil, hx, hy]
 go_simp
 exact h
/-- f is called as it stands. -/
def CallsF (f : FuncId) : Prop := ∀ (args : Array Value) (w : World), (callFunc f args).run Tryz.prog w = .ok (.enter f args) w
theorem wp_callf {f : FuncId} {xs : Array Operand} {args : Array Value} {tys : Array TypeId} (hf : CallsF f) (ha : xs.map a.eval = args) (hc : Calls Tryz.prog f args w fun e w' => ∃ v, e = .returned v ∧ K (a.put dst v) w') : Oper.wp Tryz.prog ⟨dst, .call { callee := .value (.func f), args := xs, argTypes := tys }, ty, pos, af, gd⟩ a w K Q := by
 refine wp_call (f := f) (args := args) ?_ hc
 have : (execOp a.eval ⟨dst, .call { callee := .value (.func f), args := xs, argTypes := tys }, ty, pos, af, gd⟩).run Tryz.prog w = (callFunc f (xs.map a.eval)).run Tryz.prog w := by
  simp [go_sem]
 rw [this, ha, hf]
theorem wp_ext0 (hx : a.eval x = .tuple #[u, v]) (h : K (a.put dst u) w) : Oper.wp Tryz.prog ⟨dst, .extract x 0, ty, pos, af, gd⟩ a w K Q := by
 unfold Oper.wp execOp
 simp only [hx]
 go_simp
 exact h
theorem wp_ext1 (hx : a.eval x = .tuple #[u, v]) (h : K (a.put dst v) w) : Oper.wp Tryz.prog ⟨dst, .extract x 1, ty, pos, af, gd⟩ a w K Q := by
 unfold Oper.wp execOp
 simp only [hx]
 go_simp
 exact h
theorem wp_alloc (h : K (a.put dst (.pointer (some ⟨w.heap.size, 0, none⟩))) (w.alloc (.cells #[.bool false, .slice none 0 0] 24))) : Oper.wp Tryz.prog ⟨dst, .alloc 24, ty, pos, af, gd⟩ a w K Q := by
 unfold Oper.wp execOp
 go_simp
 exact h
theorem wp_store (hx : a.eval x = .pointer (some ⟨g, 0, none⟩)) (hy : a.eval y = .agg #[.bool t, .slice B m d]) (hb : Bz w g s A n c) (h : K (a.put dst undef) ((w.setCell ⟨g, 0, none⟩ (.bool t)).setCell ⟨g, 1, none⟩ (.slice B m d))) : Oper.wp Tryz.prog ⟨dst, .store 24 x y, ty, pos, af, gd⟩ a w K Q := by
 have c0 := hb.c0
 have c1 := hb.c1
 have f0 := hb.f 0
 have f1 := hb.f 1
 unfold Oper.wp execOp
 simp only [hx, hy]
 go_simp
 exact h
theorem wp_not (hx : a.eval x = .bool s) (h : K (a.put dst (.bool (!s))) w) : Oper.wp Tryz.prog ⟨dst, .unOp .not 4 x, ty, pos, af, gd⟩ a w K Q := by
 unfold Oper.wp execOp
 simp only [hx]
 go_simp
 exact h
theorem wp_pick {c : Operand} (hc : a.eval c = .bool s) (h : K (a.put dst (bif s then a.eval x else a.eval y)) w) : Oper.wp Tryz.prog ⟨dst, .pick c x y, ty, pos, af, gd⟩ a w K Q := by
 unfold Oper.wp execOp
 simp only [hc]
 cases s
 ·exact h
 ·exact h
theorem wp_as {v : Value} (hx : a.eval x = v) (h : K (a.put dst v) w) : Oper.wp Tryz.prog ⟨dst, .assign x, ty, pos, af, gd⟩ a w K Q := wp_assign (by rw [hx]; exact h)
theorem wp_pickT {c : Operand} {v : Value} (hc : a.eval c = .bool true) (hx : a.eval x = v) (h : K (a.put dst v) w) : Oper.wp Tryz.prog ⟨dst, .pick c x y, ty, pos, af, gd⟩ a w K Q := wp_pick hc (by rw [cond_true, hx]; exact h)
theorem wp_pickF {c : Operand} {v : Value} (hc : a.eval c = .bool false) (hy : a.eval y = v) (h : K (a.put dst v) w) : Oper.wp Tryz.prog ⟨dst, .pick c x y, ty, pos, af, gd⟩ a w K Q := wp_pick hc (by rw [cond_false, hy]; exact h)
theorem wp_eqI (hx : a.eval x = .int .i64 p) (hy : a.eval y = .int .i64 q) {T : TypeId} (hT : T = 3 ∨ T = 28) (h : K (a.put dst (.bool (p == q))) w) {T' : TypeId} : Oper.wp Tryz.prog ⟨dst, .binOp .eql T x y T', ty, pos, af, gd⟩ a w K Q := by
 unfold Oper.wp execOp
 rcases hT with rfl | rfl
 ·simp only [hx, hy]
  go_simp
  exact h
 ·simp only [hx, hy]
  go_simp
  exact h
theorem wp_ltI (hx : a.eval x = .int .i64 p) (hy : a.eval y = .int .i64 q) (h : K (a.put dst (.bool (decide (p < q)))) w) {T' : TypeId} : Oper.wp Tryz.prog ⟨dst, .binOp .lss 3 x y T', ty, pos, af, gd⟩ a w K Q := by
 unfold Oper.wp execOp
 simp only [hx, hy]
 go_simp
 exact h
theorem wp_eqB (hx : a.eval x = .bool s) (hy : a.eval y = .bool t) (h : K (a.put dst (.bool (s == t))) w) {T' : TypeId} : Oper.wp Tryz.prog ⟨dst, .binOp .eql 4 x y T', ty, pos, af, gd⟩ a w K Q := by
 unfold Oper.wp execOp
 simp only [hx, hy]
 cases s <;> cases t <;> (go_simp; exact h)
theorem wp_neB (hx : a.eval x = .bool s) (hy : a.eval y = .bool t) (h : K (a.put dst (.bool (s != t))) w) {T' : TypeId} : Oper.wp Tryz.prog ⟨dst, .binOp .neq 4 x y T', ty, pos, af, gd⟩ a w K Q := by
 unfold Oper.wp execOp
 simp only [hx, hy]
 cases s <;> cases t <;> (go_simp; exact h)
theorem wp_eqS {k l : ByteArray} (hx : a.eval x = .string k) (hy : a.eval y = .string l) (h : K (a.put dst (.bool (k.toList == l.toList))) w) {T' : TypeId} : Oper.wp Tryz.prog ⟨dst, .binOp .eql 9 x y T', ty, pos, af, gd⟩ a w K Q := by
 unfold Oper.wp execOp
 simp only [hx, hy]
 go_simp
 exact h
theorem wp_field0 (hx : a.eval x = .pointer (some ⟨g, 0, none⟩)) (h : K (a.put dst (.pointer (some ⟨g, 0, none⟩))) w) : Oper.wp Tryz.prog ⟨dst, .fieldAddr 24 x 0, ty, pos, af, gd⟩ a w K Q := by
 unfold Oper.wp execOp
 simp only [hx]
 go_simp
 exact h
theorem wp_field1 (hx : a.eval x = .pointer (some ⟨g, 0, none⟩)) (h : K (a.put dst (.pointer (some ⟨g, 1, none⟩))) w) : Oper.wp Tryz.prog ⟨dst, .fieldAddr 24 x 1, ty, pos, af, gd⟩ a w K Q := by
 unfold Oper.wp execOp
 simp only [hx]
 go_simp
 exact h
theorem wp_loadB (hx : a.eval x = .pointer (some ⟨g, 0, none⟩)) (hb : Bz w g s A n c) (h : K (a.put dst (.bool s)) w) : Oper.wp Tryz.prog ⟨dst, .load 4 x, ty, pos, af, gd⟩ a w K Q := by
 have c0 := hb.c0
 unfold Oper.wp execOp
 simp only [hx]
 go_simp
 exact h
theorem wp_loadM (hx : a.eval x = .pointer (some ⟨g, 1, none⟩)) (hb : Bz w g s A n c) (h : K (a.put dst (.slice A n c)) w) : Oper.wp Tryz.prog ⟨dst, .load 22 x, ty, pos, af, gd⟩ a w K Q := by
 have c0 := hb.c1
 unfold Oper.wp execOp
 simp only [hx]
 go_simp
 exact h
/-- A call answers, and leaves what was there. -/
def Ans (w : World) (Post : World → Value → Prop) (e : Ending) (w' : World) : Prop := ∃ v, e = .returned v ∧ Below w.heap.size w w' ∧ Post w' v
theorem st_call {Rel : Value → World → World → Prop} {ops : Array Oper} {sp : Nat → Value → Value → World → Prop} {i : Nat} {f : FuncId} {xs : Array Operand} {args : Array Value} {tys : Array TypeId} {Post : World → Value → Prop} (hf : CallsF f) (ha : xs.map a.eval = args)
  (hna : isAlloc ops i = false) (hR : ∀ u w w', Below w.heap.size w w' → Rel u w w') (hc : Calls Tryz.prog f args w (Ans w Post)) (hsp : ∀ v u w', Post w' v → sp i v u w') : Oper.wp Tryz.prog ⟨dst, .call { callee := .value (.func f), args := xs, argTypes := tys }, ty, pos, af, gd⟩ a w (Done Rel ops sp i a dst w) Q := by
 refine wp_callf hf ha (hc.mono ?_)
 rintro e w' ⟨v, rfl, hb, hv⟩
 exact ⟨v, rfl, v, rfl, hR _ _ _ hb, hsp _ _ _ hv, fun e => by rw [hna] at e; cases e⟩
theorem args1 {v : Value} (hx : a.eval x = v) : (#[x] : Array Operand).map a.eval = #[v] := by simp [hx]
theorem args2 {v u : Value} (hx : a.eval x = v) (hy : a.eval y = u) : (#[x, y] : Array Operand).map a.eval = #[v, u] := by simp [hx, hy]
/-- A value, and the world as it was. -/
theorem done {Rel : Value → World → World → Prop} {ops : Array Oper} {sp : Nat → Value → Value → World → Prop} {i : Nat} {d : Option Tmp} {v : Value} (hna : isAlloc ops i = false) (hrf : ∀ u w, Rel u w w) (h : sp i v (auxV ops i a) w) : Done Rel ops sp i a d w (a.put d v) w := ⟨v, rfl, hrf _ w, h, fun e => by rw [hna] at e; cases e⟩
theorem done' {Rel : Value → World → World → Prop} {ops : Array Oper} {sp : Nat → Value → Value → World → Prop} {i : Nat} {d : Option Tmp} {v : Value} {w' : World} (hna : isAlloc ops i = false) (hR : Rel (auxV ops i a) w w') (h : sp i v (auxV ops i a) w') : Done Rel ops sp i a d w (a.put d v) w' := ⟨v, rfl, hR, h, fun e => by rw [hna] at e; cases e⟩
theorem doneA {Rel : Value → World → World → Prop} {ops : Array Oper} {sp : Nat → Value → Value → World → Prop} {i : Nat} {d : Option Tmp} {v : Value} {w' : World} (hR : Rel (auxV ops i a) w w') (h : sp i v (auxV ops i a) w') (hf : ∀ j vj u, isAlloc ops j = true → sp j vj u w → vj ≠ v) : Done Rel ops sp i a d w (a.put d v) w' := ⟨v, rfl, hR, h, fun _ => hf⟩
end

/-! ### Lists of what operations leave -/
def spOf (l : List (Value → Value → World → Prop)) (i : Nat) : Value → Value → World → Prop := l.getD i fun _ _ _ => True
def Stab (Rel : Value → World → World → Prop) (p : Value → Value → World → Prop) : Prop := ∀ v u u' w w', Rel u' w w' → (u' ≠ undef → u' ≠ u) → p v u w → p v u w'
def StabL (Rel : Value → World → World → Prop) : List (Value → Value → World → Prop) → Prop
 | [] => True
 | p :: l => Stab Rel p ∧ StabL Rel l
theorem stab_of {Rel : Value → World → World → Prop} : ∀ {l : List (Value → Value → World → Prop)}, StabL Rel l → ∀ i v u u' w w', Rel u' w w' → (u' ≠ undef → u' ≠ u) → spOf l i v u w → spOf l i v u w'
 | [], _, i, v, u, u', w, w', _, _, h => h
 | p :: l, hl, 0, v, u, u', w, w', hr, hn, h => hl.1 v u u' w w' hr hn h
 | p :: l, hl, i + 1, v, u, u', w, w', hr, hn, h => stab_of hl.2 i v u u' w w' hr hn h

def putFn : List Oper → (Nat → Value) → Nat → Act → Act
 | o :: os, f, i, a => putFn os f (i + 1) (a.put o.dst (f i))
 | [], _, _, a => a
theorem putFn_eq : ∀ (os : List Oper) (pre vs : List Value) (a : Act), vs.length = os.length → putFn os (fun i => (pre ++ vs).getD i undef) pre.length a = putAll os vs a
 | [], pre, vs, a, h => by cases vs <;> simp [putFn, putAll]
 | o :: os, pre, v :: vs, a, h => by
  have := putFn_eq os (pre ++ [v]) vs (a.put o.dst v) (by simpa using h)
  rw [putFn, putAll, ← this]
  simp
 | o :: os, pre, [], a, h => by simp at h

/-- Which operation made the variable that a store goes to. -/
def auxIdx (ops : Array Oper) (i : Nat) : Option Nat := (auxOf ops i).bind fun p => (List.range ops.size).find? fun j => dstOf ops j == some p
theorem wp_region_list {P : Program} {Q : Exit → Act → World → Prop} {Ext : World → World → Prop} {Rel : Value → World → World → Prop} {ops : Array Oper} (l : List (Value → Value → World → Prop)) {id n : Nat} {a0 : Act} {w0 : World} (hm : P.follows .mixedOrders = true) (hn : ops.size = n) (hA : dstsApart ops = true) (hI : dstsIn ops a0.tmps.size = true) (hE : edgesBack ops = true) (hX : auxKept ops = true) (hY : auxApart ops = true)
  (hrf : ∀ a, Ext a a) (htr : ∀ u a b c, Ext a b → Rel u b c → Ext a c) (hst : StabL Rel l)
  (hstep : allBelow n (RStep P Ext Rel ops Q (spOf l) a0 w0.drew))
  (hfin : ∀ (f : Nat → Value) w, Ext w0.drew w → (∀ i, i < n → ∃ u, spOf l i (f i) u w ∧ ∀ j, auxIdx ops i = some j → u = f j) → Q .normal (putFn ops.toList f 0 a0) w) : (Code.region id ops true).wp P Q a0 w0 := by
 subst hn
 refine wp_region_spec hm hA hI hE hrf htr hX hY (stab_of hst) hstep fun vs w hl hR hv => ?_
 have e := putFn_eq ops.toList [] vs a0 (by simpa using hl)
 simp only [List.nil_append, List.length_nil] at e
 have := hfin (fun i => vs.getD i undef) w hR fun i hi => by
  have hvi : vs[i]? = some (vs[i]'(by omega)) := List.getElem?_eq_getElem _
  have h1 := hv i _ hvi
  refine ⟨auxV ops i (putAll ops.toList vs a0), ?_, fun j hj => ?_⟩
  ·simp only [List.getD_eq_getElem?_getD, hvi, Option.getD_some]
   exact h1.2
  ·unfold auxIdx at hj
   cases ha : auxOf ops i with
   | none => rw [ha] at hj; cases hj
   | some p =>
    rw [ha] at hj
    have hj' := List.find?_some hj
    have hjm := List.mem_of_find?_eq_some hj
    have hjl := List.mem_range.1 hjm
    have hd : dstOf ops j = some p := by simpa using hj'
    have hvj : vs[j]? = some (vs[j]'(by omega)) := List.getElem?_eq_getElem _
    have h2 := (hv j _ hvj).1 p hd
    unfold auxV
    rw [ha]
    simp only [Array.getD_eq_getD_getElem?, h2, List.getD_eq_getElem?_getD, hvj, Option.getD_some]
 rw [e] at this
 exact this
theorem hvc {l : List (Value → Value → World → Prop)} {f : Nat → Value} {w : World} {ops : Array Oper} {i : Nat} (h : ∃ u, spOf l i (f i) u w ∧ ∀ j, auxIdx ops i = some j → u = f j) : ∃ u, spOf l i (f i) u w := by
 obtain ⟨u, h, _⟩ := h
 exact ⟨u, h⟩
theorem hvs {l : List (Value → Value → World → Prop)} {f : Nat → Value} {w : World} {ops : Array Oper} {i j : Nat} (h : ∃ u, spOf l i (f i) u w ∧ ∀ j, auxIdx ops i = some j → u = f j) (hj : auxIdx ops i = some j) : spOf l i (f i) (f j) w := by
 obtain ⟨u, h, hu⟩ := h
 rw [← hu j hj]
 exact h
theorem aux_eq {ops : Array Oper} {i p : Nat} {a : Act} {v : Value} (haux : auxOf ops i = some p) (E : a.eval (.tmp p) = v) : auxV ops i a = v := by
 unfold auxV
 rw [haux]
 exact E

end Go.Proofs.YtbhgbilhoonopaaGreat
namespace Go.Proofs.YtbhgbilhoonopaaGreat
open Go.RowKit
set_option linter.unusedVariables false

section
variable {P : Program} {ops pre : Array Oper} {Q : Exit → Act → World → Prop}

/-- Operation i waits for j, by others too. -/
def reachB (ops : Array Oper) : Nat → Nat → Nat → Bool
 | 0, i, j => needs ops i j
 | f + 1, i, j => needs ops i j || (List.range i).any fun m => needs ops i m && reachB ops f m j
theorem reach_listed {C : Nat → Prop} (hcl : ∀ a b, C a → needs ops a b = true → C b) : ∀ (f i j : Nat), (∀ b, needs ops i b = true → C b) → reachB ops f i j = true → C j
 | 0, i, j, hi, h => hi j h
 | f + 1, i, j, hi, h => by
  rw [reachB, Bool.or_eq_true, List.any_eq_true] at h
  rcases h with h | ⟨m, _, h⟩
  ·exact hi j h
  ·rw [Bool.and_eq_true] at h
   exact reach_listed hcl f m j (fun b hb => hcl m b (hi m h.1) hb) h.2
/-- From m on, each operation waits for all ahead of it. -/
def tailWaits (ops : Array Oper) (m : Nat) : Bool := (List.range ops.size).all fun i => decide (i < m) || (List.range i).all fun j => reachB ops 8 i j
theorem tailWaits_needs {m : Nat} (h : tailWaits ops m = true) {i j : Nat} (hi : i < ops.size) (hm : m ≤ i) (hj : j < i) : reachB ops 8 i j = true := by
 unfold tailWaits at h
 rw [List.all_eq_true] at h
 have h1 := h i (List.mem_range.2 hi)
 rw [Bool.or_eq_true, decide_eq_true_eq, List.all_eq_true] at h1
 rcases h1 with h1 | h1
 ·omega
 ·exact h1 j (List.mem_range.2 hj)
theorem needs_lt (hE : edgesBack ops = true) {i j : Nat} (h : needs ops i j = true) : j < i := by
 unfold needs at h
 cases ho : ops[i]? with
 | none => rw [ho] at h; cases h
 | some o =>
  rw [ho] at h
  simp only [Option.any_some, Array.any_eq_true'] at h
  obtain ⟨e, he, hje⟩ := h
  rw [Bool.and_eq_true, beq_iff_eq] at hje
  have := edgesBack_lt hE ho he hje.1
  omega
/-- Guards look at operations of their own region. -/
def guardsIn (ops : Array Oper) : Bool := (List.range ops.size).all fun i => (ops[i]?).all fun o => match o.guard with | some (g, _) => decide (g < ops.size) | none => true
theorem guardsIn_lt (h : guardsIn ops = true) {i g : Nat} {b : Bool} {o : Oper} (ho : ops[i]? = some o) (hg : o.guard = some (g, b)) : g < ops.size := by
 unfold guardsIn at h
 rw [List.all_eq_true] at h
 have h1 := h i (List.mem_range.2 (Array.getElem?_eq_some_iff.1 ho).1)
 rw [ho] at h1
 simp only [Option.all_some, hg, decide_eq_true_eq] at h1
 exact h1

/-- Just the first k came up. -/
structure Upto (ops : Array Oper) (listed : Array Bool) (k : Nat) : Prop where
 size : listed.size = ops.size
 at_ : ∀ i, i < ops.size → listed.getD i false = decide (i < k)
theorem getD_any {listed : Array Bool} {i : Nat} (h : i < listed.size) (b : Bool) : listed.getD i b = listed.getD i false := by simp [h]
theorem Upto.ready {listed : Array Bool} {k m i : Nat} (h : Upto ops listed k) (hE : edgesBack ops = true) (hT : tailWaits ops m = true) (hm : m ≤ k) (hi : i ∈ Region.ready .any ops listed) : i = k := by
 obtain ⟨hun, o, ho, hall⟩ := mem_ready.1 hi
 have hil := (Array.getElem?_eq_some_iff.1 ho).1
 rw [getD_any (by rw [h.size]; exact hil) true, h.at_ i hil, decide_eq_false_iff_not] at hun
 rcases Nat.lt_or_ge k i with hk | hk
 ·have hn := tailWaits_needs hT hil (by omega) hk
  have : k < k := by
   refine reach_listed (C := fun j => j < k) (fun a b ha hb => ?_) 8 i k (fun b hb => ?_) hn
   ·have := needs_lt hE hb
    omega
   ·have h1 := ready_needs hi hb
    have h2 := needs_lt hE hb
    rw [h.at_ b (by omega), decide_eq_true_eq] at h1
    exact h1
  omega
 ·omega
theorem Upto.step {listed : Array Bool} {k : Nat} (h : Upto ops listed k) (hk : k < ops.size) : Upto ops (listed.setIfInBounds k true) (k + 1) := by
 refine ⟨by rw [Array.size_setIfInBounds]; exact h.size, fun i hi => ?_⟩
 by_cases e : k = i
 ·subst e
  have : k < listed.size := by rw [h.size]; exact hk
  simp [this]
 ·rw [getD_set_ne false e, h.at_ i hi, decide_eq_decide]
  omega

theorem tail_seq {m : Nat} (hT : tailWaits ops m = true) (hE : edgesBack ops = true) : ∀ (r k fuel : Nat) (listed : Array Bool) (a : Act) (w : World), k + r = ops.size → m ≤ k → r ≤ fuel → Upto ops listed k → wpList P ops Q (ops.toList.drop k) a w → wpAny P .any ops Q fuel listed a w := by
 intro r
 induction r with
 | zero =>
  intro k fuel listed a w hk hm hf hu h
  rw [List.drop_of_length_le (by simp; omega)] at h
  have hr : Region.ready .any ops listed = [] := by
   apply List.eq_nil_iff_forall_not_mem.2
   intro i hi
   have := hu.ready hE hT hm hi
   obtain ⟨_, o, ho, _⟩ := mem_ready.1 hi
   have hil := (Array.getElem?_eq_some_iff.1 ho).1
   omega
  cases fuel with
  | zero => exact ⟨hr, h⟩
  | succ f => exact ⟨fun _ => h, fun i hi => by rw [hr] at hi; cases hi⟩
 | succ r ih =>
  intro k fuel listed a w hk hm hf hu h
  obtain ⟨f, rfl⟩ : ∃ f, fuel = f + 1 := ⟨fuel - 1, by omega⟩
  have hkl : k < ops.size := by omega
  have hk0 : ops[k]? = some ops[k] := Array.getElem?_eq_getElem hkl
  rw [List.drop_eq_getElem_cons (by simpa using hkl)] at h
  refine ⟨fun hr => ?_, fun i hi => ?_⟩
  ·exfalso
   have : k ∈ Region.ready .any ops listed := by
    refine mem_ready.2 ⟨?_, ops[k], hk0, fun e he hb => ?_⟩
    ·rw [getD_any (by rw [hu.size]; exact hkl) true, hu.at_ k hkl, decide_eq_false_iff_not]
     omega
    ·have := edgesBack_lt hE hk0 he hb
     rw [hu.at_ e.on (by omega), decide_eq_true_eq]
     exact this
   rw [hr] at this
   cases this
  ·obtain rfl := hu.ready hE hT hm hi
   have h1 : wpOp P ops Q i (wpList P ops Q (ops.toList.drop (i + 1))) a w := by
    unfold wpOp
    rw [hk0]
    exact h
   exact wpOp_mono (fun a' w' h' => ih (i + 1) f _ a' w' (by omega) (by omega) (by omega) (hu.step hkl) h') h1

theorem wpOp_pre {i : Nat} {K : Act → World → Prop} {a : Act} {w : World} (hp : ∀ j, j < pre.size → ops[j]? = pre[j]?) (hG : guardsIn pre = true) (hi : i < pre.size) (h : wpOp P pre Q i K a w) : wpOp P ops Q i K a w := by
 unfold wpOp at h ⊢
 rw [hp i hi]
 cases ho : pre[i]? with
 | none => rw [ho] at h; exact h
 | some o =>
  rw [ho] at h
  have hw : Region.wanted o (yielded ops a.tmps) = Region.wanted o (yielded pre a.tmps) := by
   unfold Region.wanted
   cases hg : o.guard with
   | none => rfl
   | some gb =>
    obtain ⟨g, b⟩ := gb
    have := guardsIn_lt hG ho hg
    simp only [yielded, hp g this]
  simp only [hw]
  exact h

/-- What came up of the first ones, seen in all. -/
structure Lift (ops pre : Array Oper) (listed listed' : Array Bool) : Prop where
 size : listed.size = pre.size
 size' : listed'.size = ops.size
 low : ∀ i, i < pre.size → listed'.getD i false = listed.getD i false
 high : ∀ i, pre.size ≤ i → listed'.getD i false = false
theorem Lift.set {listed listed' : Array Bool} {i : Nat} (h : Lift ops pre listed listed') (hs : pre.size ≤ ops.size) (hi : i < pre.size) : Lift ops pre (listed.setIfInBounds i true) (listed'.setIfInBounds i true) := by
 refine ⟨by rw [Array.size_setIfInBounds]; exact h.size, by rw [Array.size_setIfInBounds]; exact h.size', fun j hj => ?_, fun j hj => ?_⟩
 ·by_cases e : i = j
  ·subst e
   have h1 : i < listed.size := by rw [h.size]; exact hi
   have h2 : i < listed'.size := by rw [h.size']; omega
   simp [h1, h2]
  ·rw [getD_set_ne false e, getD_set_ne false e]
   exact h.low j hj
 ·rw [getD_set_ne false (by omega)]
  exact h.high j hj

theorem wpAny_cut {Ext : World → World → Prop} {Rel : Value → World → World → Prop} {sp : Nat → Value → Value → World → Prop} {a0 : Act} {W0 : World} (hp : ∀ j, j < pre.size → ops[j]? = pre[j]?) (hs : pre.size ≤ ops.size) (hT : tailWaits ops pre.size = true) (hG : guardsIn pre = true) (hE' : edgesBack ops = true)
  (hA : dstsApart pre = true) (hI : dstsIn pre a0.tmps.size = true) (hE : edgesBack pre = true)
  (htr : ∀ u a b c, Ext a b → Rel u b c → Ext a c) (hX : auxKept pre = true) (hY : auxApart pre = true) (hst : ∀ i v u u' w w', Rel u' w w' → (u' ≠ undef → u' ≠ u) → sp i v u w → sp i v u w')
  (hstep : ∀ i, i < pre.size → RStep P Ext Rel pre Q sp a0 W0 i)
  (hfin : ∀ vs w, vs.length = pre.size → Ext W0 w → (∀ i v, vs[i]? = some v → (∀ d, dstOf pre i = some d → (putAll pre.toList vs a0).tmps[d]? = some v) ∧ sp i v (auxV pre i (putAll pre.toList vs a0)) w) → (∀ i j di dj, i ≠ j → i < pre.size → j < pre.size → isAlloc pre i = true → isAlloc pre j = true → dstOf pre i = some di → dstOf pre j = some dj → (putAll pre.toList vs a0).tmps[di]? ≠ (putAll pre.toList vs a0).tmps[dj]?) → wpList P ops Q (ops.toList.drop pre.size) (putAll pre.toList vs a0) w) :
  ∀ (fuel : Nat) (listed listed' : Array Bool) (a : Act) (w : World), listed.toList.count false ≤ fuel → Lift ops pre listed listed' → RInv Ext Rel pre sp a0 W0 listed a w → wpAny P .any ops Q (fuel + (ops.size - pre.size)) listed' a w := by
 have fin : ∀ (fuel : Nat) (listed listed' : Array Bool) (a : Act) (w : World), Lift ops pre listed listed' → RInv Ext Rel pre sp a0 W0 listed a w → Region.ready .any pre listed = [] → wpAny P .any ops Q (fuel + (ops.size - pre.size)) listed' a w := by
  intro fuel listed listed' a w hL h hr
  have hall := ready_all h.lsz hE hr
  obtain ⟨vs, hl, rfl, hv⟩ := h.fin hA hI hE hr
  refine tail_seq hT hE' (ops.size - pre.size) pre.size _ listed' _ w (by omega) (Nat.le_refl _) (by omega) ⟨hL.size', fun i hi => ?_⟩ (hfin vs w hl h.ext hv fun i j di dj hij hi hj hai haj hdi hdj => h.apart i j di dj hij (hall i hi) (hall j hj) hai haj hdi hdj)
  rcases Nat.lt_or_ge i pre.size with h1 | h1
  ·rw [hL.low i h1, hall i h1, decide_eq_true h1]
  ·rw [hL.high i h1, decide_eq_false (by omega)]
 intro fuel
 induction fuel with
 | zero =>
  intro listed listed' a w hc hL h
  have hr : Region.ready .any pre listed = [] := by
   apply List.eq_nil_iff_forall_not_mem.2
   intro i hi
   obtain ⟨hun, o, ho, _⟩ := mem_ready.1 hi
   have hil : i < listed.size := by rw [h.lsz]; exact (Array.getElem?_eq_some_iff.1 ho).1
   simp [hil] at hun
   have : false ∈ listed.toList := by rw [← hun]; simp
   have := List.count_pos_iff.2 this
   omega
  exact fin 0 listed listed' a w hL h hr
 | succ fuel ih =>
  intro listed listed' a w hc hL h
  by_cases hr : Region.ready .any pre listed = []
  ·exact fin (fuel + 1) listed listed' a w hL h hr
  ·have same : ∀ i, i ∈ Region.ready .any ops listed' → i ∈ Region.ready .any pre listed := by
    intro i hi
    have hi0 := hi
    obtain ⟨hun, o, ho, hall⟩ := mem_ready.1 hi
    have hil := (Array.getElem?_eq_some_iff.1 ho).1
    rcases Nat.lt_or_ge i pre.size with h1 | h1
    ·refine mem_ready.2 ⟨?_, o, by rw [← hp i h1]; exact ho, fun e he hb => ?_⟩
     ·rw [getD_any (by rw [hL.size]; exact h1) true, ← hL.low i h1]
      rw [getD_any (by rw [hL.size']; exact hil) true] at hun
      exact hun
     ·have hlt := edgesBack_lt hE' ho he hb
      rw [← hL.low e.on (by omega)]
      exact hall e he hb
    ·exfalso
     apply hr
     apply List.eq_nil_iff_forall_not_mem.2
     intro j hj
     obtain ⟨hunj, oj, hoj, _⟩ := mem_ready.1 hj
     have hjl := (Array.getElem?_eq_some_iff.1 hoj).1
     have : listed.getD j false = true := by
      refine (reach_listed (ops := ops) (C := fun j => j < pre.size ∧ listed.getD j false = true) (fun a b ha hb => ?_) 8 i j (fun b hb => ?_) (tailWaits_needs hT hil h1 (show j < i by omega))).2
      ·have h2 := needs_lt hE' hb
       refine ⟨by omega, ?_⟩
       have h3 : needs pre a b = true := by
        unfold needs at hb ⊢
        rw [← hp a ha.1]
        exact hb
       exact needs_listed h ha.2 h3
      ·have h2 := ready_needs hi0 hb
       rcases Nat.lt_or_ge b pre.size with h3 | h3
       ·exact ⟨h3, by rw [← hL.low b h3]; exact h2⟩
       ·rw [hL.high b h3] at h2
        cases h2
     rw [getD_any (by rw [hL.size]; exact hjl) true, this] at hunj
     cases hunj
   have back : ∀ i, i ∈ Region.ready .any pre listed → i ∈ Region.ready .any ops listed' := by
    intro i hi
    obtain ⟨hun, o, ho, hall⟩ := mem_ready.1 hi
    have hil := (Array.getElem?_eq_some_iff.1 ho).1
    refine mem_ready.2 ⟨?_, o, by rw [hp i hil]; exact ho, fun e he hb => ?_⟩
    ·rw [getD_any (by rw [hL.size']; omega) true, hL.low i hil]
     rw [getD_any (by rw [hL.size]; exact hil) true] at hun
     exact hun
    ·have hlt := edgesBack_lt hE ho he hb
     rw [hL.low e.on (by omega)]
     exact hall e he hb
   rw [show fuel + 1 + (ops.size - pre.size) = (fuel + (ops.size - pre.size)) + 1 by omega]
   refine ⟨fun h0 => absurd (List.eq_nil_iff_forall_not_mem.2 fun i hi => by have := back i hi; rw [h0] at this; cases this) hr, fun i hi0 => ?_⟩
   have hi := same i hi0
   obtain ⟨hun, o, ho, _⟩ := mem_ready.1 hi
   have hil : i < pre.size := (Array.getElem?_eq_some_iff.1 ho).1
   refine wpOp_pre hp hG hil (wpOp_mono (fun a' w' hl => ih _ _ a' w' ?_ (hL.set hs hil) (h.step hA hI hE htr hX hY hst hi hl)) (hstep i hil a w (h.sees hi)))
   have hil' : i < listed.size := by rw [h.lsz]; exact hil
   have hl : listed.toList[i]? = some false := by
    rw [Array.getElem?_toList, Array.getElem?_eq_getElem hil']
    simp [hil'] at hun
    rw [hun]
   have := count_set_true listed.toList i hl
   rw [Array.toList_setIfInBounds]
   omega

/-- The region, cut: what stands ahead, what stands behind. -/
def CutWp (P : Program) (ops : Array Oper) (Q : Exit → Act → World → Prop) (front tail : List Oper) (a : Act) (w : World) : Prop := ops.toList = front ++ tail → wpAny P .any ops Q ops.size (Array.replicate ops.size false) a w.drew
theorem wp_cut {id : Nat} {a : Act} {w : World} (hm : P.follows .mixedOrders = true) (m : Nat) (h : CutWp P ops Q (ops.toList.take m) (ops.toList.drop m) a w) : (Code.region id ops true).wp P Q a w :=
 wp_region_any hm (h (List.take_append_drop m _).symm)

theorem wp_cut_list {Ext : World → World → Prop} {Rel : Value → World → World → Prop} {front tail : List Oper} (l : List (Value → Value → World → Prop)) {n : Nat} {a0 : Act} {w0 : World} (hn : front.length = n) (hT : tailWaits ops n = true) (hE' : edgesBack ops = true) (hG : guardsIn front.toArray = true) (hA : dstsApart front.toArray = true) (hI : dstsIn front.toArray a0.tmps.size = true) (hE : edgesBack front.toArray = true) (hX : auxKept front.toArray = true) (hY : auxApart front.toArray = true)
  (hrf : ∀ a, Ext a a) (htr : ∀ u a b c, Ext a b → Rel u b c → Ext a c) (hst : StabL Rel l)
  (hstep : allBelow n (RStep P Ext Rel front.toArray Q (spOf l) a0 w0.drew))
  (hfin : ∀ (f : Nat → Value) w, Ext w0.drew w → (∀ i, i < n → ∃ u, spOf l i (f i) u w ∧ ∀ j, auxIdx front.toArray i = some j → u = f j) → (∀ i j di dj, i ≠ j → i < n → j < n → isAlloc front.toArray i = true → isAlloc front.toArray j = true → dstOf front.toArray i = some di → dstOf front.toArray j = some dj → f i ≠ f j) → wpList P ops Q tail (putFn front f 0 a0) w) : CutWp P ops Q front tail a0 w0 := by
 intro hops
 subst hn
 have hsz : front.toArray.size = front.length := by simp
 have hos : ops.size = front.length + tail.length := by rw [← Array.length_toList, hops, List.length_append]
 have hdrop : ops.toList.drop front.toArray.size = tail := by rw [hops, hsz, List.drop_left]
 have hp : ∀ j, j < front.toArray.size → ops[j]? = front.toArray[j]? := by
  intro j hj
  rw [← Array.getElem?_toList, hops, List.getElem?_append_left (by simpa using hj)]
  simp
 have main := wpAny_cut (P := P) (Q := Q) (ops := ops) (pre := front.toArray) (sp := spOf l) (a0 := a0) (W0 := w0.drew) hp (by rw [hsz, hos]; omega) (by rw [hsz]; exact hT) hG hE' hA hI hE htr hX hY (stab_of hst) (fun i hi => allBelow_lt hstep i (by simpa using hi)) (by
  intro vs w hl hR hv hap
  rw [hdrop]
  have e := putFn_eq front [] vs a0 (by simpa using hl)
  simp only [List.nil_append, List.length_nil] at e
  have := hfin (fun i => vs.getD i undef) w hR (fun i hi => by
   have hvi : vs[i]? = some (vs[i]'(by rw [hl, hsz]; exact hi)) := List.getElem?_eq_getElem _
   have h1 := hv i _ hvi
   refine ⟨auxV front.toArray i (putAll front vs a0), ?_, fun j hj => ?_⟩
   ·simp only [List.getD_eq_getElem?_getD, hvi, Option.getD_some]
    exact h1.2
   ·unfold auxIdx at hj
    cases ha : auxOf front.toArray i with
    | none => rw [ha] at hj; cases hj
    | some p =>
     rw [ha] at hj
     have hj' := List.find?_some hj
     have hjm := List.mem_of_find?_eq_some hj
     have hjl := List.mem_range.1 hjm
     have hd : dstOf front.toArray j = some p := by simpa using hj'
     have hvj : vs[j]? = some (vs[j]'(by rw [hl]; exact hjl)) := List.getElem?_eq_getElem _
     have h2 := (hv j _ hvj).1 p hd
     unfold auxV
     rw [ha]
     simp only [Array.getD_eq_getD_getElem?, List.getD_eq_getElem?_getD, hvj, Option.getD_some]
     have h3 : (putAll front vs a0).tmps[p]? = some (vs[j]'(by rw [hl]; exact hjl)) := h2
     rw [h3]
     rfl) (fun i j di dj hij hi hj hai haj hdi hdj hf => by
   have hvi : vs[i]? = some (vs[i]'(by rw [hl, hsz]; exact hi)) := List.getElem?_eq_getElem _
   have hvj : vs[j]? = some (vs[j]'(by rw [hl, hsz]; exact hj)) := List.getElem?_eq_getElem _
   refine hap i j di dj hij (by rw [hsz]; exact hi) (by rw [hsz]; exact hj) hai haj hdi hdj ?_
   rw [(hv i _ hvi).1 di hdi, (hv j _ hvj).1 dj hdj]
   simp only [List.getD_eq_getElem?_getD, hvi, hvj, Option.getD_some] at hf
   rw [hf])
  rw [e] at this
  exact this)
 have h0 := main front.length (Array.replicate front.length false) (Array.replicate ops.size false) a0 w0.drew (by simp) ⟨by simp, by simp, fun i hi => ?_, fun i hi => ?_⟩ ⟨hrf _, rfl, rfl, by simp, ?_, fun _ _ => rfl, ?_, ?_⟩
 ·rw [hsz, show front.length + (ops.size - front.length) = ops.size by omega] at h0
  exact h0
 ·have h1 : i < front.length := by simpa using hi
  have h2 : i < ops.size := by omega
  simp [h1, h2]
 ·rcases Nat.lt_or_ge i ops.size with h2 | h2
  ·simp [h2]
  ·simp [h2]
 ·intro j o _ h
  exact absurd h (no_one _ _)
 ·intro i h
  exact absurd h (no_one _ _)
 ·intro i j di dj _ h
  exact absurd h (no_one _ _)
end
end Go.Proofs.YtbhgbilhoonopaaGreat
namespace Go.Proofs.YtbhgbilhoonopaaGreat
open Go.RowKit
set_option linter.unusedVariables false
set_option maxRecDepth 100000

/-- A number in a row. -/
structure ZE where
 b : Bool
 A : Option Addr
 n : Nat
 c : Nat
 z : Int
section
variable {w w' : World} {s t : Bool} {A B : Option Addr} {n c m d x y k j g o K : Nat} {z u : Int} {ls : List ZE}
theorem Zt.monoK {base : Nat} (h : Zt w base s A n c z k) (hk : k ≤ j) : Zt w base s A n c z j := ⟨h.own, Nat.le_trans h.le hk, h.neg⟩
end

section
variable {w : World} {b0 s t : Bool} {A0 A B : Option Addr} {n0 c0 n c m d k j g o : Nat} {z0 z u : Int} {ls : List ZE}
set_option maxHeartbeats 1000000

theorem fold_plus2 (h : Zm w s A n c z k) (h' : Zm w t B m d u j) (hk : k ≤ 1000) (hj : j ≤ 1000) (h0 : w.cell? ⟨g, o, none⟩ = some (.bool s)) (h1 : w.cell? ⟨g, o + 1, none⟩ = some (.slice A n c)) (h2 : w.cell? ⟨g, o + 2, none⟩ = some (.bool t)) (h3 : w.cell? ⟨g, o + 3, none⟩ = some (.slice B m d)) (q : Nat) :
  Calls Tryz.prog 108 #[.slice (some ⟨g, o, none⟩) 2 q, .agg #[.bool b0, .slice A0 n0 c0], .func (Fn.func 138) #[] #[]] w (GivZ w (z + u) (max k j + 1)) := by
 have X := ((h.alloc (.cells #[.bool b0, .slice A0 n0 c0] 24)).alloc (.cells #[.bool false, .slice none 0 0] 24)).below (Below.drew (Below.refl _ _))
 have Y := ((h'.alloc (.cells #[.bool b0, .slice A0 n0 c0] 24)).alloc (.cells #[.bool false, .slice none 0 0] 24)).below (Below.drew (Below.refl _ _))
 have hg := World.block_lt_of_cell? w _ h0
 have PN := ((Bz.new w b0 A0 n0 c0).alloc (.cells #[.bool false, .slice none 0 0] 24)).drew
 have PR := (Bz.new2 w (.cells #[.bool b0, .slice A0 n0 c0] 24) false none 0 0).drew
 have BB := Below.drew (bl_trans (bl_alloc w (.cells #[.bool b0, .slice A0 n0 c0] 24)) (bl_alloc _ (.cells #[.bool false, .slice none 0 0] 24)))
 have E0 := (BB.cell (p := ⟨g, o, none⟩) hg).trans h0
 have E1 := (BB.cell (p := ⟨g, o + 1, none⟩) hg).trans h1
 have E2 := (BB.cell (p := ⟨g, o + 2, none⟩) hg).trans h2
 have E3 := (BB.cell (p := ⟨g, o + 3, none⟩) hg).trans h3
 clear h0 h1 h2 h3
 go_enter Tryz.func108, Tryz.ntmps108
 go_wp2_with fail
 go_region_held3 (fun w' => w'.cell? ⟨g, o, none⟩ = some (.bool s) ∧ w'.cell? ⟨g, o + 1, none⟩ = some (.slice A n c) ∧ w'.cell? ⟨g, o + 2, none⟩ = some (.bool t) ∧ w'.cell? ⟨g, o + 3, none⟩ = some (.slice B m d))
  (first | exact ⟨(cell_st2 (by omega)).trans E0, (cell_st2 (by omega)).trans E1, (cell_st2 (by omega)).trans E2, (cell_st2 (by omega)).trans E3⟩ | exact ⟨E0, E1, E2, E3⟩)
  (first
   | (go_at_call 138; refine (plusZ X Y hk hj).mono ?_; rintro e w1 ⟨b1, A1, n1, c1, rfl, Z, hb1⟩; replace E0 := (hb1.cell (World.block_lt_of_cell? _ _ E0)).trans E0; replace E1 := (hb1.cell (World.block_lt_of_cell? _ _ E1)).trans E1; replace E2 := (hb1.cell (World.block_lt_of_cell? _ _ E2)).trans E2; replace E3 := (hb1.cell (World.block_lt_of_cell? _ _ E3)).trans E3; replace PR := PR.below hb1; replace BB := bl_trans BB hb1; have r0 := PR.c0; have r1 := PR.c1; have f0 := PR.f 0; have f1 := PR.f 1; clear hb1))
 go_wp2_with fail
 exact bodyPost_ret (v := .agg #[.bool b1, .slice A1 n1 c1]) (by simp [results, Tryz.results108, go_sem, *]) rfl ⟨_, _, _, _, rfl, fin_z Z BB (by omega) (by simp) _ _⟩

theorem fold_times2 (h : Zm w s A n c z k) (h' : Zm w t B m d u j) (hk : k ≤ 1000) (hj : j ≤ 1000) (hm : min k j < 40) (h0 : w.cell? ⟨g, o, none⟩ = some (.bool s)) (h1 : w.cell? ⟨g, o + 1, none⟩ = some (.slice A n c)) (h2 : w.cell? ⟨g, o + 2, none⟩ = some (.bool t)) (h3 : w.cell? ⟨g, o + 3, none⟩ = some (.slice B m d)) (q : Nat) :
  Calls Tryz.prog 108 #[.slice (some ⟨g, o, none⟩) 2 q, .agg #[.bool b0, .slice A0 n0 c0], .func (Fn.func 109) #[] #[]] w (GivZ w (z * u) (k + j)) := by
 have X := ((h.alloc (.cells #[.bool b0, .slice A0 n0 c0] 24)).alloc (.cells #[.bool false, .slice none 0 0] 24)).below (Below.drew (Below.refl _ _))
 have Y := ((h'.alloc (.cells #[.bool b0, .slice A0 n0 c0] 24)).alloc (.cells #[.bool false, .slice none 0 0] 24)).below (Below.drew (Below.refl _ _))
 have hg := World.block_lt_of_cell? w _ h0
 have PN := ((Bz.new w b0 A0 n0 c0).alloc (.cells #[.bool false, .slice none 0 0] 24)).drew
 have PR := (Bz.new2 w (.cells #[.bool b0, .slice A0 n0 c0] 24) false none 0 0).drew
 have BB := Below.drew (bl_trans (bl_alloc w (.cells #[.bool b0, .slice A0 n0 c0] 24)) (bl_alloc _ (.cells #[.bool false, .slice none 0 0] 24)))
 have E0 := (BB.cell (p := ⟨g, o, none⟩) hg).trans h0
 have E1 := (BB.cell (p := ⟨g, o + 1, none⟩) hg).trans h1
 have E2 := (BB.cell (p := ⟨g, o + 2, none⟩) hg).trans h2
 have E3 := (BB.cell (p := ⟨g, o + 3, none⟩) hg).trans h3
 clear h0 h1 h2 h3
 go_enter Tryz.func108, Tryz.ntmps108
 go_wp2_with fail
 go_region_held3 (fun w' => w'.cell? ⟨g, o, none⟩ = some (.bool s) ∧ w'.cell? ⟨g, o + 1, none⟩ = some (.slice A n c) ∧ w'.cell? ⟨g, o + 2, none⟩ = some (.bool t) ∧ w'.cell? ⟨g, o + 3, none⟩ = some (.slice B m d))
  (first | exact ⟨(cell_st2 (by omega)).trans E0, (cell_st2 (by omega)).trans E1, (cell_st2 (by omega)).trans E2, (cell_st2 (by omega)).trans E3⟩ | exact ⟨E0, E1, E2, E3⟩)
  (first
   | (go_at_call 109; refine (timesZ X Y hk hj hm).mono ?_; rintro e w1 ⟨b1, A1, n1, c1, rfl, Z, hb1⟩; replace E0 := (hb1.cell (World.block_lt_of_cell? _ _ E0)).trans E0; replace E1 := (hb1.cell (World.block_lt_of_cell? _ _ E1)).trans E1; replace E2 := (hb1.cell (World.block_lt_of_cell? _ _ E2)).trans E2; replace E3 := (hb1.cell (World.block_lt_of_cell? _ _ E3)).trans E3; replace PR := PR.below hb1; replace BB := bl_trans BB hb1; have r0 := PR.c0; have r1 := PR.c1; have f0 := PR.f 0; have f1 := PR.f 1; clear hb1))
 go_wp2_with fail
 exact bodyPost_ret (v := .agg #[.bool b1, .slice A1 n1 c1]) (by simp [results, Tryz.results108, go_sem, *]) rfl ⟨_, _, _, _, rfl, fin_z Z BB (by omega) (by simp) _ _⟩
end

end Go.Proofs.YtbhgbilhoonopaaGreat
namespace Go.Proofs.YtbhgbilhoonopaaGreat
open Go.RowKit
set_option linter.unusedVariables false
set_option maxRecDepth 100000

section
variable {w w' : World} {s t : Bool} {A B : Option Addr} {n c m d k j g o : Nat} {z u : Int} {base : Nat}
set_option maxHeartbeats 1000000

/-- What Add does with what fold answers. -/
theorem add_of_fold {v : Value} (h : Calls Tryz.prog 108 #[v, .agg #[.bool false, .slice none 0 0], .func (Fn.func 138) #[] #[]] (w.alloc (.cells #[.bool false, .slice none 0 0] 24)) (GivZ (w.alloc (.cells #[.bool false, .slice none 0 0] 24)) z k)) : Calls Tryz.prog 105 #[v] w (GivZ w z k) := by
 have H := Lib.hid h
 clear h
 go_enter Tryz.func105, Tryz.ntmps105
 go_wp2_with fail
 refine H.out.mono ?_
 rintro e w1 ⟨b1, A1, n1, c1, rfl, Z, hb1⟩
 have PR := (Bz.new w false none 0 0).below hb1
 have BB := bl_trans (bl_alloc w _) hb1
 have r0 := PR.c0
 have r1 := PR.c1
 have f0 := PR.f 0
 have f1 := PR.f 1
 clear hb1 H
 go_wp2_with fail
 exact bodyPost_ret (v := .agg #[.bool b1, .slice A1 n1 c1]) (by simp [results, Tryz.results105, go_sem, *]) rfl ⟨_, _, _, _, rfl, fin_z Z BB (by omega) (by simp) _ _⟩

/-- What Mul does with what fold answers. -/
theorem mul_of_fold {v : Value} (h : ∀ W b0 A0 n0 c0, Below w.heap.size w W → w.heap.size + 1 ≤ W.heap.size → Zt W (w.heap.size + 1) b0 A0 n0 c0 1 2 → Calls Tryz.prog 108 #[v, .agg #[.bool b0, .slice A0 n0 c0], .func (Fn.func 109) #[] #[]] W fun e w' => ∃ b A n c, e = .returned (.agg #[.bool b, .slice A n c]) ∧ Zt w' (w.heap.size + 1) b A n c z k ∧ Below W.heap.size W w') : Calls Tryz.prog 67 #[v] w (GivZ w z k) := by
 have H := Lib.hid h
 clear h
 go_enter Tryz.func67, Tryz.ntmps67
 go_wp2_with fail
 refine (fromZ 1 _ (by omega) (by omega)).mono ?_
 rintro e w1 ⟨b1, A1, n1, c1, rfl, Z1, hb1⟩
 have PR := (Bz.new w false none 0 0).below hb1
 have BB := bl_trans (bl_alloc w _) hb1
 have hs := hs_alloc w (.cells #[.bool false, .slice none 0 0] 24)
 have Z1' := Z1.mono (base' := w.heap.size + 1) (by rw [hs]; exact Nat.le_refl _)
 have hz : w.heap.size + 1 ≤ w1.heap.size := by have := hb1.size; rw [hs] at this; exact this
 clear hb1 Z1 hs
 go_wp2_with fail
 refine (H.out _ _ _ _ _ BB hz Z1').mono ?_
 rintro e w2 ⟨b2, A2, n2, c2, rfl, Z, hb2⟩
 replace PR := PR.below hb2
 replace BB := bl_trans BB hb2
 have r0 := PR.c0
 have r1 := PR.c1
 have f0 := PR.f 0
 have f1 := PR.f 1
 clear hb2 H Z1'
 go_wp2_with fail
 exact bodyPost_ret (v := .agg #[.bool b2, .slice A2 n2 c2]) (by simp [results, Tryz.results67, go_sem, *]) rfl ⟨_, _, _, _, rfl, fin_z Z BB (by omega) (by omega) _ _⟩

end

end Go.Proofs.YtbhgbilhoonopaaGreat
namespace Go.Proofs.YtbhgbilhoonopaaGreat
open Go.RowKit
set_option linter.unusedVariables false
set_option maxRecDepth 100000

/-- q and r are what z is divided into by u. -/
structure FD (z u q r : Int) : Prop where
 eq : z = u * q + r
 pos : 0 < u → 0 ≤ r ∧ r < u
 neg : u < 0 → u < r ∧ r ≤ 0
theorem FD.uniqP {z u q r q' r' : Int} (hu : 0 < u) (e : z = u * q + r) (e' : z = u * q' + r') (h0 : 0 ≤ r) (h1 : r < u) (h2 : 0 ≤ r') (h3 : r' < u) : q = q' := by
 have hd : u * (q - q') = r' - r := by rw [Int.mul_sub]; omega
 rcases Int.lt_trichotomy (q - q') 0 with hc | hc | hc
 ·have := Int.mul_le_mul_of_nonneg_left (a := q - q') (b := -1) (c := u) (by omega) (by omega)
  rw [hd, Int.mul_neg, Int.mul_one] at this
  omega
 ·omega
 ·have := Int.mul_le_mul_of_nonneg_left (a := 1) (b := q - q') (c := u) (by omega) (by omega)
  rw [hd, Int.mul_one] at this
  omega
theorem FD.uniq {z u q r q' r' : Int} (h : FD z u q r) (h' : FD z u q' r') (hu : u ≠ 0) : q = q' ∧ r = r' := by
 have e := h.eq
 have e' := h'.eq
 have key : q = q' := by
  rcases Int.lt_or_gt_of_ne hu with hn | hp
  ·have h1 := h.neg hn
   have h2 := h'.neg hn
   exact FD.uniqP (z := -z) (u := -u) (r := -r) (r' := -r') (by omega) (by rw [Int.neg_mul]; omega) (by rw [Int.neg_mul]; omega) (by omega) (by omega) (by omega) (by omega)
  ·have h1 := h.pos hp
   have h2 := h'.pos hp
   exact FD.uniqP hp e e' h1.1 h1.2 h2.1 h2.2
 subst key
 exact ⟨rfl, by omega⟩
def dq (z u : Int) : Int := if 0 < u then z / u else (-z) / (-u)
def dr (z u : Int) : Int := z - u * dq z u
theorem FD.of (z : Int) {u : Int} (hu : u ≠ 0) : FD z u (dq z u) (dr z u) := by
 refine ⟨by unfold dr; omega, fun h => ?_, fun h => ?_⟩
 ·unfold dr dq
  rw [if_pos h]
  have h1 := Int.mul_ediv_add_emod z u
  have h2 := Int.emod_nonneg z hu
  have h3 := Int.emod_lt_of_pos z h
  omega
 ·unfold dr dq
  rw [if_neg (by omega)]
  have h1 := Int.mul_ediv_add_emod (-z) (-u)
  have h2 := Int.emod_nonneg (-z) (b := -u) (by omega)
  have h3 := Int.emod_lt_of_pos (-z) (b := -u) (by omega)
  rw [Int.neg_mul] at h1
  omega
theorem FD.dq {z u q r : Int} (h : FD z u q r) (hu : u ≠ 0) : q = dq z u := (h.uniq (FD.of z hu) hu).1
/-- Signs and sizes. -/
theorem FD.same (x y : Nat) (b : Bool) (hy : y ≠ 0) : FD (zv b x) (zv b y) (zv false (x / y)) (zv b (x % y)) := by
 have h1 := Nat.div_add_mod x y
 have h2 := Nat.mod_lt x (Nat.pos_of_ne_zero hy)
 have h3 : (y : Int) * ((x / y : Nat) : Int) + ((x % y : Nat) : Int) = x := by exact_mod_cast h1
 cases b
 ·exact ⟨by simp only [zv_false]; omega, fun _ => by simp only [zv_false]; omega, fun h => by simp only [zv_false] at h; omega⟩
 ·exact ⟨by simp only [zv_true, zv_false, Int.neg_mul]; omega, fun h => by simp only [zv_true] at h; omega, fun _ => by simp only [zv_true]; omega⟩
theorem FD.even (x y : Nat) (b : Bool) (hy : y ≠ 0) (hr : x % y = 0) : FD (zv b x) (zv (!b) y) (zv true (x / y)) 0 := by
 have h1 := Nat.div_add_mod x y
 have h3 : (y : Int) * ((x / y : Nat) : Int) + ((x % y : Nat) : Int) = x := by exact_mod_cast h1
 cases b
 ·exact ⟨by simp only [Bool.not_false, zv_true, zv_false, Int.neg_mul_neg]; omega, fun h => by simp only [Bool.not_false, zv_true] at h; omega, fun h => by simp only [Bool.not_false, zv_true] at h ⊢; omega⟩
 ·exact ⟨by simp only [Bool.not_true, zv_true, zv_false, Int.mul_neg]; omega, fun h => by simp only [Bool.not_true, zv_false] at h ⊢; omega, fun h => by simp only [Bool.not_true, zv_false] at h; omega⟩
theorem FD.odd (x y : Nat) (b : Bool) (hy : y ≠ 0) (hr : x % y ≠ 0) : FD (zv b x) (zv (!b) y) (zv true (x / y + 1)) (zv (!b) (y - x % y)) := by
 have h1 := Nat.div_add_mod x y
 have h2 := Nat.mod_lt x (Nat.pos_of_ne_zero hy)
 have h3 : (y : Int) * ((x / y : Nat) : Int) + ((x % y : Nat) : Int) = x := by exact_mod_cast h1
 have h4 : (y : Int) * (((x / y + 1 : Nat)) : Int) = (y : Int) * ((x / y : Nat) : Int) + y := by push_cast; rw [Int.mul_add, Int.mul_one]
 cases b
 ·exact ⟨by simp only [Bool.not_false, zv_true, zv_false, Int.neg_mul_neg]; omega, fun h => by simp only [Bool.not_false, zv_true] at h; omega, fun h => by simp only [Bool.not_false, zv_true] at h ⊢; omega⟩
 ·exact ⟨by simp only [Bool.not_true, zv_true, zv_false, Int.mul_neg]; omega, fun h => by simp only [Bool.not_true, zv_false] at h ⊢; omega, fun h => by simp only [Bool.not_true, zv_false] at h; omega⟩

section
variable {w w' : World} {s t : Bool} {A B Q R : Option Addr} {n c m d k j g g' nq cq nr cr q r y base : Nat} {z u x : Int}
set_option maxHeartbeats 1000000

/-- A call answers a right number whose limbs lie from base on. -/
def GivC (w : World) (base : Nat) (z : Int) (k : Nat) (e : Ending) (w' : World) : Prop :=
 ∃ b A n c, e = .returned (.agg #[.bool b, .slice A n c]) ∧ Zt w' base b A n c z k ∧ Below w.heap.size w w'
theorem Zt.stored2 {b : Bool} {x y : Value} (h : Zt w base b A n c z k) (hne : ∀ p, A = some p → p.block ≠ g) : Zt ((w.setCell ⟨g, 0, none⟩ x).setCell ⟨g, 1, none⟩ y) base b A n c z k := by
 refine ⟨(h.own.grown (grownBy_setCell w ⟨g, 0, none⟩ x) fun p hp e => ?_).grown (grownBy_setCell _ ⟨g, 1, none⟩ y) fun p hp e => ?_, h.le, h.neg⟩
 ·injection e with e
  exact hne p hp e
 ·injection e with e
  exact hne p hp e

/-- The closure of Div: signs alike. -/
theorem divc_same (s : Bool) (Pa : Bz w g s A n c) (Pb : Bz w g' s B m d) (hq : Own w base Q nq cq (M.lims q)) (hl : nq ≤ k) (hb : base ≤ w.heap.size) : Calls Tryz.prog 117 #[.slice Q nq cq, .slice R nr cr, .pointer (some ⟨g, 0, none⟩), .pointer (some ⟨g', 0, none⟩)] w (GivC w base (zv false q) k) := by
 have PR := Bz.new w false none 0 0
 have BB := bl_alloc w (.cells #[.bool false, .slice none 0 0] 24)
 have a0 := (Pa.below BB).c0
 have b0 := (Pb.below BB).c0
 have HQ := Lib.hid (hq.below BB)
 have HN := Lib.hid (show ∀ p, Q = some p → p.block ≠ w.heap.size from fun p hp => by have := (OwK.lt hq hp).2; omega)
 clear Pa Pb hq hb
 cases s
 all_goals
  go_enter Tryz.func117, Tryz.ntmps117
  go_wp2_with fail
  refine (signed_any _ _ _ _ _).mono ?_
  rintro e w2 ⟨rfl, hb2⟩
  have Z := (zt_signed (s := false) HQ.out hl).below hb2
  replace PR := PR.below hb2
  replace BB := bl_trans BB hb2
  have r0 := PR.c0
  have r1 := PR.c1
  have f0 := PR.f 0
  have f1 := PR.f 1
  clear hb2 a0 b0 HQ
  go_wp2_with fail
  exact bodyPost_ret (v := .agg #[.bool (false && decide (0 < nq)), .slice Q nq cq]) (by simp [results, Tryz.results117, go_sem, *]) rfl ⟨_, _, _, _, rfl, Z.stored2 HN.out, (BB.setCell (p := ⟨w.heap.size, 0, none⟩) (Nat.le_refl _) _).setCell (p := ⟨w.heap.size, 1, none⟩) (Nat.le_refl _) _⟩

/-- .. signs apart, nothing left. -/
theorem divc_even (s : Bool) (Pa : Bz w g s A n c) (Pb : Bz w g' (!s) B m d) (hq : Own w base Q nq cq (M.lims q)) (hl : nq ≤ k) (hr : nr = 0) (hb : base ≤ w.heap.size) : Calls Tryz.prog 117 #[.slice Q nq cq, .slice R nr cr, .pointer (some ⟨g, 0, none⟩), .pointer (some ⟨g', 0, none⟩)] w (GivC w base (zv true q) k) := by
 subst hr
 have PR := Bz.new w false none 0 0
 have BB := bl_alloc w (.cells #[.bool false, .slice none 0 0] 24)
 have a0 := (Pa.below BB).c0
 have b0 := (Pb.below BB).c0
 have HQ := Lib.hid (hq.below BB)
 have HN := Lib.hid (show ∀ p, Q = some p → p.block ≠ w.heap.size from fun p hp => by have := (OwK.lt hq hp).2; omega)
 clear Pa Pb hq hb
 cases s
 all_goals
  simp only [Bool.not_false, Bool.not_true] at b0
  go_enter Tryz.func117, Tryz.ntmps117
  go_wp2_with fail
  refine (signed_any _ _ _ _ _).mono ?_
  rintro e w2 ⟨rfl, hb2⟩
  have Z := (zt_signed (s := true) HQ.out hl).below hb2
  replace PR := PR.below hb2
  replace BB := bl_trans BB hb2
  have r0 := PR.c0
  have r1 := PR.c1
  have f0 := PR.f 0
  have f1 := PR.f 1
  clear hb2 a0 b0 HQ
  go_wp2_with fail
  exact bodyPost_ret (v := .agg #[.bool (true && decide (0 < nq)), .slice Q nq cq]) (by simp [results, Tryz.results117, go_sem, *]) rfl ⟨_, _, _, _, rfl, Z.stored2 HN.out, (BB.setCell (p := ⟨w.heap.size, 0, none⟩) (Nat.le_refl _) _).setCell (p := ⟨w.heap.size, 1, none⟩) (Nat.le_refl _) _⟩

/-- .. signs apart, something left. -/
theorem divc_odd (s : Bool) (Pa : Bz w g s A n c) (Pb : Bz w g' (!s) B m d) (hq : Own w base Q nq cq (M.lims q)) (hl : q < M.R ^ k) (hk : k ≤ 1000) (hr : 0 < nr) (hb : base ≤ w.heap.size) : Calls Tryz.prog 117 #[.slice Q nq cq, .slice R nr cr, .pointer (some ⟨g, 0, none⟩), .pointer (some ⟨g', 0, none⟩)] w (GivC w base (zv true (q + 1)) (k + 1)) := by
 have PR := Bz.new w false none 0 0
 have BB := bl_alloc w (.cells #[.bool false, .slice none 0 0] 24)
 have a0 := (Pa.below BB).c0
 have b0 := (Pb.below BB).c0
 have HQ := Lib.hid (hq.below BB).rd
 have hn := M.lims_length_le.2 hl
 have e := hq.len
 have hr' : (0 : Int) < (nr : Int) := by omega
 have hlt : q + 1 < M.R ^ (k + 1) := by
  have h1 := Nat.pow_pos (n := k) M.R_pos
  rw [Nat.pow_succ]
  have : M.R ^ k * 2 ≤ M.R ^ k * M.R := Nat.mul_le_mul_left _ (by decide)
  omega
 have HL := Lib.hid hlt
 have HE := Lib.hid hb
 clear hq hlt hb hl
 obtain ⟨hnq, _⟩ : nq ≤ 1000 ∧ True := ⟨by omega, trivial⟩
 cases s
 all_goals
  simp only [Bool.not_false, Bool.not_true] at b0 Pb
  go_enter Tryz.func117, Tryz.ntmps117
  go_wp2_with fail
  refine (from_any 1 _ (by omega) (by omega)).mono ?_
  rintro e1 w1 ⟨A1, c1, rfl, ho1, hb1⟩
  have PR1 := PR.below hb1
  have BB1 := bl_trans BB hb1
  have HQ1 := Lib.hid (HQ.out.below hb1)
  have l1 : (M.lims (Int.toNat 1)).length ≤ 2 := M.lims_length_le.2 (by decide)
  clear HQ hb1
  go_wp2_with fail
  refine (add_any _ _ _ _ _ _ _ _ _ HQ1.out ho1.rd (by omega) (by omega)).mono ?_
  rw [M.val_lims, M.val_lims, show q + Int.toNat 1 = q + 1 from rfl]
  rintro e2 w2 ⟨A2, c2, rfl, ho2, hb2⟩
  have hs := PR1.lt
  have PR2 := PR1.below hb2
  have BB2 := bl_trans BB1 hb2
  have a2 := (Pa.below BB2).c0
  have b2 := (Pb.below BB2).c0
  clear HQ1 hb2 ho1 a0 b0
  go_wp2_with fail
  refine (signed_any _ _ _ _ _).mono ?_
  rintro e w3 ⟨rfl, hb3⟩
  have Z := ((zt_signed (s := true) ho2 (M.lims_length_le.2 HL.out)).below hb3)
  have PR3 := PR2.below hb3
  have BB3 := bl_trans BB2 hb3
  have r0 := PR3.c0
  have r1 := PR3.c1
  have f0 := PR3.f 0
  have f1 := PR3.f 1
  have hz := BB1.size
  clear hb3 a2 b2 PR PR1 PR2 BB BB1 BB2 Pa Pb
  go_wp2_with fail
  exact bodyPost_ret (v := .agg #[.bool (true && decide (0 < (M.lims (q + 1)).length)), .slice A2 (M.lims (q + 1)).length c2]) (by simp [results, Tryz.results117, go_sem, *]) rfl ⟨_, _, _, _, rfl, (Z.stored2 (fun p hp => by have := (OwK.lt Z.own hp).1; omega)).mono (by have := HE.out; omega), (BB3.setCell (p := ⟨w.heap.size, 0, none⟩) (Nat.le_refl _) _).setCell (p := ⟨w.heap.size, 1, none⟩) (Nat.le_refl _) _⟩

end

end Go.Proofs.YtbhgbilhoonopaaGreat

/- big.divided, Div, Mod. -/
namespace Go.Proofs.YtbhgbilhoonopaaGreat
open Go.RowKit
set_option linter.unusedVariables false
set_option maxRecDepth 100000

theorem not_of_ne {s t : Bool} (h : ¬ s = t) : t = !s := by
 cases s <;> cases t <;> simp at h ⊢

section
variable {w w' : World} {s t : Bool} {A B Q R : Option Addr} {n c m d k j g g' nq cq nr cr q r y base : Nat} {z u x : Int}
set_option maxHeartbeats 1000000

theorem Zt.zero0 (w : World) (base k : Nat) : Zt w base false none 0 0 0 k := ⟨by rw [show M.lims (Int.natAbs 0) = [] from M.lims_zero]; exact OwK.nil_ _ _, Nat.zero_le _, rfl⟩

/-- divided, by what its closure tells. -/
theorem divided_Div (ga gb : Nat) (h : Zm w s A n c z k) (g : Zm w t B m d u j) (hk : k ≤ 1000) (hj : j ≤ 1000) (hu : u ≠ 0) (p : Nat)
  (hF : ∀ W Q nq cq R nr cr, Below w.heap.size w W → Own W (w.heap.size + 3) Q nq cq (M.lims (z.natAbs / u.natAbs)) → Own W (w.heap.size + 3) R nr cr (M.lims (z.natAbs % u.natAbs)) → w.heap.size + 3 ≤ W.heap.size → Calls Tryz.prog 117 #[.slice Q nq cq, .slice R nr cr, .pointer (some ⟨ga, 0, none⟩), .pointer (some ⟨gb, 0, none⟩)] W (GivC W (w.heap.size + 3) x p)) :
  Calls Tryz.prog 116 #[.agg #[.bool s, .slice A n c], .agg #[.bool t, .slice B m d], .func (Fn.func 117) #[] #[.pointer (some ⟨ga, 0, none⟩), .pointer (some ⟨gb, 0, none⟩)]] w (GivZE w x p 0) := by
 have X := ((h.alloc (.cells #[.bool s, .slice A n c] 24)).alloc (.cells #[.bool t, .slice B m d] 24)).alloc (.cells #[.bool false, .slice none 0 0] 24)
 have Y := ((g.alloc (.cells #[.bool s, .slice A n c] 24)).alloc (.cells #[.bool t, .slice B m d] 24)).alloc (.cells #[.bool false, .slice none 0 0] 24)
 have PR := Bz.new3 w (.cells #[.bool s, .slice A n c] 24) (.cells #[.bool t, .slice B m d] 24) false none 0 0
 have BB := bl_trans (bl_trans (bl_alloc w (.cells #[.bool s, .slice A n c] 24)) (bl_alloc _ (.cells #[.bool t, .slice B m d] 24))) (bl_alloc _ (.cells #[.bool false, .slice none 0 0] 24))
 have hl := X.nm.le
 have hl' := Y.nm.le
 obtain ⟨xs, hx, hxv⟩ := X.nm.row
 obtain ⟨ys, hy, hyv⟩ := Y.nm.row
 have HX := Lib.hid hx
 have HY := Lib.hid hy
 have HXV := Lib.hid hxv
 have HYV := Lib.hid hyv
 have HF := Lib.hid hF
 have HU := Lib.hid (show u.natAbs ≠ 0 by omega)
 have HS := Lib.hid (show (((w.alloc (.cells #[.bool s, .slice A n c] 24)).alloc (.cells #[.bool t, .slice B m d] 24)).alloc (.cells #[.bool false, .slice none 0 0] 24)).heap.size = w.heap.size + 3 by simp)
 clear hx hy hxv hyv hF h g X Y hu
 go_enter Tryz.func116, Tryz.ntmps116
 go_wp2_with fail
 refine (div_all _ _ _ _ _ _ _ _ _ HX.out HY.out (by omega) (by omega) (by rw [HYV.out]; exact HU.out)).mono ?_
 rw [HXV.out, HYV.out]
 rintro e w1 ⟨Q1, c1, R1, d1, rfl, ho, ho', _, hb1⟩
 have hz := hb1.size
 rw [HS.out] at ho ho' hz
 replace PR := PR.below hb1
 replace BB := bl_trans BB hb1
 have HO := Lib.hid ho
 have HO' := Lib.hid ho'
 clear hb1 HX HY HXV HYV HU ho ho'
 go_wp2_with fail
 refine (HF.out _ _ _ _ _ _ _ BB HO.out HO'.out hz).mono ?_
 rintro e w2 ⟨b2, A2, n2, c2, rfl, Z, hb2⟩
 replace PR := PR.below hb2
 replace BB := bl_trans BB hb2
 have r0 := PR.c0
 have r1 := PR.c1
 have f0 := PR.f 0
 have f1 := PR.f 1
 clear hb2 HO HO' HF HS
 go_wp2_with fail
 exact bodyPost_ret (v := .tuple #[.agg #[.bool b2, .slice A2 n2 c2], .int .i64 0]) (by simp [results, Tryz.results116, go_sem, *]) rfl ⟨_, _, _, _, rfl, fin_z Z BB (by omega) (by omega) _ _⟩

theorem divided_Div0 (ga gb : Nat) (h : Zm w s A n c z k) (g : Zm w t B m d u j) (hk : k ≤ 1000) (hj : j ≤ 1000) (hu : u = 0) :
  Calls Tryz.prog 116 #[.agg #[.bool s, .slice A n c], .agg #[.bool t, .slice B m d], .func (Fn.func 117) #[] #[.pointer (some ⟨ga, 0, none⟩), .pointer (some ⟨gb, 0, none⟩)]] w (GivZE w 0 0 3) := by
 have PA := ((Bz.new w s A n c).alloc (.cells #[.bool t, .slice B m d] 24)).alloc (.cells #[.bool false, .slice none 0 0] 24)
 have PB := (Bz.new2 w (.cells #[.bool s, .slice A n c] 24) t B m d).alloc (.cells #[.bool false, .slice none 0 0] 24)
 have PR := Bz.new3 w (.cells #[.bool s, .slice A n c] 24) (.cells #[.bool t, .slice B m d] 24) false none 0 0
 have X := ((h.alloc (.cells #[.bool s, .slice A n c] 24)).alloc (.cells #[.bool t, .slice B m d] 24)).alloc (.cells #[.bool false, .slice none 0 0] 24)
 have Y := ((g.alloc (.cells #[.bool s, .slice A n c] 24)).alloc (.cells #[.bool t, .slice B m d] 24)).alloc (.cells #[.bool false, .slice none 0 0] 24)
 have BB := bl_trans (bl_trans (bl_alloc w (.cells #[.bool s, .slice A n c] 24)) (bl_alloc _ (.cells #[.bool t, .slice B m d] 24))) (bl_alloc _ (.cells #[.bool false, .slice none 0 0] 24))
 have hl := X.nm.le
 have hl' := Y.nm.le
 obtain ⟨xs, hx, hxv⟩ := X.nm.row
 obtain ⟨ys, hy, hyv⟩ := Y.nm.row
 have HX := Lib.hid hx
 have HY := Lib.hid hy
 have HYV := Lib.hid (show M.val ys = 0 by rw [hyv, hu]; rfl)
 clear hx hy hxv hyv h g X Y hu PA PB
 go_enter Tryz.func116, Tryz.ntmps116
 go_wp2_with fail
 refine (div_zero _ _ _ _ _ _ _ _ _ HX.out HY.out (by omega) (by omega) HYV.out).mono ?_
 rintro e w1 ⟨Q1, c1, R1, d1, rfl, _, _, _, hb1⟩
 replace PR := PR.below hb1
 replace BB := bl_trans BB hb1
 have r0 := PR.c0
 have r1 := PR.c1
 have f0 := PR.f 0
 have f1 := PR.f 1
 have hs := PR.lt
 clear hb1 HX HY HYV
 go_wp2_with fail
 exact bodyPost_ret (v := .tuple #[.agg #[.bool false, .slice none 0 0], .int .i64 3]) (by simp [results, Tryz.results116, go_sem, *]) rfl ⟨_, _, _, _, rfl, fin_z (Zt.zero0 _ _ _) BB (by omega) hs _ _⟩

theorem divZ0 (h : Zm w s A n c z k) (g : Zm w t B m d u j) (hk : k ≤ 1000) (hj : j ≤ 1000) (hu : u = 0) : Calls Tryz.prog 76 #[.agg #[.bool s, .slice A n c], .agg #[.bool t, .slice B m d]] w (GivZE w 0 0 3) := by
 have PA := ((Bz.new w s A n c).alloc (.cells #[.bool t, .slice B m d] 24)).alloc (.cells #[.bool false, .slice none 0 0] 24)
 have PB := (Bz.new2 w (.cells #[.bool s, .slice A n c] 24) t B m d).alloc (.cells #[.bool false, .slice none 0 0] 24)
 have PR := Bz.new3 w (.cells #[.bool s, .slice A n c] 24) (.cells #[.bool t, .slice B m d] 24) false none 0 0
 have X := ((h.alloc (.cells #[.bool s, .slice A n c] 24)).alloc (.cells #[.bool t, .slice B m d] 24)).alloc (.cells #[.bool false, .slice none 0 0] 24)
 have Y := ((g.alloc (.cells #[.bool s, .slice A n c] 24)).alloc (.cells #[.bool t, .slice B m d] 24)).alloc (.cells #[.bool false, .slice none 0 0] 24)
 have BB := bl_trans (bl_trans (bl_alloc w (.cells #[.bool s, .slice A n c] 24)) (bl_alloc _ (.cells #[.bool t, .slice B m d] 24))) (bl_alloc _ (.cells #[.bool false, .slice none 0 0] 24))
 have HU := Lib.hid hu
 clear h g hu PA PB
 go_enter Tryz.func76, Tryz.ntmps76
 go_wp2_with fail
 refine (divided_Div0 _ _ X Y hk hj HU.out).mono ?_
 rintro e w1 ⟨b1, A1, n1, c1, rfl, Z, hb1⟩
 have hs := PR.lt
 replace PR := PR.below hb1
 replace BB := bl_trans BB hb1
 have r0 := PR.c0
 have r1 := PR.c1
 have f0 := PR.f 0
 have f1 := PR.f 1
 clear hb1
 go_wp2_with fail
 exact bodyPost_ret (v := .tuple #[.agg #[.bool b1, .slice A1 n1 c1], .int .i64 3]) (by simp [results, Tryz.results76, go_sem, *]) rfl ⟨_, _, _, _, rfl, fin_z Z BB (by omega) hs _ _⟩

theorem divZ (h : Zm w s A n c z k) (g : Zm w t B m d u j) (hk : k ≤ 1000) (hj : j ≤ 1000) (hu : u ≠ 0) : Calls Tryz.prog 76 #[.agg #[.bool s, .slice A n c], .agg #[.bool t, .slice B m d]] w (GivZE w (dq z u) (k + 1) 0) := by
 have PA := ((Bz.new w s A n c).alloc (.cells #[.bool t, .slice B m d] 24)).alloc (.cells #[.bool false, .slice none 0 0] 24)
 have PB := (Bz.new2 w (.cells #[.bool s, .slice A n c] 24) t B m d).alloc (.cells #[.bool false, .slice none 0 0] 24)
 have PR := Bz.new3 w (.cells #[.bool s, .slice A n c] 24) (.cells #[.bool t, .slice B m d] 24) false none 0 0
 have X := ((h.alloc (.cells #[.bool s, .slice A n c] 24)).alloc (.cells #[.bool t, .slice B m d] 24)).alloc (.cells #[.bool false, .slice none 0 0] 24)
 have Y := ((g.alloc (.cells #[.bool s, .slice A n c] 24)).alloc (.cells #[.bool t, .slice B m d] 24)).alloc (.cells #[.bool false, .slice none 0 0] 24)
 have BB := bl_trans (bl_trans (bl_alloc w (.cells #[.bool s, .slice A n c] 24)) (bl_alloc _ (.cells #[.bool t, .slice B m d] 24))) (bl_alloc _ (.cells #[.bool false, .slice none 0 0] 24))
 obtain ⟨W0, hW0⟩ : ∃ W0, W0 = ((w.alloc (.cells #[.bool s, .slice A n c] 24)).alloc (.cells #[.bool t, .slice B m d] 24)).alloc (.cells #[.bool false, .slice none 0 0] 24) := ⟨_, rfl⟩
 rw [← hW0] at PA PB X Y
 have HF : ∀ W Q nq cq R nr cr, Below W0.heap.size W0 W → Own W (W0.heap.size + 3) Q nq cq (M.lims (z.natAbs / u.natAbs)) → Own W (W0.heap.size + 3) R nr cr (M.lims (z.natAbs % u.natAbs)) → W0.heap.size + 3 ≤ W.heap.size → Calls Tryz.prog 117 #[.slice Q nq cq, .slice R nr cr, .pointer (some ⟨w.heap.size, 0, none⟩), .pointer (some ⟨w.heap.size + 1, 0, none⟩)] W (GivC W (W0.heap.size + 3) (dq z u) (k + 1)) := by
  intro W Q nq cq R nr cr hW hq hr hs
  have ha := PA.below hW
  have hb := PB.below hW
  have hqlt : z.natAbs / u.natAbs < M.R ^ k := Nat.lt_of_le_of_lt (Nat.div_le_self _ _) h.lt
  have hql := M.lims_length_le.2 hqlt
  rw [hq.len] at hql
  have hun : u.natAbs ≠ 0 := by omega
  have ez := h.eq
  have eu := g.eq
  by_cases hst : s = t
  ·subst hst
   have fd := FD.same z.natAbs u.natAbs s hun
   rw [← ez, ← eu] at fd
   rw [← fd.dq hu]
   exact divc_same s ha hb hq (by omega) hs
  ·obtain rfl : t = !s := not_of_ne hst
   by_cases h0 : z.natAbs % u.natAbs = 0
   ·have fd := FD.even z.natAbs u.natAbs s hun h0
    rw [← ez, ← eu] at fd
    rw [← fd.dq hu]
    have hn : nr = 0 := by rw [← hr.len, h0, M.lims_zero]; rfl
    exact divc_even s ha hb hq (by omega) hn hs
   ·have fd := FD.odd z.natAbs u.natAbs s hun h0
    rw [← ez, ← eu] at fd
    rw [← fd.dq hu]
    have hn : 0 < nr := by rw [← hr.len]; exact List.length_pos_iff.2 (fun h9 => h0 (M.lims_eq_nil.1 h9))
    exact divc_odd s ha hb hq hqlt hk hn hs
 subst hW0
 have HH := Lib.hid HF
 have HU := Lib.hid hu
 clear h g hu PA PB HF
 go_enter Tryz.func76, Tryz.ntmps76
 go_wp2_with fail
 refine (divided_Div _ _ X Y hk hj HU.out _ HH.out).mono ?_
 rintro e w1 ⟨b1, A1, n1, c1, rfl, Z, hb1⟩
 have hs := PR.lt
 replace PR := PR.below hb1
 replace BB := bl_trans BB hb1
 have r0 := PR.c0
 have r1 := PR.c1
 have f0 := PR.f 0
 have f1 := PR.f 1
 clear hb1
 go_wp2_with fail
 exact bodyPost_ret (v := .tuple #[.agg #[.bool b1, .slice A1 n1 c1], .int .i64 0]) (by simp [results, Tryz.results76, go_sem, *]) rfl ⟨_, _, _, _, rfl, fin_z Z BB (by omega) hs _ _⟩

end

end Go.Proofs.YtbhgbilhoonopaaGreat
namespace Go.Proofs.YtbhgbilhoonopaaGreat
open Go.RowKit
set_option linter.unusedVariables false
set_option maxRecDepth 100000

/-- A number's text. -/
def txtZ (z : Int) : List Nat := if z < 0 then 45 :: M.txt z.natAbs else M.txt z.natAbs
theorem txtZ_neg {z : Int} (h : z < 0) : txtZ z = 45 :: M.txt z.natAbs := if_pos h
theorem txtZ_pos {z : Int} (h : ¬ z < 0) : txtZ z = M.txt z.natAbs := if_neg h
theorem bytes_minus (s : ByteArray) : M.bytes (⟨#[45]⟩ ++ s) = 45 :: M.bytes s := by
 unfold M.bytes
 obtain ⟨⟨l⟩⟩ := s
 simp

section
variable {w : World} {s t : Bool} {A B : Option Addr} {n c m d k j : Nat} {z u : Int}
set_option maxHeartbeats 1000000

theorem textZ (h : Zm w s A n c z k) (hk : k ≤ 1000) : Calls Tryz.prog 84 #[.agg #[.bool s, .slice A n c]] w (GivesT w (txtZ z)) := by
 have X := h.alloc (.cells #[.bool s, .slice A n c] 24)
 have PA := Bz.new w s A n c
 have BB := bl_alloc w (.cells #[.bool s, .slice A n c] 24)
 have hlt := h.lt
 by_cases hneg : z < 0
 ·rw [txtZ_neg hneg]
  have HP := Lib.hid (sgn_neg hneg)
  clear hneg h
  go_enter Tryz.func84, Tryz.ntmps84
  go_wp2_with fail
  refine (textN X.nm hk).mono ?_
  rintro e w1 ⟨t1, rfl, ht1, hb1⟩
  have hsz := txt_size ht1 hlt
  have HT := Lib.hid ht1
  replace X := X.below hb1
  replace BB := bl_trans BB hb1
  replace PA := PA.below hb1
  have a0 := PA.c0
  have a1 := PA.c1
  clear hb1 ht1 hlt
  go_wp2_with fail
  refine (signZ' X hk HP.out).mono ?_
  rintro e w2 ⟨rfl, hb2⟩
  replace BB := bl_trans BB hb2
  clear hb2 a0 a1 X PA HP
  go_wp2_with fail
  go_ret
  exact ⟨_, rfl, by rw [bytes_minus, HT.out], BB⟩
 ·rw [txtZ_pos hneg]
  obtain ⟨q, hq, hq0⟩ : ∃ q, sgn z = q ∧ 0 ≤ q := by
   rcases sgn_cases z with ⟨h1, h2⟩ | ⟨h1, h2⟩ | ⟨h1, h2⟩
   ·omega
   ·exact ⟨_, h2, by omega⟩
   ·exact ⟨_, h2, by omega⟩
  have HP := Lib.hid hq
  clear hneg h hq
  go_enter Tryz.func84, Tryz.ntmps84
  go_wp2_with fail
  refine (textN X.nm hk).mono ?_
  rintro e w1 ⟨t1, rfl, ht1, hb1⟩
  have HT := Lib.hid ht1
  replace X := X.below hb1
  replace BB := bl_trans BB hb1
  replace PA := PA.below hb1
  have a0 := PA.c0
  have a1 := PA.c1
  clear hb1 ht1 hlt
  go_wp2_with fail
  refine (signZ' X hk HP.out).mono ?_
  rintro e w2 ⟨rfl, hb2⟩
  replace BB := bl_trans BB hb2
  clear hb2 a0 a1 X PA HP
  go_wp2_with fail
  go_ret
  exact ⟨_, rfl, HT.out, BB⟩

theorem Zt.zeroT (w : World) (base k : Nat) : Zt w base false none 0 0 0 k := ⟨by rw [show M.lims (Int.natAbs 0) = [] from M.lims_zero]; exact OwK.nil_ _ _, Nat.zero_le _, rfl⟩

theorem ext_one (s : ByteArray) (h : 1 ≤ s.size) : ((s.extract 0 1).toList == [45]) = decide ((M.bytes s)[0]? = some 45) := by
 have hl := M.bytes_len s
 have e := M.bytes_extract s 0 1
 rw [List.drop_zero, Nat.sub_zero] at e
 cases hb : M.bytes s with
 | nil => rw [hb] at hl; simp at hl; omega
 | cons x l =>
  rw [hb, List.take_succ_cons, List.take_zero] at e
  by_cases hx : x = 45
  ·subst hx
   have : s.extract 0 1 = ⟨#[45]⟩ := M.bytes_inj (by rw [e]; rfl)
   rw [this]
   simp
  ·have : ¬ (s.extract 0 1).toList = [45] := by
    intro h9
    apply hx
    have h8 : s.extract 0 1 = ⟨#[45]⟩ := ByteArray.ext (Array.toList_inj.1 (by rw [← Lib.toList_data, h9]))
    rw [h8] at e
    have : [45] = [x] := e
    injection this with h7
    exact h7.symm
   simp [hx, this]

theorem hasPrefix_any (s : ByteArray) (w : World) (hs : s.size ≤ 1048576) : Calls Tryz.prog 163 #[.string s, .string ⟨#[45]⟩] w fun e w' => e = .returned (.bool (decide ((M.bytes s)[0]? = some 45))) ∧ w = w' := by
 by_cases h0 : s.size = 0
 ·have hn : (M.bytes s)[0]? = none := by rw [List.getElem?_eq_none_iff, M.bytes_len]; omega
  have HN := Lib.hid (show false = decide ((M.bytes s)[0]? = some 45) by rw [hn]; rfl)
  clear hn
  go_enter Tryz.func163, Tryz.ntmps163
  go_wp2
  go_ret
  exact ⟨ret_bool HN.out, rfl⟩
 ·have h1 : (1 : Int) ≤ (s.size : Int) := by omega
  have h1' : 1 ≤ s.size := by omega
  have HN := Lib.hid (ext_one s h1')
  go_enter Tryz.func163, Tryz.ntmps163
  go_wp2
  go_ret
  exact ⟨ret_bool HN.out, rfl⟩

def hp (s : ByteArray) : Bool := decide ((M.bytes s)[0]? = some 45)
/-- What is behind a minus, if there is one. -/
def cutP (s : ByteArray) : ByteArray := bif hp s then s.extract 1 s.size else s
theorem cut_in (s : ByteArray) (w : World) (hs : s.size ≤ 1048576) : Calls Tryz.prog 151 #[.string s, .string ⟨#[45]⟩] w fun e w' => e = .returned (.tuple #[.string (cutP s), .bool (hp s)]) ∧ w = w' := by
 by_cases h : hp s = true
 ·have h1 : 1 ≤ s.size := by
   have := of_decide_eq_true h
   have := (List.getElem?_eq_some_iff.1 this).1
   rw [M.bytes_len] at this
   omega
  have h1' : (1 : Int) ≤ (s.size : Int) := by omega
  have HC := Lib.hid (show cutP s = s.extract 1 s.size by unfold cutP; rw [h]; rfl)
  have HH := Lib.hid h
  clear h
  go_enter Tryz.func151, Tryz.ntmps151
  go_wp2_with fail
  refine (hasPrefix_any s _ hs).mono ?_
  rw [show decide ((M.bytes s)[0]? = some 45) = true from HH.out]
  rintro e w' ⟨rfl, rfl⟩
  go_wp2_with fail
  go_ret2
  rw [HC.out, HH.out]
  exact ⟨rfl, rfl⟩
 ·have h' : hp s = false := by simpa using h
  have HC := Lib.hid (show cutP s = s by unfold cutP; rw [h']; rfl)
  have HH := Lib.hid h'
  clear h h'
  go_enter Tryz.func151, Tryz.ntmps151
  go_wp2_with fail
  refine (hasPrefix_any s _ hs).mono ?_
  rw [show decide ((M.bytes s)[0]? = some 45) = false from HH.out]
  rintro e w' ⟨rfl, rfl⟩
  go_wp2_with fail
  go_ret2
  rw [HC.out, HH.out]
  exact ⟨rfl, rfl⟩
theorem cut_any (s : ByteArray) (w : World) (hs : s.size ≤ 1048576) : Calls Tryz.prog 126 #[.string s, .string ⟨#[45]⟩] w fun e w' => e = .returned (.tuple #[.string (cutP s), .bool (hp s)]) ∧ w = w' := by
 go_enter Tryz.func126, Tryz.ntmps126
 go_wp2_with fail
 refine (cut_in s _ hs).mono ?_
 rintro e w' ⟨rfl, rfl⟩
 go_wp2_with fail
 go_ret2
 exact ⟨rfl, rfl⟩
theorem bytes_cut (s : ByteArray) : (hp s = true ∧ M.bytes s = 45 :: M.bytes (cutP s)) ∨ (hp s = false ∧ cutP s = s) := by
 by_cases h : hp s = true
 ·refine .inl ⟨h, ?_⟩
  have h1 := of_decide_eq_true h
  unfold cutP
  rw [h]
  show _ = 45 :: M.bytes (s.extract 1 s.size)
  rw [M.bytes_tail]
  cases hb : M.bytes s with
  | nil => rw [hb] at h1; cases h1
  | cons x l =>
   rw [hb] at h1
   injection h1 with h1
   rw [h1]
   rfl
 ·have h' : hp s = false := by simpa using h
  refine .inr ⟨h', ?_⟩
  unfold cutP
  rw [h']
  rfl
theorem cut_size (s : ByteArray) : (cutP s).size ≤ s.size := by
 rcases bytes_cut s with ⟨_, h⟩ | ⟨_, h⟩
 ·have := congrArg List.length h
  rw [List.length_cons, M.bytes_len, M.bytes_len] at this
  omega
 ·rw [h]; exact Nat.le_refl _

/-- Is it a number's text? .. and of which number. -/
def isZ (s : ByteArray) : Prop := M.Digits (M.bytes (cutP s)) ∧ (hp s = true → M.dec 0 (M.bytes (cutP s)) ≠ 0)
def valZ (s : ByteArray) : Int := zv (hp s) (M.dec 0 (M.bytes (cutP s)))

theorem parseZ_no (s : ByteArray) (w : World) (hs : s.size ≤ 1048576) (h : ¬ isZ s) : Calls Tryz.prog 93 #[.string s] w (GivZB w 0 0 false) := by
 have hcs := cut_size s
 have PR := Bz.new w false none 0 0
 have BB := bl_alloc w (.cells #[.bool false, .slice none 0 0] 24)
 by_cases hd : M.Digits (M.bytes (cutP s))
 ·have hm : hp s = true ∧ M.dec 0 (M.bytes (cutP s)) = 0 := by
   unfold isZ at h
   by_cases h1 : hp s = true
   ·exact ⟨h1, Classical.byContradiction fun h2 => h ⟨hd, fun _ => h2⟩⟩
   ·exact absurd ⟨hd, fun h2 => absurd h2 h1⟩ h
  have HH := Lib.hid hm.1
  have HL := Lib.hid (show M.lims (M.dec 0 (M.bytes (cutP s))) = [] by rw [hm.2, M.lims_zero])
  have HD := Lib.hid hd
  clear h hd hm
  go_enter Tryz.func93, Tryz.ntmps93
  go_wp2_with fail
  refine (cut_any s _ hs).mono ?_
  rw [HH.out]
  rintro e w' ⟨rfl, rfl⟩
  go_wp2_with fail
  refine (parse_yes _ _ (by omega) HD.out).mono ?_
  rw [HL.out]
  rintro e w1 ⟨A1, c1, rfl, ho, hb1⟩
  replace PR := PR.below hb1
  replace BB := bl_trans BB hb1
  have r0 := PR.c0
  have r1 := PR.c1
  have f0 := PR.f 0
  have f1 := PR.f 1
  have hsz := PR.lt
  clear hb1 ho
  go_wp2_with fail
  exact bodyPost_ret (v := .tuple #[.agg #[.bool false, .slice none 0 0], .bool false]) (by simp [results, Tryz.results93, go_sem, *]) rfl ⟨_, _, _, _, rfl, fin_z (Zt.zeroT _ _ _) BB (by omega) hsz _ _⟩
 ·have HD := Lib.hid hd
  clear h hd
  go_enter Tryz.func93, Tryz.ntmps93
  go_wp2_with fail
  refine (cut_any s _ hs).mono ?_
  rintro e w' ⟨rfl, rfl⟩
  go_wp2_with fail
  refine (parse_no _ _ (by omega) HD.out).mono ?_
  rintro e w1 ⟨A1, c1, rfl, ho, hb1⟩
  replace PR := PR.below hb1
  replace BB := bl_trans BB hb1
  have r0 := PR.c0
  have r1 := PR.c1
  have f0 := PR.f 0
  have f1 := PR.f 1
  have hsz := PR.lt
  clear hb1 ho
  go_wp2_with fail
  exact bodyPost_ret (v := .tuple #[.agg #[.bool false, .slice none 0 0], .bool false]) (by simp [results, Tryz.results93, go_sem, *]) rfl ⟨_, _, _, _, rfl, fin_z (Zt.zeroT _ _ _) BB (by omega) hsz _ _⟩

theorem parseZ_yes (s : ByteArray) (w : World) (hs : s.size ≤ 1048576) (h : isZ s) (hv : (valZ s).natAbs < M.R ^ k) : Calls Tryz.prog 93 #[.string s] w (GivZB w (valZ s) k true) := by
 have hcs := cut_size s
 have PR := Bz.new w false none 0 0
 have BB := bl_alloc w (.cells #[.bool false, .slice none 0 0] 24)
 have hl : (M.lims (M.dec 0 (M.bytes (cutP s)))).length ≤ k := by
  unfold valZ at hv
  rw [zv_abs] at hv
  exact M.lims_length_le.2 hv
 have hne : hp s = true → 0 < (M.lims (M.dec 0 (M.bytes (cutP s)))).length := fun h1 => List.length_pos_iff.2 fun h9 => h.2 h1 (M.lims_eq_nil.1 h9)
 have HD := Lib.hid h.1
 obtain ⟨v, hv⟩ : ∃ v, M.dec 0 (M.bytes (cutP s)) = v := ⟨_, rfl⟩
 obtain ⟨p, hp'⟩ : ∃ p, hp s = p := ⟨_, rfl⟩
 have HV := Lib.hid hv
 have HP := Lib.hid hp'
 have hval : valZ s = zv p v := by unfold valZ; rw [hv, hp']
 rw [hval]
 rw [hv] at hl hne
 rw [hp'] at hne
 clear hv hp' hval h
 obtain ⟨n, hn⟩ : ∃ n, (M.lims v).length = n := ⟨_, rfl⟩
 rw [hn] at hl hne
 have HN := Lib.hid hn
 clear hn
 cases p
 ·clear hne
  go_enter Tryz.func93, Tryz.ntmps93
  go_wp2_with fail
  refine (cut_any s _ hs).mono ?_
  rw [HP.out]
  rintro e w' ⟨rfl, rfl⟩
  go_wp2_with fail
  refine (parse_yes _ _ (by omega) HD.out).mono ?_
  rw [HV.out]
  rintro e w1 ⟨A1, c1, rfl, ho, hb1⟩
  rw [HN.out] at ho ⊢
  have HO := Lib.hid ho
  replace PR := PR.below hb1
  replace BB := bl_trans BB hb1
  have hsz := hs_alloc w (.cells #[.bool false, .slice none 0 0] 24)
  have HSZ := Lib.hid hsz
  clear hb1 ho hsz
  go_wp2_with fail
  refine (signed_any _ _ _ _ _).mono ?_
  rintro e w2 ⟨rfl, hb2⟩
  have Z := (zt_signed (s := false) HO.out hl).below hb2
  rw [HSZ.out] at Z
  replace PR := PR.below hb2
  replace BB := bl_trans BB hb2
  have r0 := PR.c0
  have r1 := PR.c1
  have f0 := PR.f 0
  have f1 := PR.f 1
  clear hb2
  go_wp2_with fail
  exact bodyPost_ret (v := .tuple #[.agg #[.bool (false && decide (0 < n)), .slice A1 n c1], .bool true]) (by simp [results, Tryz.results93, go_sem, *]) rfl ⟨_, _, _, _, rfl, fin_z Z BB (by omega) (by omega) _ _⟩
 ·have hn0 := hne rfl
  have hn1 : ((n : Int) == 0) = false := by simp; omega
  clear hne
  go_enter Tryz.func93, Tryz.ntmps93
  go_wp2_with fail
  refine (cut_any s _ hs).mono ?_
  rw [HP.out]
  rintro e w' ⟨rfl, rfl⟩
  go_wp2_with fail
  refine (parse_yes _ _ (by omega) HD.out).mono ?_
  rw [HV.out]
  rintro e w1 ⟨A1, c1, rfl, ho, hb1⟩
  rw [HN.out] at ho ⊢
  have HO := Lib.hid ho
  replace PR := PR.below hb1
  replace BB := bl_trans BB hb1
  have hsz := hs_alloc w (.cells #[.bool false, .slice none 0 0] 24)
  have HSZ := Lib.hid hsz
  clear hb1 ho hsz
  go_wp2_with fail
  refine (signed_any _ _ _ _ _).mono ?_
  rintro e w2 ⟨rfl, hb2⟩
  have Z := (zt_signed (s := true) HO.out hl).below hb2
  rw [HSZ.out] at Z
  replace PR := PR.below hb2
  replace BB := bl_trans BB hb2
  have r0 := PR.c0
  have r1 := PR.c1
  have f0 := PR.f 0
  have f1 := PR.f 1
  clear hb2
  go_wp2_with fail
  exact bodyPost_ret (v := .tuple #[.agg #[.bool (true && decide (0 < n)), .slice A1 n c1], .bool true]) (by simp [results, Tryz.results93, go_sem, *]) rfl ⟨_, _, _, _, rfl, fin_z Z BB (by omega) (by omega) _ _⟩
end

end Go.Proofs.YtbhgbilhoonopaaGreat
namespace Go.Proofs.YtbhgbilhoonopaaGreat
open Go.RowKit
set_option linter.unusedVariables false
set_option maxRecDepth 100000

/-- A number as it comes; a right one; a right one of the call's own. -/
def IsM (w : World) (v : Value) (z : Int) (k : Nat) : Prop := ∃ b A n c, v = .agg #[.bool b, .slice A n c] ∧ Zm w b A n c z k
def IsT (w : World) (v : Value) (z : Int) (k : Nat) : Prop := ∃ b A n c, v = .agg #[.bool b, .slice A n c] ∧ Tm w A n c z.natAbs k ∧ b = decide (z < 0)
def IsZ (N : Nat) (w : World) (v : Value) (z : Int) (k : Nat) : Prop := ∃ b A n c, v = .agg #[.bool b, .slice A n c] ∧ Zt w N b A n c z k
def IsZE (N : Nat) (w : World) (v : Value) (z : Int) (k : Nat) (o : Int) : Prop := ∃ b A n c, v = .tuple #[.agg #[.bool b, .slice A n c], .int .i64 o] ∧ Zt w N b A n c z k
def IsZB (N : Nat) (w : World) (v : Value) (z : Int) (k : Nat) (o : Bool) : Prop := ∃ b A n c, v = .tuple #[.agg #[.bool b, .slice A n c], .bool o] ∧ Zt w N b A n c z k
def IsR2 (w : World) (v : Value) (z : Int) (k : Nat) (u : Int) (j : Nat) : Prop := ∃ g s A n c t B m d, v = .slice (some ⟨g, 0, none⟩) 2 2 ∧
 w.heap[g]? = some (.cells #[.bool s, .slice A n c, .bool t, .slice B m d] 24 (0, 0)) ∧ Zm w s A n c z k ∧ Zm w t B m d u j
def IsS (v : Value) (l : List Nat) : Prop := ∃ s, v = .string s ∧ M.bytes s = l

section
variable {w w' : World} {v v' : Value} {z u : Int} {k j N : Nat} {o : Int} {p : Bool}
theorem IsZ.t (h : IsZ N w v z k) : IsT w v z k := by
 obtain ⟨b, A, n, c, rfl, Z⟩ := h
 exact ⟨b, A, n, c, rfl, Z.tm, Z.neg⟩
theorem IsT.m (h : IsT w v z k) : IsM w v z k := by
 obtain ⟨b, A, n, c, rfl, T, hb⟩ := h
 refine ⟨b, A, n, c, rfl, ⟨⟨_, T.nm, ?_⟩⟩⟩
 rw [hb]
 by_cases hz : z < 0
 ·rw [decide_eq_true hz, zv_true]; omega
 ·rw [decide_eq_false hz, zv_false]; omega
theorem IsZ.m (h : IsZ N w v z k) : IsM w v z k := h.t.m
theorem IsM.below (h : IsM w v z k) (hb : Below w.heap.size w w') : IsM w' v z k := by
 obtain ⟨b, A, n, c, rfl, Z⟩ := h
 exact ⟨b, A, n, c, rfl, Z.below hb⟩
theorem IsT.below (h : IsT w v z k) (hb : Below w.heap.size w w') : IsT w' v z k := by
 obtain ⟨b, A, n, c, rfl, Z, e⟩ := h
 exact ⟨b, A, n, c, rfl, Z.below hb, e⟩
theorem IsZ.below (h : IsZ N w v z k) (hb : Below w.heap.size w w') : IsZ N w' v z k := by
 obtain ⟨b, A, n, c, rfl, Z⟩ := h
 exact ⟨b, A, n, c, rfl, Z.below hb⟩
theorem IsR2.below (h : IsR2 w v z k u j) (hb : Below w.heap.size w w') : IsR2 w' v z k u j := by
 obtain ⟨g, s, A, n, c, t, B, m, d, rfl, r, Z, Z'⟩ := h
 exact ⟨g, s, A, n, c, t, B, m, d, rfl, (hb.block g (Array.getElem?_eq_some_iff.1 r).1).trans r, Z.below hb, Z'.below hb⟩
theorem IsR2.new {s t : Bool} {A B : Option Addr} {n c m d : Nat} (h : Zm w s A n c z k) (h' : Zm w t B m d u j) : IsR2 (w.alloc (.cells #[.bool s, .slice A n c, .bool t, .slice B m d] 24)) (.slice (some ⟨w.heap.size, 0, none⟩) 2 2) z k u j := ⟨_, _, _, _, _, _, _, _, _, rfl, heap_alloc_new w _, h.alloc _, h'.alloc _⟩

theorem givZ_ans {e : Ending} (hN : N ≤ w.heap.size) (h : GivZ w z k e w') : Ans w (fun w' v => IsZ N w' v z k) e w' := by
 obtain ⟨b, A, n, c, rfl, Z, hb⟩ := h
 exact ⟨_, rfl, hb, b, A, n, c, rfl, Z.mono hN⟩
theorem givZE_ans {e : Ending} (hN : N ≤ w.heap.size) (h : GivZE w z k o e w') : Ans w (fun w' v => IsZE N w' v z k o) e w' := by
 obtain ⟨b, A, n, c, rfl, Z, hb⟩ := h
 exact ⟨_, rfl, hb, b, A, n, c, rfl, Z.mono hN⟩
theorem givZB_ans {e : Ending} (hN : N ≤ w.heap.size) (h : GivZB w z k p e w') : Ans w (fun w' v => IsZB N w' v z k p) e w' := by
 obtain ⟨b, A, n, c, rfl, Z, hb⟩ := h
 exact ⟨_, rfl, hb, b, A, n, c, rfl, Z.mono hN⟩

theorem cAdd2 (h : IsR2 w v z k u j) (hk : k ≤ 1000) (hj : j ≤ 1000) (hN : N ≤ w.heap.size) : Calls Tryz.prog 105 #[v] w (Ans w fun w' v => IsZ N w' v (z + u) (max k j + 1)) := by
 obtain ⟨g, s, A, n, c, t, B, m, d, rfl, r, Z, Z'⟩ := h
 have r' : (w.alloc (.cells #[.bool false, .slice none 0 0] 24)).heap[g]? = _ := ((bl_alloc w (.cells #[.bool false, .slice none 0 0] 24)).block g (Array.getElem?_eq_some_iff.1 r).1).trans r
 refine (add_of_fold (fold_plus2 (o := 0) (Z.alloc _) (Z'.alloc _) hk hj ?_ ?_ ?_ ?_ 2)).mono fun e w' r => givZ_ans hN r
 all_goals (rw [cell_of_row _ _ _ _ _ _ r']; rfl)
theorem cMul2 (h : IsR2 w v z k u j) (hk : k ≤ 1000) (hj : j ≤ 1000) (hm : min k j < 40) (hN : N ≤ w.heap.size) : Calls Tryz.prog 67 #[v] w (Ans w fun w' v => IsZ N w' v (z * u) (k + j)) := by
 obtain ⟨g, s, A, n, c, t, B, m, d, rfl, r, Z, Z'⟩ := h
 refine (mul_of_fold (z := z * u) (k := k + j) fun W b0 A0 n0 c0 hW hs hZ => ?_).mono fun e w' r => givZ_ans hN r
 have r' : W.heap[g]? = _ := (hW.block g (Array.getElem?_eq_some_iff.1 r).1).trans r
 refine (fold_times2 (o := 0) (Z.below hW) (Z'.below hW) hk hj hm ?_ ?_ ?_ ?_ 2).mono ?_
 ·rw [cell_of_row _ _ _ _ _ _ r']; rfl
 ·rw [cell_of_row _ _ _ _ _ _ r']; rfl
 ·rw [cell_of_row _ _ _ _ _ _ r']; rfl
 ·rw [cell_of_row _ _ _ _ _ _ r']; rfl
 ·rintro e w' ⟨b, A, n, c, rfl, Z, hb⟩
  exact ⟨b, A, n, c, rfl, Z.mono hs, hb⟩
theorem cNeg (h : IsM w v z k) (hk : k ≤ 1000) (hN : N ≤ w.heap.size) : Calls Tryz.prog 59 #[v] w (Ans w fun w' v => IsZ N w' v (-z) k) := by
 obtain ⟨b, A, n, c, rfl, Z⟩ := h
 exact (negZ Z hk).mono fun e w' r => givZ_ans hN r
theorem cFrom (x : Int) (h0 : -9223372036854775808 ≤ x) (h1 : x < 9223372036854775808) (hN : N ≤ w.heap.size) : Calls Tryz.prog 91 #[.int .i64 x] w (Ans w fun w' v => IsZ N w' v x 2) := (fromZ x w h0 h1).mono fun e w' r => givZ_ans hN r
theorem cSign {q : Int} (h : IsM w v z k) (hk : k ≤ 1000) (hq : sgn z = q) : Calls Tryz.prog 72 #[v] w (Ans w fun _ v => v = .int .i64 q) := by
 obtain ⟨b, A, n, c, rfl, Z⟩ := h
 exact (signZ' Z hk hq).mono fun e w' r => ⟨_, r.1, r.2, rfl⟩
theorem cCmp {q : Int} (h : IsM w v z k) (g : IsM w v' u j) (hk : k ≤ 1000) (hj : j ≤ 1000) (hq : cmpI z u = q) : Calls Tryz.prog 71 #[v, v'] w (Ans w fun _ v => v = .int .i64 q) := by
 obtain ⟨b, A, n, c, rfl, Z⟩ := h
 obtain ⟨b', A', n', c', rfl, Z'⟩ := g
 rw [← hq]
 exact (cmpZ Z Z' hk hj).mono fun e w' r => ⟨_, r.1, r.2, rfl⟩
theorem cDiv (h : IsM w v z k) (g : IsM w v' u j) (hk : k ≤ 1000) (hj : j ≤ 1000) (hu : u ≠ 0) (hN : N ≤ w.heap.size) : Calls Tryz.prog 76 #[v, v'] w (Ans w fun w' v => IsZE N w' v (dq z u) (k + 1) 0) := by
 obtain ⟨b, A, n, c, rfl, Z⟩ := h
 obtain ⟨b', A', n', c', rfl, Z'⟩ := g
 exact (divZ Z Z' hk hj hu).mono fun e w' r => givZE_ans hN r
theorem cText (h : IsM w v z k) (hk : k ≤ 1000) : Calls Tryz.prog 84 #[v] w (Ans w fun _ v => IsS v (txtZ z)) := by
 obtain ⟨b, A, n, c, rfl, Z⟩ := h
 refine (textZ Z hk).mono ?_
 rintro e w' ⟨s, rfl, hs, hb⟩
 exact ⟨_, rfl, hb, s, rfl, hs⟩
theorem cParse_no (s : ByteArray) (hs : s.size ≤ 1048576) (h : ¬ isZ s) (hN : N ≤ w.heap.size) : Calls Tryz.prog 93 #[.string s] w (Ans w fun w' v => IsZB N w' v 0 0 false) := (parseZ_no s w hs h).mono fun e w' r => givZB_ans hN r
theorem cParse (s : ByteArray) (hs : s.size ≤ 1048576) (h : isZ s) (hv : (valZ s).natAbs < M.R ^ k) (hN : N ≤ w.heap.size) : Calls Tryz.prog 93 #[.string s] w (Ans w fun w' v => IsZB N w' v (valZ s) k true) := (parseZ_yes s w hs h hv).mono fun e w' r => givZB_ans hN r
theorem cOf (s : Bool) {A : Option Addr} {n c x : Nat} (h : Nm w A n c x k) (hk : k ≤ 1000) (hN : N ≤ w.heap.size) : Calls Tryz.prog 89 #[.bool s, .slice A n c] w (Ans w fun w' v => IsZ N w' v (zv s x) k) := (ofZ s h hk).mono fun e w' r => givZ_ans hN r

end

end Go.Proofs.YtbhgbilhoonopaaGreat

/- litmusref02.Same, litmuslaw02.same, is, few, limbs. -/
namespace Go.Proofs.YtbhgbilhoonopaaGreat
open Go.RowKit
set_option linter.unusedVariables false
set_option maxRecDepth 100000

section
variable {w w' : World} {v v' : Value} {z u : Int} {k j N : Nat}
set_option maxHeartbeats 1000000

end

end Go.Proofs.YtbhgbilhoonopaaGreat
