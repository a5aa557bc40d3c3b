/- nat.guessTimes: the quotient of three limbs by two, at most 2^32 - 1. -/
import Derived.Test.YtbcceopgmkmbfaaWTake
namespace Go.Proofs.Ytbcceopgmkmbfaa
open Go.RowKit
set_option linter.unusedVariables false

def GuessP (w : World) (t3 b2 : Nat) (e : Ending) (w' : World) : Prop := ∃ (g k : Nat), e = .returned (.int .u32 (g : Int)) ∧ M.Guess t3 b2 g ∧ w' = w.drewN k

theorem drewN_drewN (w : World) (a b : Nat) : (w.drewN a).drewN b = w.drewN (a + b) := by
  simp [World.drewN, Nat.add_assoc]

theorem drew_tr {w wr : World} {a b : Nat} (h : wr = w.drewN a) : wr.drewN b = w.drewN (a + b) := by rw [h, drewN_drewN]

theorem guess_or (r0 left : Nat) (h1 : r0 < 4294967296) (h2 : left < 4294967296) : bits .or .u64 ((left : Int) * 4294967296) (r0 : Int) = ((left * 4294967296 + r0 : Nat) : Int) := by
  rw [or_hi_lo r0 left h1 h2, Nat.mul_comm]

set_option maxHeartbeats 4000000 in
theorem guess_any (b o ca b' o' cb r0 r1 r2 b0 b1 : Nat) (w : World) (c0 : w.cell? ⟨b, o, none⟩ = some (.int .u32 (r0 : Int))) (c1 : w.cell? ⟨b, o + 1, none⟩ = some (.int .u32 (r1 : Int))) (c2 : w.cell? ⟨b, o + 2, none⟩ = some (.int .u32 (r2 : Int)))
    (d0 : w.cell? ⟨b', o', none⟩ = some (.int .u32 (b0 : Int))) (d1 : w.cell? ⟨b', o' + 1, none⟩ = some (.int .u32 (b1 : Int))) (h0 : r0 < 4294967296) (h1 : r1 < 4294967296) (h2 : r2 ≤ b1) (g0 : b0 < 4294967296) (g1 : b1 < 4294967296) (g2 : 2147483648 ≤ b1) :
    Calls Try.prog 73 #[.slice (some ⟨b, o, none⟩) 3 ca, .slice (some ⟨b', o', none⟩) 2 cb] w (GuessP w ((r2 * M.R + r1) * M.R + r0) (b1 * M.R + b0)) := by
  obtain ⟨top, htop⟩ : ∃ top, top = r2 * 4294967296 + r1 := ⟨_, rfl⟩
  have hor := guess_or r1 r2 h1 (by omega)
  rw [← htop] at hor
  have htl : top < 18446744073709551616 := by omega
  obtain ⟨q, hq⟩ : ∃ q : Nat, q = top / b1 := ⟨_, rfl⟩
  obtain ⟨r, hr⟩ : ∃ r : Nat, r = top % b1 := ⟨_, rfl⟩
  have hq2 : (top : Int) / (b1 : Int) = q := by rw [hq]; simp
  have hr2 : (top : Int) % (b1 : Int) = r := by rw [hr]; simp
  have hrl : r < b1 := by rw [hr]; exact Nat.mod_lt _ (by omega)
  have hql : q ≤ 4294967297 := by rw [hq, htop]; exact M.guess_start g2 h2 (by rw [M.R_eq]; exact h1)
  have hstart := M.Better.start (b0 := b0) (b1 := b1) (r0 := r0) (top := top) (by omega) (by rw [M.R_eq]; exact h0)
  rw [← hq, ← hr] at hstart
  have ht3 : (r2 * M.R + r1) * M.R + r0 = top * M.R + r0 := by rw [htop, M.R_eq]
  rw [ht3]
  have htop2 : top * M.R + r0 < (b1 * M.R + M.R) * M.R := by rw [M.R_eq]; omega
  have HS := Lib.hid hstart
  have HT := Lib.hid htop2
  have hb1p : 1 ≤ b1 := by omega
  clear hstart htop2 ht3 htop hq hr
  go_enter Try.func73, Try.ntmps73
  go_wp2
  go_quiet (fail)
  go_wp2
  go_quiet (fail)
  go_wp2
  go_loopw [6, 7] (fun gq lq wr => ∃ g left j : Nat, gq = .int .u64 g ∧ lq = .int .u64 left ∧ M.Better (top * M.R + r0) b0 b1 r0 g left ∧ g ≤ 4294967297 ∧ left < 8589934592 ∧ wr = w.drewN j) (fun gq _ _ => (intOf gq).toNat)
  case atStart =>
    refine ⟨q, r, _, by first | rfl | exact congrArg (Value.int .u64) hq2 | (rw [hq2]), by first | rfl | exact congrArg (Value.int .u64) hr2 | (rw [hr2]), HS.out, hql, by omega, drewN_drewN _ _ _⟩
  case round =>
    obtain ⟨g, left, j, rfl, rfl, hbet, hgl, hleft, hwr⟩ := hrel
    have c0' : wr.cell? ⟨b, o, none⟩ = some (.int .u32 (r0 : Int)) := by rw [hwr]; exact c0
    have d0' : wr.cell? ⟨b', o', none⟩ = some (.int .u32 (b0 : Int)) := by rw [hwr]; exact d0
    have d1' : wr.cell? ⟨b', o' + 1, none⟩ = some (.int .u32 (b1 : Int)) := by rw [hwr]; exact d1
    have HW := Lib.hid hwr
    have HBE := Lib.hid hbet
    clear hwr hbet c0 c1 c2 d0 d1 HS
    obtain ⟨p, hp⟩ : ∃ p, p = g * b0 := ⟨_, rfl⟩
    have hpl : p ≤ 18446744073709551615 := by
      rw [hp]
      have : g * b0 ≤ 4294967297 * 4294967295 := Nat.mul_le_mul hgl (by omega)
      omega
    have hp2 : (g : Int) * (b0 : Int) = (p : Int) := by rw [hp]; simp
    have HP := Lib.hid hp
    clear hp
    by_cases hl : left < 4294967296
    · have l1 : decide ((left : Int) ≤ 4294967295) = true := by simp; omega
      have hor2 := guess_or r0 left h0 hl
      obtain ⟨lo, hlo⟩ : ∃ lo, lo = left * 4294967296 + r0 := ⟨_, rfl⟩
      rw [← hlo] at hor2
      have HLO := Lib.hid hlo
      clear hlo
      by_cases hg : 4294967295 < g
      · have l2 : decide ((4294967295 : Int) < (g : Int)) = true := by simp; omega
        have HST := Lib.hid (HBE.out.step (by omega) (.inl (by rw [M.R_eq]; omega)))
        go_wp2
        go_quiet (fail)
        go_wp2
        go_roundw
        case rel =>
          refine ⟨g - 1, left + b1, _, by go_num, by go_num, HST.out, by omega, by omega, drew_tr HW.out⟩
        case measure => simp [intOf]; omega
      · have l2 : decide ((4294967295 : Int) < (g : Int)) = false := by simp; omega
        by_cases hc : lo < p
        · have l3 : decide ((lo : Int) < (p : Int)) = true := by simp; omega
          have hg1 : 1 ≤ g := by
            rcases Nat.eq_zero_or_pos g with h | h
            · have := HP.out
              rw [h, Nat.zero_mul] at this
              omega
            · exact h
          have HST := Lib.hid (HBE.out.step hg1 (.inr (HBE.out.test.1 (by rw [M.R_eq, ← HP.out, ← HLO.out]; exact hc))))
          go_wp2
          go_quiet (fail)
          go_wp2
          go_roundw
          case rel =>
            refine ⟨g - 1, left + b1, _, by go_num, by go_num, HST.out, by omega, by omega, drew_tr HW.out⟩
          case measure => simp [intOf]; omega
        · have l3 : decide ((lo : Int) < (p : Int)) = false := by simp; omega
          have HST := Lib.hid (HBE.out.done (by rw [M.R_eq]; exact g0) (by rw [M.R_eq]; exact h0) (by omega) HT.out (.inr ⟨by rw [M.R_eq]; omega, fun hcc => by have := HBE.out.test.2 hcc; rw [M.R_eq, ← HP.out, ← HLO.out] at this; exact hc this⟩))
          go_wp2
          go_quiet (fail)
          go_wp2
          go_ret
          refine ⟨g, _, ret_int (by omega), HST.out, drew_tr HW.out⟩
    · have l1 : decide ((left : Int) ≤ 4294967295) = false := by simp; omega
      have HST := Lib.hid (HBE.out.done (by rw [M.R_eq]; exact g0) (by rw [M.R_eq]; exact h0) (by omega) HT.out (.inl (by rw [M.R_eq]; omega)))
      have hgR := HST.out.1
      rw [M.R_eq] at hgR
      go_wp2
      go_quiet (fail)
      go_wp2
      go_ret
      refine ⟨g, _, ret_int (by omega), HST.out, drew_tr HW.out⟩

end Go.Proofs.Ytbcceopgmkmbfaa
