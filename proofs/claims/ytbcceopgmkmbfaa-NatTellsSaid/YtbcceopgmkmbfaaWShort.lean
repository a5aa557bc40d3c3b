/- nat.short cuts the noughts at a row's high end; nat.limb is a limb, or 0 beyond the row: for every slice of limbs. -/
import Derived.Test.YtbcceopgmkmbfaaBase
namespace Go.Proofs.Ytbcceopgmkmbfaa
open Go.RowKit
set_option linter.unusedVariables false

set_option maxHeartbeats 400000 in
theorem short_any (A : Option Addr) (n c : Nat) (xs : List Nat) (w : World) (h : Rd w A n c xs) (hm : n ≤ 4194304) :
    Calls Try.prog 41 #[.slice A n c] w fun e w' => e = .returned (.slice A (M.tr xs).length c) ∧ w = w' := by
  have hc := h.cap
  have H := Lib.hid h
  clear h
  go_enter Try.func41, Try.ntmps41
  go_wp2
  go_loop [3] (fun i => ∃ k : Nat, k ≤ n ∧ i = .int .i64 k ∧ M.tr (xs.take k) = M.tr xs) (fun i => (intOf i).toNat)
  case atStart => exact ⟨n, Nat.le_refl _, rfl, by rw [List.take_of_length_le (by rw [H.out.len]; exact Nat.le_refl _)]⟩
  case round =>
    obtain ⟨k, hk, rfl, ht⟩ := hrel
    have HT := Lib.hid ht
    clear ht
    by_cases h0 : k = 0
    · subst h0
      go_wp2
      go_ret
      exact ⟨by rw [← HT.out]; rfl, rfl⟩
    · obtain ⟨b, o, x, hA, hx, hxl, hcell⟩ := H.out.at32 (show k - 1 < n by omega)
      subst hA
      have hk1 : 0 < k := by omega
      have HX := Lib.hid hx
      clear hx
      by_cases hx0 : x = 0
      · subst hx0
        go_wp2
        go_round
        case rel => exact ⟨k - 1, by omega, by go_num, by rw [← HT.out, show k = k - 1 + 1 by omega, M.tr_take_succ HX.out, M.tr_snoc_zero]; simp⟩
        case measure => simp [intOf]; omega
      · have hl : (M.tr xs).length = k := by
          rw [← HT.out, show k = k - 1 + 1 by omega, M.tr_take_succ HX.out, M.tr_snoc_pos _ hx0, ← M.tr_take_succ HX.out, List.length_take, H.out.len]
          omega
        have HL := Lib.hid hl
        clear hl
        go_wp2
        go_ret
        exact ⟨ret_slice HL.out.symm, rfl⟩

set_option maxHeartbeats 400000 in
theorem limb_any (A : Option Addr) (n c : Nat) (xs : List Nat) (i : Int) (w : World) (h : Rd w A n c xs) (hm : n ≤ 4194304) (h0 : 0 ≤ i) :
    Calls Try.prog 62 #[.slice A n c, .int .i64 i] w fun e w' => e = .returned (.int .u32 (M.limbAt xs i.toNat : Nat)) ∧ w = w' := by
  obtain ⟨k, rfl⟩ := Int.eq_ofNat_of_zero_le h0
  rw [Int.toNat_natCast]
  have H := Lib.hid h
  clear h
  by_cases hk : k < n
  · obtain ⟨b, o, x, hA, hx, hxl, hcell⟩ := H.out.at32 hk
    subst hA
    rw [M.limbAt_some hx]
    clear hx H
    go_enter Try.func62, Try.ntmps62
    go_wp2
    go_ret
    exact ⟨rfl, rfl⟩
  · rw [M.limbAt_none (by rw [H.out.len]; omega)]
    clear H
    go_enter Try.func62, Try.ntmps62
    go_wp2
    go_ret
    exact ⟨rfl, rfl⟩

end Go.Proofs.Ytbcceopgmkmbfaa
