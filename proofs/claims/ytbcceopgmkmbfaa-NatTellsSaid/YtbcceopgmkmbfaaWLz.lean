/- math/bits.Len32 and LeadingZeros32 of a number that is not 0. -/
import Derived.Test.YtbcceopgmkmbfaaBase
namespace Go.Proofs.Ytbcceopgmkmbfaa
open Go.RowKit
set_option linter.unusedVariables false

/-- 2^(T-1) ≤ z < 2^T. -/
def IsLen (z T : Nat) : Prop := 1 ≤ T ∧ 2 ^ (T - 1) ≤ z ∧ z < 2 ^ T

theorem IsLen.up {x T s : Nat} (h : IsLen (x / 2 ^ s) T) : IsLen x (s + T) := by
  obtain ⟨h1, h2, h3⟩ := h
  have hs : 0 < 2 ^ s := Nat.pow_pos (by omega)
  refine ⟨by omega, ?_, ?_⟩
  · rw [show s + T - 1 = (T - 1) + s by omega, Nat.pow_add]
    exact (Nat.le_div_iff_mul_le hs).1 h2
  · rw [show s + T = T + s by omega, Nat.pow_add]
    exact (Nat.div_lt_iff_lt_mul hs).1 h3

set_option maxRecDepth 100000 in
set_option maxHeartbeats 4000000 in
theorem len32_any (x : Nat) (w : World) (hx : 0 < x) (hx' : x < 4294967296) : Calls Try.prog 72 #[.int .u32 (x : Int)] w fun e w' => ∃ T : Nat, e = .returned (.int .i64 (T : Int)) ∧ IsLen x T ∧ w = w' := by
  go_enter Try.func72, Try.ntmps72
  generalize hT : ByteArray.mk _ = tab
  have hsz : tab.size = 256 := by subst hT; decide +kernel
  have key : ∀ z : Fin 256, 0 < z.val → 1 ≤ (tab.data.toList.getD z.val 0).toNat ∧ 2 ^ ((tab.data.toList.getD z.val 0).toNat - 1) ≤ z.val ∧ z.val < 2 ^ (tab.data.toList.getD z.val 0).toNat ∧ (tab.data.toList.getD z.val 0).toNat ≤ 8 := by
    subst hT
    decide +kernel
  have hlook : ∀ z, 0 < z → (h : z < tab.size) → IsLen z tab[z].toNat ∧ tab[z].toNat ≤ 8 := by
    intro z hz h
    have e : tab[z] = tab.data.toList.getD z 0 := by
      have hd : z < tab.data.size := h
      have e2 : tab.data.toList.getD z 0 = tab.data[z] := by
        rw [List.getD_eq_getElem?_getD, Array.getElem?_toList, Array.getElem?_eq_getElem hd]
        rfl
      exact e2.symm
    obtain ⟨a1, a2, a3, a4⟩ := key ⟨z, by omega⟩ hz
    have e' := congrArg UInt8.toNat e
    generalize tab[z].toNat = T at e' ⊢
    subst e'
    exact ⟨⟨a1, a2, a3⟩, a4⟩
  clear hT key
  have HL := Lib.hid hlook
  clear hlook
  have fin : ∀ (z s : Nat) (hz : z < tab.size), 0 < z → z = x / 2 ^ s → s ≤ 24 → ∃ T : Nat, T ≤ 8 ∧ tab[z].toNat = T ∧ IsLen x (s + T) := by
    intro z s hz h0 hzx hs
    obtain ⟨a, b⟩ := HL.out z h0 hz
    subst hzx
    exact ⟨_, b, rfl, a.up⟩
  have FI := Lib.hid fin
  clear fin HL
  by_cases h1 : (65536 : Int) ≤ x
  · by_cases h2 : (256 : Int) ≤ (x : Int) / 65536
    · obtain ⟨T, hT8, hT, hl⟩ := FI.out (x / 65536 / 256) 24 (by omega) (by omega) (by rw [Nat.div_div_eq_div_mul]) (by omega)
      go_wp2
      go_ret
      exact ⟨24 + T, ret_int (by omega), hl, rfl⟩
    · obtain ⟨T, hT8, hT, hl⟩ := FI.out (x / 65536) 16 (by omega) (by omega) rfl (by omega)
      go_wp2
      go_ret
      exact ⟨16 + T, ret_int (by omega), hl, rfl⟩
  · by_cases h2 : (256 : Int) ≤ (x : Int)
    · obtain ⟨T, hT8, hT, hl⟩ := FI.out (x / 256) 8 (by omega) (by omega) rfl (by omega)
      go_wp2
      go_ret
      exact ⟨8 + T, ret_int (by omega), hl, rfl⟩
    · obtain ⟨T, hT8, hT, hl⟩ := FI.out x 0 (by omega) (by omega) (by simp) (by omega)
      rw [Nat.zero_add] at hl
      go_wp2
      go_ret
      exact ⟨T, ret_int (by omega), hl, rfl⟩

/-- How far it must be moved till its highest bit is set. -/
def IsLead (x k : Nat) : Prop := k < 32 ∧ 2147483648 ≤ x * 2 ^ k ∧ x * 2 ^ k < 4294967296

theorem IsLen.lead {x T : Nat} (h : IsLen x T) (hx : x < 4294967296) : T ≤ 32 ∧ IsLead x (32 - T) := by
  obtain ⟨h1, h2, h3⟩ := h
  have hT : T ≤ 32 := by
    refine Nat.le_of_not_lt fun hc => ?_
    have : 2 ^ 32 ≤ 2 ^ (T - 1) := Nat.pow_le_pow_right (by omega) (by omega)
    omega
  refine ⟨hT, by omega, ?_, ?_⟩
  · have : 2 ^ (T - 1) * 2 ^ (32 - T) ≤ x * 2 ^ (32 - T) := Nat.mul_le_mul_right _ h2
    rw [← Nat.pow_add, show T - 1 + (32 - T) = 31 by omega] at this
    exact this
  · have : x * 2 ^ (32 - T) < 2 ^ T * 2 ^ (32 - T) := Nat.mul_lt_mul_of_pos_right h3 (Nat.pow_pos (by omega))
    rw [← Nat.pow_add, show T + (32 - T) = 32 by omega] at this
    exact this

theorem lz32_any (x : Nat) (w : World) (hx : 0 < x) (hx' : x < 4294967296) : Calls Try.prog 66 #[.int .u32 (x : Int)] w fun e w' => ∃ k : Nat, e = .returned (.int .i64 (k : Int)) ∧ IsLead x k ∧ w = w' := by
  go_enter Try.func66, Try.ntmps66
  go_wp2_with fail
  refine (len32_any x w hx hx').mono ?_
  rintro e w' ⟨T, rfl, hl, rfl⟩
  obtain ⟨hT, hld⟩ := hl.lead hx'
  have HL := Lib.hid hld
  clear hl hld
  go_wp2
  go_ret
  exact ⟨32 - T, ret_int (by omega), HL.out, rfl⟩

end Go.Proofs.Ytbcceopgmkmbfaa
