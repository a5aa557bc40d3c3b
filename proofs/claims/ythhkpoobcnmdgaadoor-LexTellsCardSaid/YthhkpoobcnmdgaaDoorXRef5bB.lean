import Derived.Test.YthhkpoobcnmdgaaDoorBZ1
import Derived.Test.YthhkpoobcnmdgaaDoorXRef5B
/-
  litmusref05: signs.
-/
namespace Go.Proofs.YthhkpoobcnmdgaaDoor
open Go.RowKit
set_option linter.unusedVariables false

theorem by_ext (s : ByteArray) (k i : Nat) (hk : k ≤ s.size) : by_ (s.extract k s.size) i = by_ s (k + i) := by
  have hx : (s.extract k s.size).size = s.size - k := by rw [ByteArray.size_extract]; omega
  by_cases h : k + i < s.size
  · rw [by_at (by omega), by_at h]
    congr 2
    rw [ByteArray.getElem_extract]
  · rw [by_out (by omega), by_out (by omega)]
theorem two_at {s : ByteArray} {k : Nat} (h : k + 2 ≤ s.size) (a b : UInt8) : ((s.extract k (k + 2)).toList == [a, b]) = (decide (by_ s k = a.toNat) && decide (by_ s (k + 1) = b.toNat)) := by
  have hx : (s.extract k s.size).size = s.size - k := by rw [ByteArray.size_extract]; omega
  have h2 := two_eq (s := s.extract k s.size) (by omega) a b
  rw [by_ext s k 0 (by omega), by_ext s k 1 (by omega), Nat.add_zero] at h2
  rw [← h2, toList_bytes, toList_bytes, M.bytes_extract, M.bytes_extract, M.bytes_extract]
  congr 1
  rw [List.drop_zero, List.take_take]
  congr 1
  omega
set_option maxHeartbeats 2000000 in
theorem signR_c (s : ByteArray) (k : Nat) (w : World) (hs : s.size ≤ 1048576) (hk : k < s.size) : Calls Tryd.prog 41 #[.string s, .int .i64 k] w fun e w' => e = .returned (.int .i64 (signN (s.extract k s.size))) ∧ w = w' := by
  have hx : (s.extract k s.size).size = s.size - k := by rw [ByteArray.size_extract]; omega
  have hb := by_at hk
  have h1 : (if by_ s k = 43 ∨ by_ s k = 45 ∨ by_ s k = 42 ∨ by_ s k = 60 ∨ by_ s k = 61 then 1 else 0 : Nat) =
      (if inG ⟨#[43, 45, 42, 60, 61]⟩ ((s[k].toNat : Nat) : Int) 0 = true then 1 else 0 : Nat) := by
    rw [hb, in_signs, beq_turn 43, beq_turn 45, beq_turn 42, beq_turn 60, beq_turn 61]
    simp only [Bool.or_eq_true, beq_iff_eq, Bool.or_false]
  by_cases h2 : k + 2 ≤ s.size
  · have hr : signN (s.extract k s.size) = if ((s.extract k (k + 2)).toList == [60, 61] || (s.extract k (k + 2)).toList == [61, 61] || (s.extract k (k + 2)).toList == [45, 62]) = true then 2 else
        (if inG ⟨#[43, 45, 42, 60, 61]⟩ ((s[k].toNat : Nat) : Int) 0 = true then 1 else 0) := by
      unfold signN
      rw [by_ext s k 0 (by omega), by_ext s k 1 (by omega), Nat.add_zero, h1, two_at h2 60 61, two_at h2 61 61, two_at h2 45 62]
      simp only [Bool.or_eq_true, Bool.and_eq_true, decide_eq_true_eq, show 2 ≤ (s.extract k s.size).size from by omega, true_and, or_assoc]
      rfl
    have HR := Lib.hid hr
    clear hr h1 hb hx
    go_enter Tryd.func41, Tryd.ntmps41
    go_wp2_with (go_at_call 22; refine (inR_c _ _ _ (by decide)).mono ?_; rintro _ _ ⟨rfl, rfl⟩)
    all_goals
      go_ret
      rw [HR.out]
      refine ⟨?_, rfl⟩
      first | rfl | (simp [*]; done) | (simp_all; done)
  · have hr : signN (s.extract k s.size) = (if inG ⟨#[43, 45, 42, 60, 61]⟩ ((s[k].toNat : Nat) : Int) 0 = true then 1 else 0) := by
      unfold signN
      rw [by_ext s k 0 (by omega), Nat.add_zero, h1, if_neg (fun h => by omega)]
    have HR := Lib.hid hr
    clear hr h1 hb hx
    go_enter Tryd.func41, Tryd.ntmps41
    go_wp2_with (go_at_call 22; refine (inR_c _ _ _ (by decide)).mono ?_; rintro _ _ ⟨rfl, rfl⟩)
    all_goals
      go_ret
      rw [HR.out]
      refine ⟨?_, rfl⟩
      first | rfl | (simp [*]; done) | (simp_all; done)
end Go.Proofs.YthhkpoobcnmdgaaDoor
