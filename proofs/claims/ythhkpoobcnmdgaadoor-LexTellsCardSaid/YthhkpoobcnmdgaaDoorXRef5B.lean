import Derived.Test.YthhkpoobcnmdgaaDoorBZ1
/-
  litmusref05: digits to the base 16, bytes of a text, what ends a token.
-/
namespace Go.Proofs.YthhkpoobcnmdgaaDoor
open Go.RowKit
set_option linter.unusedVariables false

theorem hexR_c (b : Int) (w : World) (h0 : 0 ≤ b) (h1 : b < 256) : Calls Tryd.prog 57 #[.int .u8 b] w fun e w' => e = .returned (.int .i64 (hexV b)) ∧ w = w' := by
  cases hd : digB b with
  | true =>
    have hb : 48 ≤ b ∧ b ≤ 57 := by simpa [digB] using hd
    have HR := Lib.hid (show hexV b = b - 48 by unfold hexV; rw [if_pos hd])
    obtain ⟨hb1, hb2⟩ := hb
    go_enter Tryd.func57, Tryd.ntmps57
    go_wp2_with (go_at_call 36; refine (digitR_c _ _).mono ?_; rintro _ _ ⟨rfl, rfl⟩)
    go_ret
    rw [HR.out]
    exact ⟨by go_num, rfl⟩
  | false =>
    by_cases hx : 97 ≤ b ∧ b ≤ 102
    · have HR := Lib.hid (show hexV b = b - 87 by unfold hexV; rw [if_neg (by rw [hd]; decide), if_pos hx])
      obtain ⟨hb1, hb2⟩ := hx
      go_enter Tryd.func57, Tryd.ntmps57
      go_wp2_with (go_at_call 36; refine (digitR_c _ _).mono ?_; rintro _ _ ⟨rfl, rfl⟩)
      go_ret
      rw [HR.out]
      exact ⟨by go_num, rfl⟩
    · have HR := Lib.hid (show hexV b = -1 by unfold hexV; rw [if_neg (by rw [hd]; decide), if_neg hx])
      have hx2 : (decide (97 ≤ b) && decide (b ≤ 102)) = false := by
        rw [Bool.and_eq_false_iff, decide_eq_false_iff_not, decide_eq_false_iff_not]
        omega
      go_enter Tryd.func57, Tryd.ntmps57
      go_wp2_with (go_at_call 36; refine (digitR_c _ _).mono ?_; rintro _ _ ⟨rfl, rfl⟩)
      all_goals
        first
          | (exfalso; omega)
          | (go_ret; rw [HR.out]; exact ⟨rfl, rfl⟩)

/-- Is a byte one of a text, from k on? -/
def inG (s : ByteArray) (b : Int) (k : Nat) : Bool := if h : k < s.size then (by_ s k == b || inG s b (k + 1)) else false
termination_by s.size - k
theorem inG_end {s : ByteArray} {b : Int} {k : Nat} (h : ¬ k < s.size) : inG s b k = false := by rw [inG, dif_neg h]
theorem inG_more {s : ByteArray} {b : Int} {k : Nat} (h : k < s.size) : inG s b k = (by_ s k == b || inG s b (k + 1)) := by rw [inG, dif_pos h]
set_option maxHeartbeats 2000000 in
theorem inR_c (s : ByteArray) (b : Int) (w : World) (hs : s.size ≤ 1048576) : Calls Tryd.prog 22 #[.string s, .int .u8 b] w fun e w' => e = .returned (.bool (inG s b 0)) ∧ w = w' := by
  go_enter Tryd.func22, Tryd.ntmps22
  go_wp2
  go_loop [5] (fun i => ∃ k : Nat, k ≤ s.size ∧ i = .int .i64 k ∧ inG s b 0 = inG s b k) (fun i => s.size - (intOf i).toNat)
  case atStart => exact ⟨0, Nat.zero_le _, rfl, rfl⟩
  case round =>
    obtain ⟨k, hk, rfl, hd⟩ := hrel
    have HD := Lib.hid hd
    clear hd
    by_cases hkn : k < s.size
    · have hx := by_at hkn
      cases q : (((s[k].toNat : Nat) : Int) == b) with
      | true =>
        have HR := Lib.hid (show inG s b 0 = true by rw [HD.out, inG_more hkn, hx, q]; rfl)
        clear hx
        go_wp2
        go_returns
        rw [HR.out]
        exact ⟨rfl, rfl⟩
      | false =>
        have HN := Lib.hid (show inG s b 0 = inG s b (k + 1) by rw [HD.out, inG_more hkn, hx, q]; rfl)
        clear hx
        go_wp2
        go_round
        case rel => exact ⟨k + 1, by omega, by go_num, HN.out⟩
        case measure => simp [intOf]; omega
    · have HR := Lib.hid (show inG s b 0 = false by rw [HD.out, inG_end hkn])
      go_wp2
      go_returns
      rw [HR.out]
      exact ⟨rfl, rfl⟩
theorem in_seps (b : Int) : inG ⟨#[32, 9, 10, 13, 40, 41, 59]⟩ b 0 = ((32 : Int) == b || ((9 : Int) == b || ((10 : Int) == b || ((13 : Int) == b || ((40 : Int) == b || ((41 : Int) == b || ((59 : Int) == b || false))))))) := by
  rw [inG_more (by decide), inG_more (by decide), inG_more (by decide), inG_more (by decide), inG_more (by decide), inG_more (by decide), inG_more (by decide), inG_end (by decide)]
  rfl
theorem in_signs (b : Int) : inG ⟨#[43, 45, 42, 60, 61]⟩ b 0 = ((43 : Int) == b || ((45 : Int) == b || ((42 : Int) == b || ((60 : Int) == b || ((61 : Int) == b || false))))) := by
  rw [inG_more (by decide), inG_more (by decide), inG_more (by decide), inG_more (by decide), inG_more (by decide), inG_end (by decide)]
  rfl
theorem in_blanks (b : Int) : inG ⟨#[32, 9, 10, 13]⟩ b 0 = ((32 : Int) == b || ((9 : Int) == b || ((10 : Int) == b || ((13 : Int) == b || false)))) := by
  rw [inG_more (by decide), inG_more (by decide), inG_more (by decide), inG_more (by decide), inG_end (by decide)]
  rfl
theorem beq_turn (a b : Int) : (a == b) = (b == a) := by
  rw [Bool.eq_iff_iff, beq_iff_eq, beq_iff_eq]
  exact eq_comm
theorem in_blanks' (b : Int) : inG ⟨#[32, 9, 10, 13]⟩ b 0 = blB b := by
  rw [in_blanks, Bool.or_false, beq_turn 32, beq_turn 9, beq_turn 10, beq_turn 13, blB, Bool.or_assoc, Bool.or_assoc]
/-- Does what stands at k end a token? -/
def partR (s : ByteArray) (k : Nat) : Bool := decide (s.size ≤ k) || inG ⟨#[32, 9, 10, 13, 40, 41, 59]⟩ (by_ s k) 0
set_option maxHeartbeats 2000000 in
theorem partedR_c (s : ByteArray) (k : Nat) (w : World) (hs : s.size ≤ 1048576) (hk : k ≤ s.size) : Calls Tryd.prog 42 #[.string s, .int .i64 k] w fun e w' => e = .returned (.bool (partR s k)) ∧ w = w' := by
  by_cases hkn : k < s.size
  · have hx := by_at hkn
    have HR := Lib.hid (show partR s k = (decide (s.size ≤ k) || inG ⟨#[32, 9, 10, 13, 40, 41, 59]⟩ ((s[k].toNat : Nat) : Int) 0) by unfold partR; rw [hx])
    clear hx
    go_enter Tryd.func42, Tryd.ntmps42
    go_wp2_with (go_at_call 22; refine (inR_c _ _ _ (by decide)).mono ?_; rintro _ _ ⟨rfl, rfl⟩)
    go_returns
    rw [HR.out]
    exact ⟨rfl, rfl⟩
  · have HR := Lib.hid (show partR s k = true by unfold partR; rw [decide_eq_true (by omega)]; rfl)
    go_enter Tryd.func42, Tryd.ntmps42
    go_wp2
    go_returns
    rw [HR.out]
    exact ⟨rfl, rfl⟩
/-- The same in the program's words. -/
theorem part_eq (kind : Int) (s : ByteArray) (k : Nat) (hk : k ≤ s.size) : partB kind (s.extract k s.size) = (kind == 0 || kind == 1 || partR s k) := by
  have hx : (s.extract k s.size).size = s.size - k := by rw [ByteArray.size_extract]; omega
  by_cases hkn : k < s.size
  · have hb : by_ (s.extract k s.size) 0 = by_ s k := by
      rw [by_at (by omega), by_at hkn]
      congr 2
      rw [ByteArray.getElem_extract]
      simp
    unfold partB partR
    rw [hb, hx, decide_eq_false (show ¬ s.size - k = 0 by omega), decide_eq_false (show ¬ s.size ≤ k by omega), in_seps, blB, beq_turn 32, beq_turn 9, beq_turn 10, beq_turn 13, beq_turn 40, beq_turn 41, beq_turn 59]
    generalize (by_ s k == 32) = b1
    generalize (by_ s k == 9) = b2
    generalize (by_ s k == 10) = b3
    generalize (by_ s k == 13) = b4
    generalize (by_ s k == 40) = b5
    generalize (by_ s k == 41) = b6
    generalize (by_ s k == 59) = b7
    generalize (kind == 0) = c1
    generalize (kind == 1) = c2
    revert b1 b2 b3 b4 b5 b6 b7 c1 c2
    decide
  · unfold partB partR
    rw [hx, decide_eq_true (show s.size - k = 0 by omega), decide_eq_true (show s.size ≤ k by omega)]
    simp
end Go.Proofs.YthhkpoobcnmdgaaDoor
