/-
  Bytes of texts: letters, digits, by lex and by the document's answer.
-/
import Derived.Test.YtgglmmipdfcbpaaDoorProg
import Derived.WalkKit
import Derived.ProofKit
import Derived.OpenShut
import Derived.Handy
import Derived.Lib.Hide
namespace Go.Proofs.YtgglmmipdfcbpaaDoor
open Go.RowKit
set_option linter.unusedVariables false

/-- A text's byte; -1 behind its end. -/
def by_ (s : ByteArray) (k : Nat) : Int := if h : k < s.size then (s[k].toNat : Int) else -1
theorem by_at {s : ByteArray} {k : Nat} (h : k < s.size) : by_ s k = (s[k].toNat : Int) := dif_pos h
theorem toList_empty {s : ByteArray} : s.toList.isEmpty = decide (s.size = 0) := by
  rw [ByteArray.toList_eq]
  obtain ⟨⟨l⟩⟩ := s
  cases l with
  | nil => rfl
  | cons x l => simp [ByteArray.size]
def letB (b : Int) : Bool := (decide (65 ≤ b) && decide (b ≤ 90)) || (decide (97 ≤ b) && decide (b ≤ 122))
def digB (b : Int) : Bool := decide (48 ≤ b) && decide (b ≤ 57)
def wordB (b : Int) : Bool := letB b || digB b || (b == 95)

def prB (b : Int) : Bool := decide (32 ≤ b) && decide (b ≤ 126)
def blB (b : Int) : Bool := b == 32 || b == 9 || b == 10 || b == 13

theorem letter_c (b : Int) (w : World) : Calls Tryd.prog 46 #[.int .u8 b] w fun e w' => e = .returned (.bool (letB b)) ∧ w = w' := by
  go_enter Tryd.func46, Tryd.ntmps46
  go_wp2
  all_goals
    go_ret
    refine ⟨congrArg (fun x => Ending.returned (Value.bool x)) ?_, rfl⟩
    rw [Bool.eq_iff_iff]
    simp [letB]
    try omega
theorem digit_c (b : Int) (w : World) : Calls Tryd.prog 47 #[.int .u8 b] w fun e w' => e = .returned (.bool (digB b)) ∧ w = w' := by
  go_enter Tryd.func47, Tryd.ntmps47
  go_wp2
  all_goals
    go_ret
    refine ⟨congrArg (fun x => Ending.returned (Value.bool x)) ?_, rfl⟩
    rw [Bool.eq_iff_iff]
    simp [digB]
    try omega
theorem printed_c (b : Int) (w : World) : Calls Tryd.prog 33 #[.int .u8 b] w fun e w' => e = .returned (.bool (prB b)) ∧ w = w' := by
  go_enter Tryd.func33, Tryd.ntmps33
  go_wp2
  all_goals
    go_ret
    refine ⟨congrArg (fun x => Ending.returned (Value.bool x)) ?_, rfl⟩
    rw [Bool.eq_iff_iff]
    simp [prB]
    try omega
theorem blank_c (b : Int) (w : World) : Calls Tryd.prog 59 #[.int .u8 b] w fun e w' => e = .returned (.bool (blB b)) ∧ w = w' := by
  go_enter Tryd.func59, Tryd.ntmps59
  go_wp2
  all_goals
    go_ret
    refine ⟨congrArg (fun x => Ending.returned (Value.bool x)) ?_, rfl⟩
    rw [Bool.eq_iff_iff]
    simp [blB]
    try omega
theorem letterR_c (b : Int) (w : World) : Calls Tryd.prog 43 #[.int .u8 b] w fun e w' => e = .returned (.bool (letB b)) ∧ w = w' := by
  go_enter Tryd.func43, Tryd.ntmps43
  go_wp2
  all_goals
    go_ret
    refine ⟨congrArg (fun x => Ending.returned (Value.bool x)) ?_, rfl⟩
    rw [Bool.eq_iff_iff]
    simp [letB]
    try omega
theorem digitR_c (b : Int) (w : World) : Calls Tryd.prog 42 #[.int .u8 b] w fun e w' => e = .returned (.bool (digB b)) ∧ w = w' := by
  go_enter Tryd.func42, Tryd.ntmps42
  go_wp2
  all_goals
    go_ret
    refine ⟨congrArg (fun x => Ending.returned (Value.bool x)) ?_, rfl⟩
    rw [Bool.eq_iff_iff]
    simp [digB]
    try omega
end Go.Proofs.YtgglmmipdfcbpaaDoor
