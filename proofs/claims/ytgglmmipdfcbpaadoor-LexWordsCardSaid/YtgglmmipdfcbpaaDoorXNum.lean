/-
  Numbers: lex.numberLong, lex.Number; litmusref05.number, litmusref05.Number.
-/
import Derived.Test.YtgglmmipdfcbpaaDoorXNameR
namespace Go.Proofs.YtgglmmipdfcbpaaDoor
open Go.RowKit
set_option linter.unusedVariables false

theorem IsEnd.start {p : Int → Bool} {s : ByteArray} {a : Nat} (ha : a ≤ s.size) : ∃ k, IsEnd p s a k := by
  generalize hn : s.size - a = n
  induction n generalizing a with
  | zero => exact ⟨a, Nat.le_refl _, ha, fun j h1 h2 => by omega, fun h => by omega⟩
  | succ n ih =>
    cases hp : p (by_ s a) with
    | false => exact ⟨a, Nat.le_refl _, ha, fun j h1 h2 => by omega, fun _ => hp⟩
    | true =>
      obtain ⟨k, h1, h2, h3, h4⟩ := ih (a := a + 1) (by omega) (by omega)
      refine ⟨k, by omega, h2, fun j h5 h6 => ?_, h4⟩
      by_cases e : j = a
      · rw [e]; exact hp
      · exact h3 j (by omega) h6

/-- How many bytes a - takes from a place on. -/
def dash (s : ByteArray) (a : Nat) : Nat := if by_ s a = 45 then 1 else 0
/-- How many bytes at a text's start are a number. -/
def NumR (s : ByteArray) (r : Nat) : Prop := ∃ k, IsEnd digB s (dash s 0) k ∧ r = if k = dash s 0 then 0 else if by_ s (dash s 0) = 48 then (if dash s 0 = 0 then 1 else 0) else k
theorem by_out {s : ByteArray} {k : Nat} (h : s.size ≤ k) : by_ s k = -1 := dif_neg (by omega)
theorem dash_le {s : ByteArray} (a : Nat) (ha : a ≤ s.size) : a + dash s a ≤ s.size := by
  unfold dash
  split
  · rename_i h
    by_cases e : a < s.size
    · omega
    · rw [by_out (by omega)] at h; cases h
  · omega

end Go.Proofs.YtgglmmipdfcbpaaDoor
