import Derived.Test.YthhkpoobcnmdgaaDoorBZ1
import Derived.Test.YthhkpoobcnmdgaaDoorXRef5bB
/-
  litmusref05.text: walked.
-/
namespace Go.Proofs.YthhkpoobcnmdgaaDoor
open Go.RowKit
set_option linter.unusedVariables false

theorem textGL_fuel {f g : Nat} {l : List Nat} {k : Nat} {out : List Nat} (hf : l.length < f) (hg : l.length < g) : textGL f l k out = textGL g l k out := by
  induction f generalizing g l k out with
  | zero => omega
  | succ f ih =>
    cases g with
    | zero => omega
    | succ g =>
      rw [textGL, textGL]
      by_cases c0 : l = []
      · rw [if_pos c0, if_pos c0]
      · rw [if_neg c0, if_neg c0]
        by_cases c1 : hd l = 34
        · rw [if_pos c1, if_pos c1]
        · rw [if_neg c1, if_neg c1]
          by_cases c2 : (itemL l).2 = 0
          · rw [if_pos c2, if_pos c2]
          · rw [if_neg c2, if_neg c2]
            obtain ⟨e1, e2, e3⟩ := item_app (r := []) c2
            exact ih (by rw [List.length_drop]; omega) (by rw [List.length_drop]; omega)
/-- What the text tells from n on, where out has come. -/
def tgF (s : ByteArray) (a n : Nat) (out : List Nat) : Option (List Nat × Nat) := textGL (s.size + 1) ((M.bytes s).drop n) (n - a) out
theorem drop_nil {s : ByteArray} {n : Nat} (h : ¬ n < s.size) : (M.bytes s).drop n = [] := List.drop_of_length_le (by rw [M.bytes_len]; omega)
theorem drop_ne {s : ByteArray} {n : Nat} (h : n < s.size) : (M.bytes s).drop n ≠ [] := fun e => by
  have := congrArg List.length e
  rw [List.length_drop, M.bytes_len] at this
  simp at this
  omega
theorem tg_end {s : ByteArray} {a n : Nat} {out : List Nat} (h : ¬ n < s.size) : tgF s a n out = none := by
  unfold tgF; rw [textGL, if_pos (drop_nil h)]
theorem tg_quote {s : ByteArray} {a n : Nat} {out : List Nat} (h : n < s.size) (hq : by_ s n = 34) : tgF s a n out = some (out, n - a + 1) := by
  unfold tgF; rw [textGL, if_neg (drop_ne h), if_pos (by rw [← by_hd]; exact hq)]
theorem tg_bad {s : ByteArray} {a n : Nat} {out : List Nat} (h : n < s.size) (hq : by_ s n ≠ 34) (hi : (itemL ((M.bytes s).drop n)).2 = 0) : tgF s a n out = none := by
  unfold tgF; rw [textGL, if_neg (drop_ne h), if_neg (by rw [← by_hd]; exact hq), if_pos hi]
theorem tg_item {s : ByteArray} {a n : Nat} {out : List Nat} {b m : Nat} (h : n < s.size) (ha : a ≤ n) (hq : by_ s n ≠ 34) (hi : itemL ((M.bytes s).drop n) = ((b : Int), (m : Int))) (hm : 0 < m) : tgF s a n out = tgF s a (n + m) (out ++ [b]) := by
  have h2 : ¬ (itemL ((M.bytes s).drop n)).2 = 0 := by rw [hi]; show ¬ (m : Int) = 0; omega
  unfold tgF
  rw [textGL, if_neg (drop_ne h), if_neg (by rw [← by_hd]; exact hq), if_neg h2, hi]
  dsimp only
  rw [Int.toNat_natCast, Int.toNat_natCast, List.drop_drop, show n - a + m = n + m - a by omega]
  exact textGL_fuel (by rw [List.length_drop, M.bytes_len]; omega) (by rw [List.length_drop, M.bytes_len]; omega)
theorem tg_start {s : ByteArray} {a : Nat} (ha : a < s.size) (hq : by_ s a = 34) : textL ((M.bytes s).drop a) = tgF s a (a + 1) [] := by
  unfold textL tgF
  rw [if_pos (by rw [← by_hd]; exact hq), List.drop_drop, show a + 1 - a = 1 by omega]
  exact textGL_fuel (by simp only [List.length_drop, M.bytes_len]; omega) (by rw [List.length_drop, M.bytes_len]; omega)
/-- The item at a place, by the bytes there. -/
theorem item_at (s : ByteArray) (n : Nat) : itemL ((M.bytes s).drop n) = if prB (by_ s n) = false then (0, 0) else if by_ s n ≠ 92 then (by_ s n, 1)
    else if by_ s (n + 1) = 34 ∨ by_ s (n + 1) = 92 then (by_ s (n + 1), 2) else if by_ s (n + 1) = 110 then (10, 2) else if by_ s (n + 1) = 120 then
      (if 0 ≤ hexV (by_ s (n + 2)) ∧ 0 ≤ hexV (by_ s (n + 3)) then (16 * hexV (by_ s (n + 2)) + hexV (by_ s (n + 3)), 4) else (0, 0)) else (0, 0) := by
  unfold itemL hexL
  simp only [by_hd, List.drop_drop]
end Go.Proofs.YthhkpoobcnmdgaaDoor
