/- Arrays of pairs of numbers, one or two of which come out of calls. -/
import Derived.Test.YthjgonfohjgfaaaZRefH
namespace Go.Proofs.Ythjgonfohjgfaaa
open Go.RowKit
set_option linter.unusedVariables false
set_option maxRecDepth 100000

section
variable {w w' : World} {v c0 c1 c2 c3 : Value} {z u : Int} {k j : Nat}
def IsPF (w : World) (v c0 c1 : Value) (z : Int) (k : Nat) : Prop := ∃ b A n c, v = .agg #[c0, c1, .bool b, .slice A n c] ∧ IsT w (.agg #[.bool b, .slice A n c]) z k
def IsPM (w : World) (v c0 c1 : Value) (z : Int) (k : Nat) : Prop := ∃ b A n c, v = .agg #[.bool b, .slice A n c, c0, c1] ∧ IsT w (.agg #[.bool b, .slice A n c]) z k
def IsD3 (w : World) (v c0 c1 c2 c3 : Value) (z : Int) (k : Nat) (u : Int) (j : Nat) : Prop := ∃ b A n c b' A' n' c', v = .agg #[c0, c1, c2, c3, c0, c1, .bool b, .slice A n c, .bool b', .slice A' n' c', c2, c3] ∧ IsT w (.agg #[.bool b, .slice A n c]) z k ∧ IsT w (.agg #[.bool b', .slice A' n' c']) u j
def IsT4 (w : World) (v c0 c1 c2 c3 : Value) (z : Int) (k : Nat) : Prop := ∃ b A n c, v = .agg #[c0, c1, c2, c3, c2, c3, c0, c1, c0, c1, .bool b, .slice A n c, c0, c1, c0, c1] ∧ IsT w (.agg #[.bool b, .slice A n c]) z k
theorem sPF : Stab RBu fun v _ w => IsPF w v c0 c1 z k := fun _ _ _ _ _ r _ h => by
  obtain ⟨b, A, n, c, e, T⟩ := h
  exact ⟨b, A, n, c, e, T.below r⟩
theorem sPM : Stab RBu fun v _ w => IsPM w v c0 c1 z k := fun _ _ _ _ _ r _ h => by
  obtain ⟨b, A, n, c, e, T⟩ := h
  exact ⟨b, A, n, c, e, T.below r⟩
theorem sD3 : Stab RBu fun v _ w => IsD3 w v c0 c1 c2 c3 z k u j := fun _ _ _ _ _ r _ h => by
  obtain ⟨b, A, n, c, b', A', n', c', e, T, T'⟩ := h
  exact ⟨b, A, n, c, b', A', n', c', e, T.below r, T'.below r⟩
theorem sT4 : Stab RBu fun v _ w => IsT4 w v c0 c1 c2 c3 z k := fun _ _ _ _ _ r _ h => by
  obtain ⟨b, A, n, c, e, T⟩ := h
  exact ⟨b, A, n, c, e, T.below r⟩
end

section
variable {a : Act} {w : World} {Q : Exit → Act → World → Prop} {K : Act → World → Prop} {dst : Option Tmp} {ty : TypeId} {pos : String} {af : Array Edge} {gd : Option (Nat × Bool)} {x y x' y' : Operand} {c0 c1 c2 c3 d0 d1 d2 d3 e0 e1 e2 e3 f0 f1 f2 f3 : Value}
theorem wp_bA2 (hx : a.eval x = .agg #[c0, c1]) (hy : a.eval y = .agg #[c2, c3]) (h : K (a.put dst (.agg #[c0, c1, c2, c3])) w) : Oper.wp Try.prog ⟨dst, .build 34 #[(0, x), (1, y)], ty, pos, af, gd⟩ a w K Q := by
  unfold Oper.wp execOp
  simp only [List.map_toArray, List.map_cons, List.map_nil, hx, hy]
  go_simp
  exact h
theorem wp_bA3 (hx : a.eval x = .agg #[c0, c1, c2, c3]) (hy : a.eval y = .agg #[d0, d1, d2, d3]) (hx' : a.eval x' = .agg #[e0, e1, e2, e3]) (h : K (a.put dst (.agg #[c0, c1, c2, c3, d0, d1, d2, d3, e0, e1, e2, e3])) w) : Oper.wp Try.prog ⟨dst, .build 49 #[(0, x), (1, y), (2, x')], ty, pos, af, gd⟩ a w K Q := by
  unfold Oper.wp execOp
  simp only [List.map_toArray, List.map_cons, List.map_nil, hx, hy, hx']
  go_simp
  exact h
theorem wp_bA4 (hx : a.eval x = .agg #[c0, c1, c2, c3]) (hy : a.eval y = .agg #[d0, d1, d2, d3]) (hx' : a.eval x' = .agg #[e0, e1, e2, e3]) (hy' : a.eval y' = .agg #[f0, f1, f2, f3]) (h : K (a.put dst (.agg #[c0, c1, c2, c3, d0, d1, d2, d3, e0, e1, e2, e3, f0, f1, f2, f3])) w) : Oper.wp Try.prog ⟨dst, .build 36 #[(0, x), (1, y), (2, x'), (3, y')], ty, pos, af, gd⟩ a w K Q := by
  unfold Oper.wp execOp
  simp only [List.map_toArray, List.map_cons, List.map_nil, hx, hy, hx', hy']
  go_simp
  exact h
theorem wp_cv8 {p : Int} (hx : a.eval x = .int .i8 p) (h0 : -128 ≤ p) (h1 : p ≤ 127) (h : K (a.put dst (.int .i64 p)) w) : Oper.wp Try.prog ⟨dst, .convert 48 2 x, ty, pos, af, gd⟩ a w K Q := by
  have hw : IntKind.i64.wrap p = p := by rw [IntKind.wrap_i64]; omega
  unfold Oper.wp execOp
  simp only [hx]
  go_simp
  exact h
end

end Go.Proofs.Ythjgonfohjgfaaa
