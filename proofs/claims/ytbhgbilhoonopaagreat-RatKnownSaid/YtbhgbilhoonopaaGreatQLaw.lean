/- What the laws of fractions ask besides: three arguments that are cut and put back; tests of small numbers; calls as they stand. -/
import Derived.Test.YtbhgbilhoonopaaGreatQDiv
namespace Go.Proofs.YtbhgbilhoonopaaGreat
open Go.RowKit
set_option linter.unusedVariables false
set_option maxRecDepth 100000

section
variable {a : Act} {w : World} {K : Act → World → Prop} {Q : Exit → Act → World → Prop} {dst : Option Tmp} {ty : TypeId} {pos : String} {af : Array Edge} {gd : Option (Nat × Bool)} {x y : Operand} {p q : Int}
theorem wp_negI (hx : a.eval x = .int .i64 p) (h0 : -1 ≤ p) (h1 : p ≤ 1) (h : K (a.put dst (.int .i64 (-p))) w) : Oper.wp Tryz.prog ⟨dst, .unOp .neg 3 x, ty, pos, af, gd⟩ a w K Q := by
  have hw : IntKind.i64.wrap (-p) = -p := by rw [IntKind.wrap_i64]; omega
  unfold Oper.wp execOp
  simp only [hx]
  go_simp
  exact h
theorem wp_mulI (hx : a.eval x = .int .i64 p) (hy : a.eval y = .int .i64 q) (h0 : -1 ≤ p * q) (h1 : p * q ≤ 1) (h : K (a.put dst (.int .i64 (p * q))) w) {T' : TypeId} : Oper.wp Tryz.prog ⟨dst, .binOp .mul 3 x y T', ty, pos, af, gd⟩ a w K Q := by
  have hw : IntKind.i64.wrap (p * q) = p * q := by rw [IntKind.wrap_i64]; omega
  unfold Oper.wp execOp
  simp only [hx, hy]
  go_simp
  exact h
end
theorem cf_rat_Add : CallsF 22 := fun args w => by go_simp
theorem cf_rat_Sub : CallsF 24 := fun args w => by go_simp
theorem cf_rat_Mul : CallsF 26 := fun args w => by go_simp
theorem cf_rat_Div : CallsF 13 := fun args w => by go_simp
theorem cf_rat_Neg : CallsF 20 := fun args w => by go_simp
theorem cf_rat_Cmp : CallsF 28 := fun args w => by go_simp
theorem cf_rat_Sign : CallsF 30 := fun args w => by go_simp
theorem cf_rat_From : CallsF 43 := fun args w => by go_simp
theorem cf_rat_Int : CallsF 42 := fun args w => by go_simp
theorem cf_rat_Floor : CallsF 33 := fun args w => by go_simp
theorem cf_rat_Ceil : CallsF 35 := fun args w => by go_simp
theorem cf_rat_Whole : CallsF 46 := fun args w => by go_simp
theorem cf_rat_Right : CallsF 18 := fun args w => by go_simp
theorem cf_rat_Text : CallsF 37 := fun args w => by go_simp
theorem cf_law03_same : CallsF 15 := fun args w => by go_simp
theorem cf_law03_few : CallsF 12 := fun args w => by go_simp
theorem cf_law03_works : CallsF 39 := fun args w => by go_simp
theorem cf_ref03_SameInt : CallsF 32 := fun args w => by go_simp

/-- A fraction, cut. -/
theorem few_q {w : World} {b : Bool} {A B : Option Addr} {n c m d : Nat} {xs ys : List Nat} (h : Rd w A n c xs) (g : Rd w B m d ys) (r : Nat) : IsQm w (.agg #[.bool b, .slice A (min n r) c, .slice B (min m r) d]) (mkRat (zv b (M.val (xs.take (min n r)))) (dOf (M.val (ys.take (min m r))))) r :=
  ⟨_, _, _, _, _, _, _, rfl, _, _, ⟨⟨_, ⟨⟨_, h.take (by omega), rfl⟩, by omega⟩, rfl⟩⟩, ⟨⟨_, g.take (by omega), rfl⟩, by omega⟩, rfl⟩
end Go.Proofs.YtbhgbilhoonopaaGreat
