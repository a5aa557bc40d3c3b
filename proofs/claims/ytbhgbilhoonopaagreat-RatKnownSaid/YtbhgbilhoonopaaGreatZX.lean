/- Further operations and contracts for the laws over numbers. -/
import Derived.Test.YtbhgbilhoonopaaGreatZH
namespace Go.Proofs.YtbhgbilhoonopaaGreat
open Go.RowKit
set_option linter.unusedVariables false
set_option maxRecDepth 100000

theorem wp_negI {a : Act} {w : World} {K : Act → World → Prop} {Q : Exit → Act → World → Prop} {dst : Option Tmp} {ty : TypeId} {pos : String} {af : Array Edge} {gd : Option (Nat × Bool)} {x : Operand} {p : Int} (hx : a.eval x = .int .i64 p) (h0 : -1 ≤ p) (h1 : p ≤ 1) (h : K (a.put dst (.int .i64 (-p))) w) : Oper.wp Tryz.prog ⟨dst, .unOp .neg 3 x, ty, pos, af, gd⟩ a w K Q := by
  unfold Oper.wp execOp
  simp only [hx]
  have e : IntKind.i64.wrap (-p) = -p := by rw [IntKind.wrap_i64]; omega
  go_simp
  first
    | exact h
    | (rw [e]; exact h)

end Go.Proofs.YtbhgbilhoonopaaGreat
