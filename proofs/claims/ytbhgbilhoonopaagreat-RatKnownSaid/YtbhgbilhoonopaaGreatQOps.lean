/- Single operations upon fractions, at a state of which only the slots that they read are known. -/
import Derived.Test.YtbhgbilhoonopaaGreatQBase
namespace Go.Proofs.YtbhgbilhoonopaaGreat
open Go.RowKit
set_option linter.unusedVariables false
set_option maxRecDepth 100000

section
variable {a : Act} {w : World} {Q : Exit → Act → World → Prop} {K : Act → World → Prop} {dst : Option Tmp} {ty : TypeId} {pos : String} {af : Array Edge} {gd : Option (Nat × Bool)} {x y : Operand} {g : Nat} {b : Bool} {A B : Option Addr} {n c m d : Nat}
theorem wp_qf0 (hx : a.eval x = .pointer (some ⟨g, 0, none⟩)) (h : K (a.put dst (.pointer (some ⟨g, 0, none⟩))) w) : Oper.wp Tryz.prog ⟨dst, .fieldAddr 26 x 0, ty, pos, af, gd⟩ a w K Q := by
  unfold Oper.wp execOp
  simp only [hx]
  go_simp
  exact h
theorem wp_qf1 (hx : a.eval x = .pointer (some ⟨g, 0, none⟩)) (h : K (a.put dst (.pointer (some ⟨g, 2, none⟩))) w) : Oper.wp Tryz.prog ⟨dst, .fieldAddr 26 x 1, ty, pos, af, gd⟩ a w K Q := by
  unfold Oper.wp execOp
  simp only [hx]
  go_simp
  exact h
theorem wp_qN (hx : a.eval x = .pointer (some ⟨g, 0, none⟩)) (hb : Bq w g b A n c B m d) (h : K (a.put dst (.agg #[.bool b, .slice A n c])) w) : Oper.wp Tryz.prog ⟨dst, .load 24 x, ty, pos, af, gd⟩ a w K Q := by
  have c0 := hb.c0
  have c1 := hb.c1
  unfold Oper.wp execOp
  simp only [hx]
  go_simp
  exact h
theorem wp_qD (hx : a.eval x = .pointer (some ⟨g, 2, none⟩)) (hb : Bq w g b A n c B m d) (h : K (a.put dst (.slice B m d)) w) : Oper.wp Tryz.prog ⟨dst, .load 22 x, ty, pos, af, gd⟩ a w K Q := by
  have c2 := hb.c2
  unfold Oper.wp execOp
  simp only [hx]
  go_simp
  exact h
theorem wp_qB (hx : a.eval x = .pointer (some ⟨g, 0, none⟩)) (hb : Bq w g b A n c B m d) (h : K (a.put dst (.bool b)) w) : Oper.wp Tryz.prog ⟨dst, .load 4 x, ty, pos, af, gd⟩ a w K Q := by
  have c0 := hb.c0
  unfold Oper.wp execOp
  simp only [hx]
  go_simp
  exact h
theorem wp_qM (hx : a.eval x = .pointer (some ⟨g, 1, none⟩)) (hb : Bq w g b A n c B m d) (h : K (a.put dst (.slice A n c)) w) : Oper.wp Tryz.prog ⟨dst, .load 22 x, ty, pos, af, gd⟩ a w K Q := by
  have c1 := hb.c1
  unfold Oper.wp execOp
  simp only [hx]
  go_simp
  exact h
theorem wp_qload (hx : a.eval x = .pointer (some ⟨g, 0, none⟩)) (hb : Bq w g b A n c B m d) (h : K (a.put dst (.agg #[.bool b, .slice A n c, .slice B m d])) w) : Oper.wp Tryz.prog ⟨dst, .load 26 x, ty, pos, af, gd⟩ a w K Q := by
  have c0 := hb.c0
  have c1 := hb.c1
  have c2 := hb.c2
  unfold Oper.wp execOp
  simp only [hx]
  go_simp
  exact h
theorem wp_bQ (hx : a.eval x = .agg #[.bool b, .slice A n c]) (hy : a.eval y = .slice B m d) (h : K (a.put dst (.agg #[.bool b, .slice A n c, .slice B m d])) w) : Oper.wp Tryz.prog ⟨dst, .build 26 #[(0, x), (1, y)], ty, pos, af, gd⟩ a w K Q := by
  unfold Oper.wp execOp
  simp only [List.map_toArray, List.map_cons, List.map_nil, hx, hy]
  go_simp
  exact h
theorem wp_build0Q (h : K (a.put dst (.agg #[.bool false, .slice none 0 0, .slice none 0 0])) w) : Oper.wp Tryz.prog ⟨dst, .build 26 #[], ty, pos, af, gd⟩ a w K Q := by
  unfold Oper.wp execOp
  simp only [List.map_toArray, List.map_nil]
  go_simp
  exact h
end
theorem cf_nat_Gcd : CallsF 99 := fun args w => by go_simp
theorem cf_nat_Mul : CallsF 68 := fun args w => by go_simp
theorem cf_nat_From : CallsF 90 := fun args w => by go_simp
theorem cf_nat_Text : CallsF 85 := fun args w => by go_simp
theorem cf_rat_without : CallsF 100 := fun args w => by go_simp
theorem cf_rat_unsigned : CallsF 77 := fun args w => by go_simp
theorem cf_rat_lowest : CallsF 66 := fun args w => by go_simp
theorem cf_rat_sumOver : CallsF 62 := fun args w => by go_simp
theorem cf_rat_isOne : CallsF 83 := fun args w => by go_simp

end Go.Proofs.YtbhgbilhoonopaaGreat
