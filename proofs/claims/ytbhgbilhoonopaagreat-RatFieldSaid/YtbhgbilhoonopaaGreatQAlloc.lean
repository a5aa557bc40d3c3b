/- Variables of type Rat that a region makes, ahead of the stores into them. -/
import Derived.Test.YtbhgbilhoonopaaGreatQWorks
namespace Go.Proofs.YtbhgbilhoonopaaGreat
open Go.RowKit
set_option linter.unusedVariables false
set_option maxRecDepth 100000

def IsPQ (N : Nat) (w : World) (v : Value) : Prop := ∃ g, v = .pointer (some ⟨g, 0, none⟩) ∧ N ≤ g ∧ Bq w g false none 0 0 none 0 0
theorem IsPQ.below {N : Nat} {w w' : World} {v : Value} (h : IsPQ N w v) (hb : Below w.heap.size w w') : IsPQ N w' v := by
  obtain ⟨g, rfl, hg, P⟩ := h
  exact ⟨g, rfl, hg, P.below hb⟩
theorem sPQ {N : Nat} : Stab RBu fun v _ w => IsPQ N w v := fun _ _ _ _ _ r _ h => h.below r
theorem IsPQ.lt {N : Nat} {w : World} {v : Value} (h : IsPQ N w v) : ∃ g, v = .pointer (some ⟨g, 0, none⟩) ∧ g < w.heap.size := by
  obtain ⟨g, rfl, hg, P⟩ := h
  exact ⟨g, rfl, P.lt⟩
section
variable {a : Act} {w : World} {Q : Exit → Act → World → Prop} {K : Act → World → Prop} {dst : Option Tmp} {ty : TypeId} {pos : String} {af : Array Edge} {gd : Option (Nat × Bool)} {ops : Array Oper} {sp : Nat → Value → Value → World → Prop} {i N : Nat}
theorem wp_allocQ (h : K (a.put dst (.pointer (some ⟨w.heap.size, 0, none⟩))) (w.alloc (.cells #[.bool false, .slice none 0 0, .slice none 0 0] 26))) : Oper.wp Tryz.prog ⟨dst, .alloc 26, ty, pos, af, gd⟩ a w K Q := by
  unfold Oper.wp execOp
  go_simp
  exact h
theorem st_allocQ (hN : N ≤ w.heap.size) (hsp : ∀ v u w, IsPQ N w v → sp i v u w) (hall : ∀ j vj u, isAlloc ops j = true → sp j vj u w → ∃ g, vj = .pointer (some ⟨g, 0, none⟩) ∧ g < w.heap.size) : Oper.wp Tryz.prog ⟨dst, .alloc 26, ty, pos, af, gd⟩ a w (Done RBu ops sp i a dst w) Q := by
  refine wp_allocQ (doneA (bl_alloc _ _) (hsp _ _ _ ⟨_, rfl, hN, Bq.new w false none 0 0 none 0 0⟩) fun j vj u hj hs e => ?_)
  obtain ⟨g, rfl, hlt⟩ := hall j vj u hj hs
  injection e with e
  injection e with e
  injection e with e
  omega
end
end Go.Proofs.YtbhgbilhoonopaaGreat
