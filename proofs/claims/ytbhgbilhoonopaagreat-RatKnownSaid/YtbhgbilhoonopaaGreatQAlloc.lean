/- Variables of type Rat that a region makes, ahead of the stores into them. -/
import Derived.Test.YtbhgbilhoonopaaGreatQWorks
import Derived.Test.YtbhgbilhoonopaaGreatZSeq
import Derived.Deep.Cut
namespace Go.Proofs.YtbhgbilhoonopaaGreat
open Go.RowKit
set_option linter.unusedVariables false
set_option maxRecDepth 100000

def IsPQ (N : Nat) (w : World) (v : Value) : Prop := ∃ g, v = .pointer (some ⟨g, 0, none⟩) ∧ N ≤ g ∧ Bq w g false none 0 0 none 0 0
theorem IsPQ.below {N : Nat} {w w' : World} {v : Value} (h : IsPQ N w v) (hb : Below w.heap.size w w') : IsPQ N w' v := by
  obtain ⟨g, rfl, hg, P⟩ := h
  exact ⟨g, rfl, hg, P.below hb⟩
theorem sPQ {N : Nat} : Stab RBu fun v _ w => IsPQ N w v := fun _ _ _ _ _ r _ h => h.below r
theorem IsPQ.lt {N : Nat} {w : World} {v : Value} (h : IsPQ N w v) : ∃ g, v = .pointer (some ⟨g, 0, none⟩) ∧ g < w.heap.size := by
  obtain ⟨g, rfl, hg, P⟩ := h
  exact ⟨g, rfl, P.lt⟩
section
variable {a : Act} {w : World} {Q : Exit → Act → World → Prop} {K : Act → World → Prop} {dst : Option Tmp} {ty : TypeId} {pos : String} {af : Array Edge} {gd : Option (Nat × Bool)} {ops : Array Oper} {sp : Nat → Value → Value → World → Prop} {i N : Nat}
theorem wp_allocQ (h : K (a.put dst (.pointer (some ⟨w.heap.size, 0, none⟩))) (w.alloc (.cells #[.bool false, .slice none 0 0, .slice none 0 0] 26))) : Oper.wp Tryz.prog ⟨dst, .alloc 26, ty, pos, af, gd⟩ a w K Q := by
  unfold Oper.wp execOp
  go_simp
  exact h
theorem st_allocQ (hN : N ≤ w.heap.size) (hsp : ∀ v u w, IsPQ N w v → sp i v u w) (hall : ∀ j vj u, isAlloc ops j = true → sp j vj u w → ∃ g, vj = .pointer (some ⟨g, 0, none⟩) ∧ g < w.heap.size) : Oper.wp Tryz.prog ⟨dst, .alloc 26, ty, pos, af, gd⟩ a w (Done RBu ops sp i a dst w) Q := by
  refine wp_allocQ (doneA (bl_alloc _ _) (hsp _ _ _ ⟨_, rfl, hN, Bq.new w false none 0 0 none 0 0⟩) fun j vj u hj hs e => ?_)
  obtain ⟨g, rfl, hlt⟩ := hall j vj u hj hs
  injection e with e
  injection e with e
  injection e with e
  omega
end
/-! Stores into a variable of type Rat leave fractions as they are: their limbs lie elsewhere. -/
section
variable {w : World} {g : Nat} {b b' : Bool} {A B A' B' : Option Addr} {n c m d n' c' m' d' : Nat}
theorem Bq.set0 (h : Bq w g b A n c B m d) : Bq (w.setCell ⟨g, 0, none⟩ (.bool b')) g b' A n c B m d := ⟨heap_setCell_same w g 0 #[.bool b, .slice A n c, .slice B m d] 26 (.bool b') h.row⟩
theorem Bq.set1 (h : Bq w g b A n c B m d) : Bq (w.setCell ⟨g, 1, none⟩ (.slice A' n' c')) g b A' n' c' B m d := ⟨heap_setCell_same w g 1 #[.bool b, .slice A n c, .slice B m d] 26 (.slice A' n' c') h.row⟩
theorem RdK.storedQ {X : Option Addr} {k l : Nat} {xs : List Nat} (h : Rd w X k l xs) (P : Bq w g b A n c B m d) (i : Nat) (u : Value) : Rd (w.setCell ⟨g, i, none⟩ u) X k l xs := by
  refine h.keep fun p hp hn => ?_
  obtain ⟨e, o, x, hA, hx, _, hc⟩ := h.at32 (i := 0) hn
  rw [hp] at hA
  injection hA with hA
  subst hA
  refine heap_setCell_other w ⟨g, i, none⟩ e u fun he => ?_
  dsimp only at he
  subst he
  rw [cell_of_row _ _ _ _ _ _ P.row] at hc
  rcases o with _ | _ | _ | o <;> simp at hc
theorem RdK.put3 {X : Option Addr} {k l : Nat} {xs : List Nat} (h : Rd w X k l xs) (P : Bq w g b A n c B m d) : Rd (((w.setCell ⟨g, 0, none⟩ (.bool b')).setCell ⟨g, 1, none⟩ (.slice A' n' c')).setCell ⟨g, 2, none⟩ (.slice B' m' d')) X k l xs :=
  ((h.storedQ P 0 _).storedQ (P.set0 (b' := b')) 1 _).storedQ ((P.set0 (b' := b')).set1 (A' := A') (n' := n') (c' := c')) 2 _
theorem IsQt.put3 {v : Value} {q : Rat} {k : Nat} (h : IsQt w v q k) (P : Bq w g b A n c B m d) : IsQt (((w.setCell ⟨g, 0, none⟩ (.bool b')).setCell ⟨g, 1, none⟩ (.slice A' n' c')).setCell ⟨g, 2, none⟩ (.slice B' m' d')) v q k := by
  obtain ⟨t, X, e, f, Y, r, s, rfl, h1, h2, h3⟩ := h
  exact ⟨t, X, e, f, Y, r, s, rfl, ⟨h1.rd.put3 P, h1.le⟩, h2, ⟨h3.rd.put3 P, h3.le⟩⟩
theorem Bq.put3 {g' : Nat} {t t' : Bool} {X Y : Option Addr} {e f r s : Nat} (h : Bq w g' t X e f Y r s) (hne : g' ≠ g) : Bq (((w.setCell ⟨g, 0, none⟩ (.bool b')).setCell ⟨g, 1, none⟩ (.slice A' n' c')).setCell ⟨g, 2, none⟩ (.slice B' m' d')) g' t X e f Y r s := ((h.other hne).other hne).other hne
theorem Below.put3 {w0 : World} {N : Nat} (h : Below N w0 w) (hg : N ≤ g) : Below N w0 (((w.setCell ⟨g, 0, none⟩ (.bool b')).setCell ⟨g, 1, none⟩ (.slice A' n' c')).setCell ⟨g, 2, none⟩ (.slice B' m' d')) := ((h.setCell (p := ⟨g, 0, none⟩) hg _).setCell (p := ⟨g, 1, none⟩) hg _).setCell (p := ⟨g, 2, none⟩) hg _
end
end Go.Proofs.YtbhgbilhoonopaaGreat
