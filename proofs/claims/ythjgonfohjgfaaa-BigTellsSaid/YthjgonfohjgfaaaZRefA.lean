/- What is kept behind the store of a number into a variable. -/
import Derived.Test.YthjgonfohjgfaaaZRef
namespace Go.Proofs.Ythjgonfohjgfaaa
open Go.RowKit
set_option linter.unusedVariables false
set_option maxRecDepth 100000

section
variable {w w' : World} {v v' : Value} {s t b : Bool} {A B : Option Addr} {n c m d x y k j g : Nat} {z u : Int}

theorem st_T (P : Bz w g s A n c) (h : IsT w v z k) : IsT ((w.setCell ⟨g, 0, none⟩ (.bool t)).setCell ⟨g, 1, none⟩ (.slice B m d)) v z k :=
  xT (N' := 0) _ undef _ _ _ (belU_store (N := 0) (t := t) (B := B) (m := m) (d := d) P (Nat.zero_le _)).1 (fun _ e => by cases e) h
theorem st_M (P : Bz w g s A n c) (h : IsM w v z k) : IsM ((w.setCell ⟨g, 0, none⟩ (.bool t)).setCell ⟨g, 1, none⟩ (.slice B m d)) v z k :=
  xM (N' := 0) _ undef _ _ _ (belU_store (N := 0) (t := t) (B := B) (m := m) (d := d) P (Nat.zero_le _)).1 (fun _ e => by cases e) h
theorem st_P (P : Bz w g s A n c) : Bz ((w.setCell ⟨g, 0, none⟩ (.bool t)).setCell ⟨g, 1, none⟩ (.slice B m d)) g t B m d := (belU_store (N := 0) P (Nat.zero_le _)).2
theorem st_B {a : World} (h : Below a.heap.size a w) (hg : a.heap.size ≤ g) (x y : Value) : Below a.heap.size a ((w.setCell ⟨g, 0, none⟩ x).setCell ⟨g, 1, none⟩ y) := (h.setCell (p := ⟨g, 0, none⟩) hg _).setCell (p := ⟨g, 1, none⟩) hg _
theorem IsT.nm (h : IsT w (.agg #[.bool b, .slice A n c]) z k) : Nm w A n c z.natAbs k := by
  obtain ⟨b', A', n', c', e, T, _⟩ := h
  cases e
  exact T.nm

theorem field0 (w : World) (b : Bool) (A : Option Addr) (n c : Nat) : (Instr.field 32 (.agg #[.bool b, .slice A n c]) 0).run Try.prog w = .ok (.bool b) w := by
  simp [Instr.field, run_underlying Try.underlying32, go_sem, asAgg]
theorem field1 (w : World) (b : Bool) (A : Option Addr) (n c : Nat) : (Instr.field 32 (.agg #[.bool b, .slice A n c]) 1).run Try.prog w = .ok (.slice A n c) w := by
  simp [Instr.field, run_underlying Try.underlying32, go_sem, asAgg]
theorem IsT.mono (h : IsT w v z k) (hk : k ≤ j) : IsT w v z j := by
  obtain ⟨b, A, n, c, e, T, hb⟩ := h
  exact ⟨b, A, n, c, e, ⟨T.rd, Nat.le_trans T.le hk⟩, hb⟩
end

end Go.Proofs.Ythjgonfohjgfaaa
