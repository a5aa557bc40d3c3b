/-
  lex's closed law, and the examples of its other laws: run by the kernel.
-/
import Derived.Test.YtgglmmipdfcbpaaDoorREnv
namespace Go.Proofs.YtgglmmipdfcbpaaDoor
open Go Go.Ev Go.RowKit

def yes : Option (Value × AS) → Bool
  | some (.bool true, _) => true
  | _ => false
theorem yes_some {r : Option (Value × AS)} (h : yes r = true) : ∃ s, r = some (.bool true, s) := by
  unfold yes at h
  split at h
  · exact ⟨_, rfl⟩
  · cases h
/-- A closed call that answers true. -/
theorem closed {n : Nat} {f : FuncId} (hr : yes ((hand env n).call f [] (Ev.start 0)) = true) (w : World) (hg : w.cell? ⟨0, 0, none⟩ = some handle) :
    Calls Tryd.prog f #[] w fun e w' => e = .returned (.bool true) ∧ Below w.heap.size w w' := by
  obtain ⟨s, h⟩ := yes_some hr
  refine (tells0 (args' := []) envOK primOK mixed rfl h (laid_of_cell hg) .nil).mono ?_
  rintro e w' ⟨⟨v', β', rfl, hv, _⟩, h1, h2, h3⟩
  cases hv
  exact ⟨rfl, ⟨h3.1, h3.2.1, h3.2.2, h1, h2⟩⟩
theorem cWorks5 (w : World) (hg : w.cell? ⟨0, 0, none⟩ = some handle) : Calls Tryd.prog 15 #[] w fun e w' => e = .returned (.bool true) ∧ Below w.heap.size w w' :=
  closed (n := 30) (by kernel_rfl) w hg
end Go.Proofs.YtgglmmipdfcbpaaDoor
