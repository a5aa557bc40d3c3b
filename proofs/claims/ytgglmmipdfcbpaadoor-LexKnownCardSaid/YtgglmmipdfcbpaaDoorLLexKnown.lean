/-
  lex's closed law: run by the kernel.
-/
import Derived.Test.YtgglmmipdfcbpaaDoorRLex
namespace Go.Proofs.YtgglmmipdfcbpaaDoor
open Go Go.Ev Go.RowKit
theorem cKnown5 (w : World) (hg : w.cell? ⟨0, 0, none⟩ = some handle) : Calls Tryd.prog 9 #[] w fun e w' => e = .returned (.bool true) ∧ Below w.heap.size w w' :=
  closed (n := 30) (by kernel_rfl) w hg
end Go.Proofs.YtgglmmipdfcbpaaDoor
