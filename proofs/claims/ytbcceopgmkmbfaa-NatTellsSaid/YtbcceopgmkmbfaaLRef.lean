/- litmusref01 in numbers alone. -/
import Derived.Test.YtbcceopgmkmbfaaLDiv
import Derived.Test.YtbcceopgmkmbfaaWDivB
namespace Go.Proofs.Ytbcceopgmkmbfaa
open Go.RowKit
set_option linter.unusedVariables false

section
variable {w w' : World} {A B : Option Addr} {n c m d v x y k j : Nat}
theorem gcdRN (h : Nm w A n c x k) (g : Nm w B m d y j) (hk : k ≤ 1000) (hj : j ≤ 1000) : Calls Try.prog 32 #[.slice A n c, .slice B m d] w (GivN w (Nat.gcd x y) (max k j)) := by
  have h1 := h.lt
  have g1 := g.lt
  have hl := h.le
  have gl := g.le
  obtain ⟨xs, hx, rfl⟩ := h.row
  obtain ⟨ys, hy, rfl⟩ := g.row
  exact (gcdB_any _ _ _ _ _ _ _ _ _ hx hy (by omega) (by omega)).mono fun e w' r => givN (gcd_lt_pow h1 g1) r
theorem SameN_yes (h : Tm w A n c x k) (g : Tm w B m d y j) (hk : k ≤ 1000) (hj : j ≤ 1000) (e : x = y) : Calls Try.prog 19 #[.slice A n c, .slice B m d] w fun e w' => e = .returned (.bool true) ∧ Below w.heap.size w w' := by
  have hl := h.le
  have gl := g.le
  subst e
  refine (Same_any _ _ _ _ _ _ _ _ _ h.rd g.rd (by omega) (by omega)).mono fun e' w' r => ⟨?_, r.2⟩
  rw [r.1, decide_eq_true rfl]
end

end Go.Proofs.Ytbcceopgmkmbfaa
