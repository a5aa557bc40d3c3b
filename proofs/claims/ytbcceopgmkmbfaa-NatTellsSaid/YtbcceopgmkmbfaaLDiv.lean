/- nat.Div and nat.Gcd in numbers alone. -/
import Derived.Test.YtbcceopgmkmbfaaLNum
import Derived.Test.YtbcceopgmkmbfaaWDivAll
namespace Go.Proofs.Ytbcceopgmkmbfaa
open Go.RowKit
set_option linter.unusedVariables false

section
variable {w w' : World} {A B : Option Addr} {n c m d v x y k j : Nat}
def GivD (w : World) (q kq r kr : Nat) (code : Int) (e : Ending) (w' : World) : Prop :=
  ∃ A n c B m d, e = .returned (.tuple #[.slice A n c, .slice B m d, .int .i64 code]) ∧ Tm w' A n c q kq ∧ Tm w' B m d r kr ∧ Below w.heap.size w w'

theorem givD {q kq r kr : Nat} {code : Int} (hq : q < M.R ^ kq) (hr : r < M.R ^ kr) {e : Ending} (hg : Gives2 w (M.lims q) (M.lims r) code e w') : GivD w q kq r kr code e w' := by
  obtain ⟨A, c, B, d, rfl, ho, ho', _, hb⟩ := hg
  exact ⟨A, _, c, B, _, d, rfl, ⟨ho.rd, M.lims_length_le.2 hq⟩, ⟨ho'.rd, M.lims_length_le.2 hr⟩, hb⟩

theorem divN (h : Nm w A n c x k) (g : Nm w B m d y j) (hk : k ≤ 1000) (hj : j ≤ 1000) (hy : y ≠ 0) : Calls Try.prog 17 #[.slice A n c, .slice B m d] w (GivD w (x / y) k (x % y) j 0) := by
  have h1 := h.lt
  have g1 := g.lt
  have hl := h.le
  have gl := g.le
  obtain ⟨xs, hx, rfl⟩ := h.row
  obtain ⟨ys, hy', rfl⟩ := g.row
  refine (div_all _ _ _ _ _ _ _ _ _ hx hy' (by omega) (by omega) hy).mono fun e w' r => givD ?_ ?_ r
  · exact Nat.lt_of_le_of_lt (Nat.div_le_self _ _) h1
  · exact Nat.lt_trans (Nat.mod_lt _ (Nat.pos_of_ne_zero hy)) g1

theorem divN_zero (h : Nm w A n c x k) (g : Nm w B m d y j) (hk : k ≤ 1000) (hj : j ≤ 1000) (hy : y = 0) : Calls Try.prog 17 #[.slice A n c, .slice B m d] w (GivD w 0 0 0 0 3) := by
  have hl := h.le
  have gl := g.le
  obtain ⟨xs, hx, rfl⟩ := h.row
  obtain ⟨ys, hy', rfl⟩ := g.row
  refine (div_zero _ _ _ _ _ _ _ _ _ hx hy' (by omega) (by omega) hy).mono fun e w' r => ?_
  rw [← M.lims_zero] at r
  exact givD (by decide) (by decide) r

theorem gcd_lt_pow {x y a b : Nat} (hx : x < M.R ^ a) (hy : y < M.R ^ b) : Nat.gcd x y < M.R ^ max a b := by
  have h1 : M.R ^ a ≤ M.R ^ max a b := Nat.pow_le_pow_right M.R_pos (by omega)
  have h2 : M.R ^ b ≤ M.R ^ max a b := Nat.pow_le_pow_right M.R_pos (by omega)
  rcases Nat.eq_zero_or_pos x with h | h
  · rw [h, Nat.gcd_zero_left]
    omega
  · have := Nat.gcd_le_left y h
    omega

theorem gcdN (h : Nm w A n c x k) (g : Nm w B m d y j) (hk : k ≤ 1000) (hj : j ≤ 1000) : Calls Try.prog 31 #[.slice A n c, .slice B m d] w (GivN w (Nat.gcd x y) (max k j)) := by
  have h1 := h.lt
  have g1 := g.lt
  have hl := h.le
  have gl := g.le
  obtain ⟨xs, hx, rfl⟩ := h.row
  obtain ⟨ys, hy, rfl⟩ := g.row
  exact (gcd_all _ _ _ _ _ _ _ _ _ hx hy (by omega) (by omega)).mono fun e w' r => givN (gcd_lt_pow h1 g1) r

theorem litT1 (w : World) (a : Nat) (v : Int) (hx : a < M.R) (h0 : a ≠ 0) (hv : v = (a : Int)) : Tm (w.alloc (.cells #[.int .u32 v] 40)) (some ⟨w.heap.size, 0, none⟩) 1 1 a 1 := by
  have := lit1 w a v hx hv
  refine ⟨?_, Nat.le_refl _⟩
  have e : M.lims a = [a] := by
    rw [M.lims_pos h0, Nat.mod_eq_of_lt hx, Nat.div_eq_of_lt hx, M.lims_zero]
  rw [e]
  exact this
end

end Go.Proofs.Ytbcceopgmkmbfaa
