/- litmusref01's Cmp, Sub, Div over rows of limbs; in numbers alone. -/
import Derived.Test.YtbcceopgmkmbfaaWRef
namespace Go.Proofs.Ytbcceopgmkmbfaa
open Go.RowKit
set_option linter.unusedVariables false

section
variable {w : World} {A B : Option Addr} {n c m d x y k j : Nat}
set_option maxHeartbeats 2000000
theorem cmpRN_lt (h : Nm w A n c x k) (g : Nm w B m d y j) (hk : k ≤ 1000) (hj : j ≤ 1000) (hc : x < y) : Calls Try.prog 23 #[.slice A n c, .slice B m d] w fun e w' => e = .returned (.int .i64 (cmpV x y)) ∧ Below w.heap.size w w' := by
  rw [cmpV_lt hc]
  have BB : Below w.heap.size w w := Below.refl _ _
  go_enter Try.func23, Try.ntmps23
  go_wp2_with fail
  refine (bitsN h hk).mono ?_
  rintro e w1 ⟨A1, n1, c1, rfl, P, hb1⟩
  replace h := h.below hb1
  replace g := g.below hb1
  replace BB := bl_trans BB hb1
  clear hb1
  go_wp2_with fail
  refine (bitsN g hj).mono ?_
  rintro e w2 ⟨A2, n2, c2, rfl, Q, hb2⟩
  replace h := h.below hb2
  replace g := g.below hb2
  replace P := P.below hb2
  replace BB := bl_trans BB hb2
  clear hb2
  go_wp2_with fail
  refine (lessN P Q (by omega) (by omega)).mono ?_
  rw [decide_eq_true hc]
  rintro e w3 ⟨rfl, hb3⟩
  replace h := h.below hb3
  replace g := g.below hb3
  replace BB := bl_trans BB hb3
  clear hb3 P Q
  go_wp2_with fail
  go_ret
  exact ⟨rfl, BB⟩
theorem cmpRN_gt (h : Nm w A n c x k) (g : Nm w B m d y j) (hk : k ≤ 1000) (hj : j ≤ 1000) (hc : y < x) : Calls Try.prog 23 #[.slice A n c, .slice B m d] w fun e w' => e = .returned (.int .i64 (cmpV x y)) ∧ Below w.heap.size w w' := by
  rw [cmpV_gt hc]
  have BB : Below w.heap.size w w := Below.refl _ _
  go_enter Try.func23, Try.ntmps23
  go_wp2_with fail
  refine (bitsN h hk).mono ?_
  rintro e w1 ⟨A1, n1, c1, rfl, P, hb1⟩
  replace h := h.below hb1
  replace g := g.below hb1
  replace BB := bl_trans BB hb1
  clear hb1
  go_wp2_with fail
  refine (bitsN g hj).mono ?_
  rintro e w2 ⟨A2, n2, c2, rfl, Q, hb2⟩
  replace h := h.below hb2
  replace g := g.below hb2
  replace P := P.below hb2
  replace BB := bl_trans BB hb2
  clear hb2
  go_wp2_with fail
  refine (lessN P Q (by omega) (by omega)).mono ?_
  rw [decide_eq_false (show ¬ x < y by omega)]
  rintro e w3 ⟨rfl, hb3⟩
  replace h := h.below hb3
  replace g := g.below hb3
  replace BB := bl_trans BB hb3
  clear hb3 P Q
  go_wp2_with fail
  refine (bitsN g hj).mono ?_
  rintro e w4 ⟨A4, n4, c4, rfl, P, hb1⟩
  replace h := h.below hb1
  replace g := g.below hb1
  replace BB := bl_trans BB hb1
  clear hb1
  go_wp2_with fail
  refine (bitsN h hk).mono ?_
  rintro e w5 ⟨A5, n5, c5, rfl, Q, hb2⟩
  replace h := h.below hb2
  replace g := g.below hb2
  replace P := P.below hb2
  replace BB := bl_trans BB hb2
  clear hb2
  go_wp2_with fail
  refine (lessN P Q (by omega) (by omega)).mono ?_
  rw [decide_eq_true hc]
  rintro e w6 ⟨rfl, hb6⟩
  replace h := h.below hb6
  replace g := g.below hb6
  replace BB := bl_trans BB hb6
  clear hb6 P Q
  go_wp2_with fail
  go_ret
  exact ⟨rfl, BB⟩
theorem cmpRN_eq (h : Nm w A n c x k) (g : Nm w B m d y j) (hk : k ≤ 1000) (hj : j ≤ 1000) (hc : x = y) : Calls Try.prog 23 #[.slice A n c, .slice B m d] w fun e w' => e = .returned (.int .i64 (cmpV x y)) ∧ Below w.heap.size w w' := by
  subst hc
  rw [cmpV_eq]
  have BB : Below w.heap.size w w := Below.refl _ _
  go_enter Try.func23, Try.ntmps23
  go_wp2_with fail
  refine (bitsN h hk).mono ?_
  rintro e w1 ⟨A1, n1, c1, rfl, P, hb1⟩
  replace h := h.below hb1
  replace g := g.below hb1
  replace BB := bl_trans BB hb1
  clear hb1
  go_wp2_with fail
  refine (bitsN g hj).mono ?_
  rintro e w2 ⟨A2, n2, c2, rfl, Q, hb2⟩
  replace h := h.below hb2
  replace g := g.below hb2
  replace P := P.below hb2
  replace BB := bl_trans BB hb2
  clear hb2
  go_wp2_with fail
  refine (lessN P Q (by omega) (by omega)).mono ?_
  rw [decide_eq_false (show ¬ x < x by omega)]
  rintro e w3 ⟨rfl, hb3⟩
  replace h := h.below hb3
  replace g := g.below hb3
  replace BB := bl_trans BB hb3
  clear hb3 P Q
  go_wp2_with fail
  refine (bitsN g hj).mono ?_
  rintro e w4 ⟨A4, n4, c4, rfl, P, hb1⟩
  replace h := h.below hb1
  replace g := g.below hb1
  replace BB := bl_trans BB hb1
  clear hb1
  go_wp2_with fail
  refine (bitsN h hk).mono ?_
  rintro e w5 ⟨A5, n5, c5, rfl, Q, hb2⟩
  replace h := h.below hb2
  replace g := g.below hb2
  replace P := P.below hb2
  replace BB := bl_trans BB hb2
  clear hb2
  go_wp2_with fail
  refine (lessN P Q (by omega) (by omega)).mono ?_
  rw [decide_eq_false (show ¬ x < x by omega)]
  rintro e w6 ⟨rfl, hb6⟩
  replace h := h.below hb6
  replace g := g.below hb6
  replace BB := bl_trans BB hb6
  clear hb6 P Q
  go_wp2_with fail
  go_ret
  exact ⟨rfl, BB⟩
theorem subRN_no (h : Nm w A n c x k) (g : Nm w B m d y j) (hk : k ≤ 1000) (hj : j ≤ 1000) (hc : x < y) : Calls Try.prog 16 #[.slice A n c, .slice B m d] w (GivB w 0 0 false) := by
  have BB : Below w.heap.size w w := Below.refl _ _
  go_enter Try.func16, Try.ntmps16
  go_wp2_with fail
  refine (bitsN h hk).mono ?_
  rintro e w1 ⟨A1, n1, c1, rfl, P, hb1⟩
  replace h := h.below hb1
  replace g := g.below hb1
  replace BB := bl_trans BB hb1
  clear hb1
  go_wp2_with fail
  refine (bitsN g hj).mono ?_
  rintro e w2 ⟨A2, n2, c2, rfl, Q, hb2⟩
  replace h := h.below hb2
  replace g := g.below hb2
  replace P := P.below hb2
  replace BB := bl_trans BB hb2
  clear hb2
  go_wp2_with fail
  refine (lessN P Q (by omega) (by omega)).mono ?_
  rw [decide_eq_true hc]
  rintro e w3 ⟨rfl, hb3⟩
  replace h := h.below hb3
  replace g := g.below hb3
  replace BB := bl_trans BB hb3
  clear hb3 P Q
  go_wp2_with fail
  go_ret2
  exact ⟨none, 0, 0, rfl, ⟨by rw [M.lims_zero]; exact RdK.empty _ _ _ (fun _ => rfl), Nat.le_refl _⟩, BB⟩
theorem subRN_yes (h : Nm w A n c x k) (g : Nm w B m d y j) (hk : k ≤ 1000) (hj : j ≤ 1000) (hc : y ≤ x) : Calls Try.prog 16 #[.slice A n c, .slice B m d] w (GivB w (x - y) k true) := by
  have hlt : x - y < M.R ^ k := by have := h.lt; omega
  have BB : Below w.heap.size w w := Below.refl _ _
  go_enter Try.func16, Try.ntmps16
  go_wp2_with fail
  refine (bitsN h hk).mono ?_
  rintro e w1 ⟨A1, n1, c1, rfl, P, hb1⟩
  replace h := h.below hb1
  replace g := g.below hb1
  replace BB := bl_trans BB hb1
  clear hb1
  go_wp2_with fail
  refine (bitsN g hj).mono ?_
  rintro e w2 ⟨A2, n2, c2, rfl, Q, hb2⟩
  replace h := h.below hb2
  replace g := g.below hb2
  replace P := P.below hb2
  replace BB := bl_trans BB hb2
  clear hb2
  go_wp2_with fail
  refine (lessN P Q (by omega) (by omega)).mono ?_
  rw [decide_eq_false (show ¬ x < y by omega)]
  rintro e w3 ⟨rfl, hb3⟩
  replace h := h.below hb3
  replace g := g.below hb3
  replace BB := bl_trans BB hb3
  clear hb3 P Q
  go_wp2_with fail
  refine (bitsN h hk).mono ?_
  rintro e w4 ⟨A4, n4, c4, rfl, P, hb1⟩
  replace h := h.below hb1
  replace g := g.below hb1
  replace BB := bl_trans BB hb1
  clear hb1
  go_wp2_with fail
  refine (bitsN g hj).mono ?_
  rintro e w5 ⟨A5, n5, c5, rfl, Q, hb2⟩
  replace h := h.below hb2
  replace g := g.below hb2
  replace P := P.below hb2
  replace BB := bl_trans BB hb2
  clear hb2
  go_wp2_with fail
  refine (subBN P Q (by omega) (by omega) hc).mono ?_
  rintro e w8 ⟨A8, n8, c8, rfl, R8, hb8⟩
  replace BB := bl_trans BB hb8
  clear hb8 P Q
  go_wp2_with fail
  refine (limbsN R8 (by omega) hlt).mono ?_
  rintro e w9 ⟨A9, n9, c9, rfl, S9, hb9⟩
  replace BB := bl_trans BB hb9
  clear hb9 R8
  go_wp2_with fail
  go_ret2
  exact ⟨A9, n9, c9, rfl, S9, BB⟩
theorem divRN_zero (h : Nm w A n c x k) (g : Nm w B m d y j) (hk : k ≤ 1000) (hj : j ≤ 1000) (hc : y = 0) : Calls Try.prog 18 #[.slice A n c, .slice B m d] w (GivD w 0 0 0 0 3) := by
  have BB : Below w.heap.size w w := Below.refl _ _
  go_enter Try.func18, Try.ntmps18
  go_wp2_with fail
  refine (bitsN g hj).mono ?_
  rintro e w1 ⟨A1, n1, c1, rfl, P, hb1⟩
  replace BB := bl_trans BB hb1
  obtain rfl : n1 = 0 := by
    obtain ⟨bs, r1, r2, r3⟩ := P.row
    rw [← r1.len]
    exact (M.bval_zero r2).2 (by rw [r3]; exact hc)
  clear hb1 P
  go_wp2_with fail
  go_ret3
  exact ⟨none, 0, 0, none, 0, 0, rfl, ⟨by rw [M.lims_zero]; exact RdK.empty _ _ _ (fun _ => rfl), Nat.le_refl _⟩, ⟨by rw [M.lims_zero]; exact RdK.empty _ _ _ (fun _ => rfl), Nat.le_refl _⟩, BB⟩
theorem divRN (h : Nm w A n c x k) (g : Nm w B m d y j) (hk : k ≤ 1000) (hj : j ≤ 1000) (hc : y ≠ 0) : Calls Try.prog 18 #[.slice A n c, .slice B m d] w (GivD w (x / y) k (x % y) j 0) := by
  have hq : x / y < M.R ^ k := Nat.lt_of_le_of_lt (Nat.div_le_self _ _) h.lt
  have hr : x % y < M.R ^ j := Nat.lt_trans (Nat.mod_lt _ (Nat.pos_of_ne_zero hc)) g.lt
  have BB : Below w.heap.size w w := Below.refl _ _
  go_enter Try.func18, Try.ntmps18
  go_wp2_with fail
  refine (bitsN g hj).mono ?_
  rintro e w1 ⟨A1, n1, c1, rfl, P, hb1⟩
  replace h := h.below hb1
  replace g := g.below hb1
  replace BB := bl_trans BB hb1
  have hn1 : ((n1 : Int) == 0) = false := by
    obtain ⟨bs, r1, r2, r3⟩ := P.row
    have : n1 ≠ 0 := fun h9 => hc (by rw [← r3]; exact (M.bval_zero r2).1 (by rw [r1.len]; exact h9))
    simp
    omega
  clear hb1 P
  go_wp2_with fail
  refine (bitsN h hk).mono ?_
  rintro e w2 ⟨A2, n2, c2, rfl, P, hb1⟩
  replace h := h.below hb1
  replace g := g.below hb1
  replace BB := bl_trans BB hb1
  clear hb1
  go_wp2_with fail
  refine (bitsN g hj).mono ?_
  rintro e w3 ⟨A3, n3, c3, rfl, Q, hb2⟩
  replace h := h.below hb2
  replace g := g.below hb2
  replace P := P.below hb2
  replace BB := bl_trans BB hb2
  clear hb2
  go_wp2_with fail
  refine (divBN P Q (by omega) (by omega) hc).mono ?_
  rintro e w8 ⟨A8, n8, c8, B8, m8, d8, rfl, R8, S8, hb8⟩
  replace BB := bl_trans BB hb8
  clear hb8 P Q
  go_wp2_with fail
  refine (limbsN R8 (by omega) hq).mono ?_
  rintro e w9 ⟨A9, n9, c9, rfl, S9, hb9⟩
  replace S8 := S8.below hb9
  replace BB := bl_trans BB hb9
  clear hb9 R8
  go_wp2_with fail
  refine (limbsN S8 (by omega) hr).mono ?_
  rintro e w10 ⟨A10, n10, c10, rfl, S10, hb10⟩
  replace S9 := S9.below hb10
  replace BB := bl_trans BB hb10
  clear hb10 S8
  go_wp2_with fail
  go_ret3
  exact ⟨A9, n9, c9, A10, n10, c10, rfl, S9, S10, BB⟩
end

end Go.Proofs.Ytbcceopgmkmbfaa
