/- litmusref01's functions over rows of limbs: Trim, Cmp, Add, Sub, Mul, Div; in numbers alone. -/
import Derived.Test.YthjgonfohjgfaaaML
import Derived.Test.YthjgonfohjgfaaaMK
namespace Go.Proofs.Ythjgonfohjgfaaa
open Go.RowKit
set_option linter.unusedVariables false

/-- Bits of a number, without highest zeros, at most k. -/
structure Bm (w : World) (A : Option Addr) (n c v k : Nat) : Prop where
  row : ∃ bs, RdB w A n c bs ∧ M.trB bs = bs ∧ M.bval bs = v
  le : n ≤ k

section
variable {w w' : World} {A B : Option Addr} {n c m d v x y k j : Nat}
theorem Bm.below (h : Bm w A n c v k) (hb : Below w.heap.size w w') : Bm w' A n c v k := by
  obtain ⟨bs, h1, h2⟩ := h.row
  exact ⟨⟨bs, h1.below hb, h2⟩, h.le⟩
theorem pow_R (k : Nat) : M.R ^ k = 2 ^ (32 * k) := by rw [Nat.pow_mul]; rfl
def GivBm (w : World) (v k : Nat) (e : Ending) (w' : World) : Prop := ∃ A n c, e = .returned (.slice A n c) ∧ Bm w' A n c v k ∧ Below w.heap.size w w'
theorem givBm {e : Ending} (hv : v < 2 ^ k) (h : GivesBits w v e w') : GivBm w v k e w' := by
  obtain ⟨A, n, c, bs, rfl, ho, ht, hb, hbl⟩ := h
  have hl := M.bval_len ht (k := k) (by rw [hb]; exact hv)
  rw [ho.len] at hl
  exact ⟨A, n, c, rfl, ⟨⟨bs, ho.rd, ht, hb⟩, hl⟩, hbl⟩
theorem bitsN (h : Nm w A n c x k) (hk : k ≤ 1000) : Calls Try.prog 92 #[.slice A n c] w (GivBm w x (32 * k)) := by
  have h1 := h.lt
  rw [pow_R] at h1
  have hl := h.le
  obtain ⟨xs, hx, rfl⟩ := h.row
  exact (bits_any _ _ _ _ _ hx (by omega)).mono fun e w' r => givBm h1 r
theorem limbsN (h : Bm w A n c x k) (hk : k ≤ 100000) (hx : x < M.R ^ j) : Calls Try.prog 51 #[.slice A n c] w (GivN w x j) := by
  have hl := h.le
  obtain ⟨bs, hb, ht, rfl⟩ := h.row
  exact (limbs_any _ _ _ _ _ hb (by omega)).mono fun e w' r => givN hx r
theorem lessN (h : Bm w A n c x k) (g : Bm w B m d y j) (hk : k ≤ 100000) (hj : j ≤ 100000) : Calls Try.prog 93 #[.slice A n c, .slice B m d] w fun e w' => e = .returned (.bool (decide (x < y))) ∧ Below w.heap.size w w' := by
  have hl := h.le
  have gl := g.le
  obtain ⟨es, he, _, rfl⟩ := h.row
  obtain ⟨bs, hb, _, rfl⟩ := g.row
  exact less_any _ _ _ _ _ _ _ _ _ he hb (by omega) (by omega)
theorem subBN (h : Bm w A n c x k) (g : Bm w B m d y j) (hk : k ≤ 100000) (hj : j ≤ 100000) (hle : y ≤ x) : Calls Try.prog 94 #[.slice A n c, .slice B m d] w (GivBm w (x - y) k) := by
  have hl := h.le
  have gl := g.le
  obtain ⟨es, he, ht, rfl⟩ := h.row
  obtain ⟨bs, hb, hs, rfl⟩ := g.row
  have hlt := M.bval_lt es
  rw [he.len] at hlt
  have h2 : (2 : Nat) ^ n ≤ 2 ^ k := Nat.pow_le_pow_right (by omega) hl
  refine (subB_any _ _ _ _ _ _ _ _ _ he hb (by omega) ?_ hle).mono fun e w' r => givBm (by omega) r
  refine Nat.le_of_not_lt fun hc => ?_
  have := M.bval_lt_of_len (xs := es) (ys := bs) hs (by rw [he.len, hb.len]; exact hc)
  omega
theorem mulBN (h : Bm w A n c x k) (g : Bm w B m d y j) (hk : k ≤ 100000) (hj : j ≤ 100000) : Calls Try.prog 95 #[.slice A n c, .slice B m d] w (GivBm w (x * y) (k + j)) := by
  have hl := h.le
  have gl := g.le
  obtain ⟨es, he, ht, rfl⟩ := h.row
  obtain ⟨bs, hb, hs, rfl⟩ := g.row
  have h1 := M.bval_lt es
  have h2 := M.bval_lt bs
  rw [he.len] at h1
  rw [hb.len] at h2
  have h3 : M.bval es * M.bval bs < 2 ^ n * 2 ^ m := Nat.mul_lt_mul'' h1 h2
  rw [← Nat.pow_add] at h3
  have h4 : (2 : Nat) ^ (n + m) ≤ 2 ^ (k + j) := Nat.pow_le_pow_right (by omega) (by omega)
  exact (mulB_any _ _ _ _ _ _ _ _ _ he hb (by omega) (by omega)).mono fun e w' r => givBm (by omega) r
def GivAd (w : World) (v k : Nat) (e : Ending) (w' : World) : Prop := ∃ A n c, e = .returned (.slice A n c) ∧ (∃ bs, RdB w' A n c bs ∧ M.bval bs = v ∧ n ≤ k) ∧ Below w.heap.size w w'
theorem addBN (h : Bm w A n c x k) (g : Bm w B m d y j) (hk : k ≤ 100000) (hj : j ≤ 100000) : Calls Try.prog 91 #[.slice A n c, .slice B m d] w (GivAd w (x + y) 100001) := by
  have hl := h.le
  have gl := g.le
  obtain ⟨es, he, ht, rfl⟩ := h.row
  obtain ⟨bs, hb, hs, rfl⟩ := g.row
  refine (addB_any _ _ _ _ _ _ _ _ _ he hb (by omega) (by omega)).mono ?_
  rintro e w' ⟨C, p, q, zs, rfl, ho, hp, hv, hbl⟩
  exact ⟨C, p, q, rfl, ⟨zs, ho.rd, hv, by omega⟩, hbl⟩
def GivDv (w : World) (q r kq kr : Nat) (e : Ending) (w' : World) : Prop := ∃ A n c B m d, e = .returned (.tuple #[.slice A n c, .slice B m d]) ∧ Bm w' A n c q kq ∧ Bm w' B m d r kr ∧ Below w.heap.size w w'
theorem divBN (h : Bm w A n c x k) (g : Bm w B m d y j) (hk : k ≤ 100000) (hj : j ≤ 100000) (hy : y ≠ 0) : Calls Try.prog 101 #[.slice A n c, .slice B m d] w (GivDv w (x / y) (x % y) k j) := by
  have hl := h.le
  have gl := g.le
  obtain ⟨es, he, ht, rfl⟩ := h.row
  obtain ⟨bs, hb, hs, rfl⟩ := g.row
  have hpos := Nat.pos_of_ne_zero hy
  have h1 := M.bval_lt es
  have h2 := M.bval_lt bs
  rw [he.len] at h1
  rw [hb.len] at h2
  refine (divB_any _ _ _ _ _ _ _ _ _ he hb (by omega) (by omega) hs hpos).mono ?_
  rintro e w' ⟨A1, n1, c1, qs, B1, m1, d1, rs, rfl, r1, r2, r3, r4, r5, r6, hbl⟩
  have l1 := M.bval_len r2 (k := n) (by rw [r3]; exact Nat.lt_of_le_of_lt (Nat.div_le_self _ _) h1)
  have l2 := M.bval_len r5 (k := m) (by rw [r6]; exact Nat.lt_trans (Nat.mod_lt _ hpos) h2)
  rw [r1.len] at l1
  rw [r4.len] at l2
  exact ⟨A1, n1, c1, B1, m1, d1, rfl, ⟨⟨qs, r1, r2, r3⟩, by omega⟩, ⟨⟨rs, r4, r5, r6⟩, by omega⟩, hbl⟩
end

section
variable {w : World} {A B : Option Addr} {n c m d x y k j : Nat}
set_option maxHeartbeats 1000000
theorem trimRN (h : Nm w A n c x k) (hk : k ≤ 1000) : Calls Try.prog 90 #[.slice A n c] w (GivN w x k) := by
  have hx := h.lt
  go_enter Try.func90, Try.ntmps90
  go_wp2_with fail
  refine (bitsN h hk).mono ?_
  rintro e w1 ⟨A1, n1, c1, rfl, P, hb1⟩
  go_wp2_with fail
  refine (limbsN P (by omega) hx).mono ?_
  rintro e w2 ⟨A2, n2, c2, rfl, Q, hb2⟩
  have BB := bl_trans hb1 hb2
  clear hb1 hb2 P h hx
  go_wp2_with fail
  go_ret
  exact ⟨A2, n2, c2, rfl, Q, BB⟩
theorem addRN (h : Nm w A n c x k) (g : Nm w B m d y j) (hk : k ≤ 1000) (hj : j ≤ 1000) : Calls Try.prog 61 #[.slice A n c, .slice B m d] w (GivN w (x + y) (max k j + 1)) := by
  have hx := add_lt_pow h.lt g.lt
  go_enter Try.func61, Try.ntmps61
  go_wp2_with fail
  refine (bitsN h hk).mono ?_
  rintro e w1 ⟨A1, n1, c1, rfl, P, hb1⟩
  replace g := g.below hb1
  go_wp2_with fail
  refine (bitsN g hj).mono ?_
  rintro e w2 ⟨A2, n2, c2, rfl, Q, hb2⟩
  replace P := P.below hb2
  have BB := bl_trans hb1 hb2
  clear hb1 hb2 h g
  go_wp2_with fail
  refine (addBN P Q (by omega) (by omega)).mono ?_
  rintro e w3 ⟨A3, n3, c3, rfl, ⟨zs, hz, hv, hl3⟩, hb3⟩
  replace BB := bl_trans BB hb3
  have HZ := Lib.hid hz
  have HV := Lib.hid hv
  have HX := Lib.hid hx
  clear hb3 P Q hz hv hx
  go_wp2_with fail
  refine (limbs_any _ _ _ _ _ HZ.out (by omega)).mono fun e w4 r => ?_
  rw [HV.out] at r
  obtain ⟨A4, n4, c4, rfl, S, hb4⟩ := givN HX.out r
  replace BB := bl_trans BB hb4
  clear hb4 r
  go_wp2_with fail
  go_ret
  exact ⟨A4, n4, c4, rfl, S, BB⟩
theorem mulRN (h : Nm w A n c x k) (g : Nm w B m d y j) (hk : k ≤ 1000) (hj : j ≤ 1000) : Calls Try.prog 64 #[.slice A n c, .slice B m d] w (GivN w (x * y) (k + j)) := by
  have hx := mul_lt_pow h.lt g.lt
  go_enter Try.func64, Try.ntmps64
  go_wp2_with fail
  refine (bitsN h hk).mono ?_
  rintro e w1 ⟨A1, n1, c1, rfl, P, hb1⟩
  replace g := g.below hb1
  go_wp2_with fail
  refine (bitsN g hj).mono ?_
  rintro e w2 ⟨A2, n2, c2, rfl, Q, hb2⟩
  replace P := P.below hb2
  have BB := bl_trans hb1 hb2
  clear hb1 hb2 h g
  go_wp2_with fail
  refine (mulBN P Q (by omega) (by omega)).mono ?_
  rintro e w3 ⟨A3, n3, c3, rfl, R3, hb3⟩
  replace BB := bl_trans BB hb3
  clear hb3 P Q
  go_wp2_with fail
  refine (limbsN R3 (by omega) hx).mono ?_
  rintro e w4 ⟨A4, n4, c4, rfl, S, hb4⟩
  replace BB := bl_trans BB hb4
  clear hb4 R3 hx
  go_wp2_with fail
  go_ret
  exact ⟨A4, n4, c4, rfl, S, BB⟩
end

end Go.Proofs.Ythjgonfohjgfaaa

/- litmusref01's Cmp, Sub, Div over rows of limbs; in numbers alone. -/
namespace Go.Proofs.Ythjgonfohjgfaaa
open Go.RowKit
set_option linter.unusedVariables false

section
variable {w : World} {A B : Option Addr} {n c m d x y k j : Nat}
set_option maxHeartbeats 2000000
theorem subRN_no (h : Nm w A n c x k) (g : Nm w B m d y j) (hk : k ≤ 1000) (hj : j ≤ 1000) (hc : x < y) : Calls Try.prog 62 #[.slice A n c, .slice B m d] w (GivB w 0 0 false) := by
  have BB : Below w.heap.size w w := Below.refl _ _
  go_enter Try.func62, Try.ntmps62
  go_wp2_with fail
  refine (bitsN h hk).mono ?_
  rintro e w1 ⟨A1, n1, c1, rfl, P, hb1⟩
  replace h := h.below hb1
  replace g := g.below hb1
  replace BB := bl_trans BB hb1
  clear hb1
  go_wp2_with fail
  refine (bitsN g hj).mono ?_
  rintro e w2 ⟨A2, n2, c2, rfl, Q, hb2⟩
  replace h := h.below hb2
  replace g := g.below hb2
  replace P := P.below hb2
  replace BB := bl_trans BB hb2
  clear hb2
  go_wp2_with fail
  refine (lessN P Q (by omega) (by omega)).mono ?_
  rw [decide_eq_true hc]
  rintro e w3 ⟨rfl, hb3⟩
  replace h := h.below hb3
  replace g := g.below hb3
  replace BB := bl_trans BB hb3
  clear hb3 P Q
  go_wp2_with fail
  go_ret2
  exact ⟨none, 0, 0, rfl, ⟨by rw [M.lims_zero]; exact RdK.empty _ _ _ (fun _ => rfl), Nat.le_refl _⟩, BB⟩
theorem subRN_yes (h : Nm w A n c x k) (g : Nm w B m d y j) (hk : k ≤ 1000) (hj : j ≤ 1000) (hc : y ≤ x) : Calls Try.prog 62 #[.slice A n c, .slice B m d] w (GivB w (x - y) k true) := by
  have hlt : x - y < M.R ^ k := by have := h.lt; omega
  have BB : Below w.heap.size w w := Below.refl _ _
  go_enter Try.func62, Try.ntmps62
  go_wp2_with fail
  refine (bitsN h hk).mono ?_
  rintro e w1 ⟨A1, n1, c1, rfl, P, hb1⟩
  replace h := h.below hb1
  replace g := g.below hb1
  replace BB := bl_trans BB hb1
  clear hb1
  go_wp2_with fail
  refine (bitsN g hj).mono ?_
  rintro e w2 ⟨A2, n2, c2, rfl, Q, hb2⟩
  replace h := h.below hb2
  replace g := g.below hb2
  replace P := P.below hb2
  replace BB := bl_trans BB hb2
  clear hb2
  go_wp2_with fail
  refine (lessN P Q (by omega) (by omega)).mono ?_
  rw [decide_eq_false (show ¬ x < y by omega)]
  rintro e w3 ⟨rfl, hb3⟩
  replace h := h.below hb3
  replace g := g.below hb3
  replace BB := bl_trans BB hb3
  clear hb3 P Q
  go_wp2_with fail
  refine (bitsN h hk).mono ?_
  rintro e w4 ⟨A4, n4, c4, rfl, P, hb1⟩
  replace h := h.below hb1
  replace g := g.below hb1
  replace BB := bl_trans BB hb1
  clear hb1
  go_wp2_with fail
  refine (bitsN g hj).mono ?_
  rintro e w5 ⟨A5, n5, c5, rfl, Q, hb2⟩
  replace h := h.below hb2
  replace g := g.below hb2
  replace P := P.below hb2
  replace BB := bl_trans BB hb2
  clear hb2
  go_wp2_with fail
  refine (subBN P Q (by omega) (by omega) hc).mono ?_
  rintro e w8 ⟨A8, n8, c8, rfl, R8, hb8⟩
  replace BB := bl_trans BB hb8
  clear hb8 P Q
  go_wp2_with fail
  refine (limbsN R8 (by omega) hlt).mono ?_
  rintro e w9 ⟨A9, n9, c9, rfl, S9, hb9⟩
  replace BB := bl_trans BB hb9
  clear hb9 R8
  go_wp2_with fail
  go_ret2
  exact ⟨A9, n9, c9, rfl, S9, BB⟩
theorem divRN_zero (h : Nm w A n c x k) (g : Nm w B m d y j) (hk : k ≤ 1000) (hj : j ≤ 1000) (hc : y = 0) : Calls Try.prog 77 #[.slice A n c, .slice B m d] w (GivD w 0 0 0 0 3) := by
  have BB : Below w.heap.size w w := Below.refl _ _
  go_enter Try.func77, Try.ntmps77
  go_wp2_with fail
  refine (bitsN g hj).mono ?_
  rintro e w1 ⟨A1, n1, c1, rfl, P, hb1⟩
  replace BB := bl_trans BB hb1
  obtain rfl : n1 = 0 := by
    obtain ⟨bs, r1, r2, r3⟩ := P.row
    rw [← r1.len]
    exact (M.bval_zero r2).2 (by rw [r3]; exact hc)
  clear hb1 P
  go_wp2_with fail
  go_ret3
  exact ⟨none, 0, 0, none, 0, 0, rfl, ⟨by rw [M.lims_zero]; exact RdK.empty _ _ _ (fun _ => rfl), Nat.le_refl _⟩, ⟨by rw [M.lims_zero]; exact RdK.empty _ _ _ (fun _ => rfl), Nat.le_refl _⟩, BB⟩
theorem divRN (h : Nm w A n c x k) (g : Nm w B m d y j) (hk : k ≤ 1000) (hj : j ≤ 1000) (hc : y ≠ 0) : Calls Try.prog 77 #[.slice A n c, .slice B m d] w (GivD w (x / y) k (x % y) j 0) := by
  have hq : x / y < M.R ^ k := Nat.lt_of_le_of_lt (Nat.div_le_self _ _) h.lt
  have hr : x % y < M.R ^ j := Nat.lt_trans (Nat.mod_lt _ (Nat.pos_of_ne_zero hc)) g.lt
  have BB : Below w.heap.size w w := Below.refl _ _
  go_enter Try.func77, Try.ntmps77
  go_wp2_with fail
  refine (bitsN g hj).mono ?_
  rintro e w1 ⟨A1, n1, c1, rfl, P, hb1⟩
  replace h := h.below hb1
  replace g := g.below hb1
  replace BB := bl_trans BB hb1
  have hn1 : ((n1 : Int) == 0) = false := by
    obtain ⟨bs, r1, r2, r3⟩ := P.row
    have : n1 ≠ 0 := fun h9 => hc (by rw [← r3]; exact (M.bval_zero r2).1 (by rw [r1.len]; exact h9))
    simp
    omega
  clear hb1 P
  go_wp2_with fail
  refine (bitsN h hk).mono ?_
  rintro e w2 ⟨A2, n2, c2, rfl, P, hb1⟩
  replace h := h.below hb1
  replace g := g.below hb1
  replace BB := bl_trans BB hb1
  clear hb1
  go_wp2_with fail
  refine (bitsN g hj).mono ?_
  rintro e w3 ⟨A3, n3, c3, rfl, Q, hb2⟩
  replace h := h.below hb2
  replace g := g.below hb2
  replace P := P.below hb2
  replace BB := bl_trans BB hb2
  clear hb2
  go_wp2_with fail
  refine (divBN P Q (by omega) (by omega) hc).mono ?_
  rintro e w8 ⟨A8, n8, c8, B8, m8, d8, rfl, R8, S8, hb8⟩
  replace BB := bl_trans BB hb8
  clear hb8 P Q
  go_wp2_with fail
  refine (limbsN R8 (by omega) hq).mono ?_
  rintro e w9 ⟨A9, n9, c9, rfl, S9, hb9⟩
  replace S8 := S8.below hb9
  replace BB := bl_trans BB hb9
  clear hb9 R8
  go_wp2_with fail
  refine (limbsN S8 (by omega) hr).mono ?_
  rintro e w10 ⟨A10, n10, c10, rfl, S10, hb10⟩
  replace S9 := S9.below hb10
  replace BB := bl_trans BB hb10
  clear hb10 S8
  go_wp2_with fail
  go_ret3
  exact ⟨A9, n9, c9, A10, n10, c10, rfl, S9, S10, BB⟩
end

end Go.Proofs.Ythjgonfohjgfaaa
