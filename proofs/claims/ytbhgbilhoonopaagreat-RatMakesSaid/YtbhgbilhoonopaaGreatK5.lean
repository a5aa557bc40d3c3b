/- Contracts of the program's functions, as far as the claims ask for them (5 of 6). -/
import Derived.Test.YtbhgbilhoonopaaGreatK4
namespace Go.Proofs.YtbhgbilhoonopaaGreat
open Go.RowKit
set_option linter.unusedVariables false

/-- Bits of a number, without highest zeros, at most k. -/
structure Bm (w : World) (A : Option Addr) (n c v k : Nat) : Prop where
 row : ∃ bs, RdB w A n c bs ∧ M.trB bs = bs ∧ M.bval bs = v
 le : n ≤ k

section
variable {w w' : World} {A B : Option Addr} {n c m d v x y k j : Nat}
theorem Bm.below (h : Bm w A n c v k) (hb : Below w.heap.size w w') : Bm w' A n c v k := by
 obtain ⟨bs, h1, h2⟩ := h.row
 exact ⟨⟨bs, h1.below hb, h2⟩, h.le⟩
theorem pow_R (k : Nat) : M.R ^ k = 2 ^ (32 * k) := by rw [Nat.pow_mul]; rfl
def GivBm (w : World) (v k : Nat) (e : Ending) (w' : World) : Prop := ∃ A n c, e = .returned (.slice A n c) ∧ Bm w' A n c v k ∧ Below w.heap.size w w'
theorem givBm {e : Ending} (hv : v < 2 ^ k) (h : GivesBits w v e w') : GivBm w v k e w' := by
 obtain ⟨A, n, c, bs, rfl, ho, ht, hb, hbl⟩ := h
 have hl := M.bval_len ht (k := k) (by rw [hb]; exact hv)
 rw [ho.len] at hl
 exact ⟨A, n, c, rfl, ⟨⟨bs, ho.rd, ht, hb⟩, hl⟩, hbl⟩
theorem bitsN (h : Nm w A n c x k) (hk : k ≤ 1000) : Calls Tryz.prog 102 #[.slice A n c] w (GivBm w x (32 * k)) := by
 have h1 := h.lt
 rw [pow_R] at h1
 have hl := h.le
 obtain ⟨xs, hx, rfl⟩ := h.row
 exact (bits_any _ _ _ _ _ hx (by omega)).mono fun e w' r => givBm h1 r
theorem limbsN (h : Bm w A n c x k) (hk : k ≤ 100000) (hx : x < M.R ^ j) : Calls Tryz.prog 101 #[.slice A n c] w (GivN w x j) := by
 have hl := h.le
 obtain ⟨bs, hb, ht, rfl⟩ := h.row
 exact (limbs_any _ _ _ _ _ hb (by omega)).mono fun e w' r => givN hx r
theorem lessN (h : Bm w A n c x k) (g : Bm w B m d y j) (hk : k ≤ 100000) (hj : j ≤ 100000) : Calls Tryz.prog 139 #[.slice A n c, .slice B m d] w fun e w' => e = .returned (.bool (decide (x < y))) ∧ Below w.heap.size w w' := by
 have hl := h.le
 have gl := g.le
 obtain ⟨es, he, _, rfl⟩ := h.row
 obtain ⟨bs, hb, _, rfl⟩ := g.row
 exact less_any _ _ _ _ _ _ _ _ _ he hb (by omega) (by omega)
theorem subBN (h : Bm w A n c x k) (g : Bm w B m d y j) (hk : k ≤ 100000) (hj : j ≤ 100000) (hle : y ≤ x) : Calls Tryz.prog 140 #[.slice A n c, .slice B m d] w (GivBm w (x - y) k) := by
 have hl := h.le
 have gl := g.le
 obtain ⟨es, he, ht, rfl⟩ := h.row
 obtain ⟨bs, hb, hs, rfl⟩ := g.row
 have hlt := M.bval_lt es
 rw [he.len] at hlt
 have h2 : (2 : Nat) ^ n ≤ 2 ^ k := Nat.pow_le_pow_right (by omega) hl
 refine (subB_any _ _ _ _ _ _ _ _ _ he hb (by omega) ?_ hle).mono fun e w' r => givBm (by omega) r
 refine Nat.le_of_not_lt fun hc => ?_
 have := M.bval_lt_of_len (xs := es) (ys := bs) hs (by rw [he.len, hb.len]; exact hc)
 omega
theorem mulBN (h : Bm w A n c x k) (g : Bm w B m d y j) (hk : k ≤ 100000) (hj : j ≤ 100000) : Calls Tryz.prog 135 #[.slice A n c, .slice B m d] w (GivBm w (x * y) (k + j)) := by
 have hl := h.le
 have gl := g.le
 obtain ⟨es, he, ht, rfl⟩ := h.row
 obtain ⟨bs, hb, hs, rfl⟩ := g.row
 have h1 := M.bval_lt es
 have h2 := M.bval_lt bs
 rw [he.len] at h1
 rw [hb.len] at h2
 have h3 : M.bval es * M.bval bs < 2 ^ n * 2 ^ m := Nat.mul_lt_mul'' h1 h2
 rw [← Nat.pow_add] at h3
 have h4 : (2 : Nat) ^ (n + m) ≤ 2 ^ (k + j) := Nat.pow_le_pow_right (by omega) (by omega)
 exact (mulB_any _ _ _ _ _ _ _ _ _ he hb (by omega) (by omega)).mono fun e w' r => givBm (by omega) r
def GivAd (w : World) (v k : Nat) (e : Ending) (w' : World) : Prop := ∃ A n c, e = .returned (.slice A n c) ∧ (∃ bs, RdB w' A n c bs ∧ M.bval bs = v ∧ n ≤ k) ∧ Below w.heap.size w w'
theorem addBN (h : Bm w A n c x k) (g : Bm w B m d y j) (hk : k ≤ 100000) (hj : j ≤ 100000) : Calls Tryz.prog 121 #[.slice A n c, .slice B m d] w (GivAd w (x + y) 100001) := by
 have hl := h.le
 have gl := g.le
 obtain ⟨es, he, ht, rfl⟩ := h.row
 obtain ⟨bs, hb, hs, rfl⟩ := g.row
 refine (addB_any _ _ _ _ _ _ _ _ _ he hb (by omega) (by omega)).mono ?_
 rintro e w' ⟨C, p, q, zs, rfl, ho, hp, hv, hbl⟩
 exact ⟨C, p, q, rfl, ⟨zs, ho.rd, hv, by omega⟩, hbl⟩
def GivDv (w : World) (q r kq kr : Nat) (e : Ending) (w' : World) : Prop := ∃ A n c B m d, e = .returned (.tuple #[.slice A n c, .slice B m d]) ∧ Bm w' A n c q kq ∧ Bm w' B m d r kr ∧ Below w.heap.size w w'
theorem divBN (h : Bm w A n c x k) (g : Bm w B m d y j) (hk : k ≤ 100000) (hj : j ≤ 100000) (hy : y ≠ 0) : Calls Tryz.prog 120 #[.slice A n c, .slice B m d] w (GivDv w (x / y) (x % y) k j) := by
 have hl := h.le
 have gl := g.le
 obtain ⟨es, he, ht, rfl⟩ := h.row
 obtain ⟨bs, hb, hs, rfl⟩ := g.row
 have hpos := Nat.pos_of_ne_zero hy
 have h1 := M.bval_lt es
 have h2 := M.bval_lt bs
 rw [he.len] at h1
 rw [hb.len] at h2
 refine (divB_any _ _ _ _ _ _ _ _ _ he hb (by omega) (by omega) hs hpos).mono ?_
 rintro e w' ⟨A1, n1, c1, qs, B1, m1, d1, rs, rfl, r1, r2, r3, r4, r5, r6, hbl⟩
 have l1 := M.bval_len r2 (k := n) (by rw [r3]; exact Nat.lt_of_le_of_lt (Nat.div_le_self _ _) h1)
 have l2 := M.bval_len r5 (k := m) (by rw [r6]; exact Nat.lt_trans (Nat.mod_lt _ hpos) h2)
 rw [r1.len] at l1
 rw [r4.len] at l2
 exact ⟨A1, n1, c1, B1, m1, d1, rfl, ⟨⟨qs, r1, r2, r3⟩, by omega⟩, ⟨⟨rs, r4, r5, r6⟩, by omega⟩, hbl⟩
end

section
variable {w : World} {A B : Option Addr} {n c m d x y k j : Nat}
set_option maxHeartbeats 1000000
theorem trimRN (h : Nm w A n c x k) (hk : k ≤ 1000) : Calls Tryz.prog 50 #[.slice A n c] w (GivN w x k) := by
 have hx := h.lt
 go_enter Tryz.func50, Tryz.ntmps50
 go_wp2_with fail
 refine (bitsN h hk).mono ?_
 rintro e w1 ⟨A1, n1, c1, rfl, P, hb1⟩
 go_wp2_with fail
 refine (limbsN P (by omega) hx).mono ?_
 rintro e w2 ⟨A2, n2, c2, rfl, Q, hb2⟩
 have BB := bl_trans hb1 hb2
 clear hb1 hb2 P h hx
 go_wp2_with fail
 go_ret
 exact ⟨A2, n2, c2, rfl, Q, BB⟩
theorem addRN (h : Nm w A n c x k) (g : Nm w B m d y j) (hk : k ≤ 1000) (hj : j ≤ 1000) : Calls Tryz.prog 79 #[.slice A n c, .slice B m d] w (GivN w (x + y) (max k j + 1)) := by
 have hx := add_lt_pow h.lt g.lt
 go_enter Tryz.func79, Tryz.ntmps79
 go_wp2_with fail
 refine (bitsN h hk).mono ?_
 rintro e w1 ⟨A1, n1, c1, rfl, P, hb1⟩
 replace g := g.below hb1
 go_wp2_with fail
 refine (bitsN g hj).mono ?_
 rintro e w2 ⟨A2, n2, c2, rfl, Q, hb2⟩
 replace P := P.below hb2
 have BB := bl_trans hb1 hb2
 clear hb1 hb2 h g
 go_wp2_with fail
 refine (addBN P Q (by omega) (by omega)).mono ?_
 rintro e w3 ⟨A3, n3, c3, rfl, ⟨zs, hz, hv, hl3⟩, hb3⟩
 replace BB := bl_trans BB hb3
 have HZ := Lib.hid hz
 have HV := Lib.hid hv
 have HX := Lib.hid hx
 clear hb3 P Q hz hv hx
 go_wp2_with fail
 refine (limbs_any _ _ _ _ _ HZ.out (by omega)).mono fun e w4 r => ?_
 rw [HV.out] at r
 obtain ⟨A4, n4, c4, rfl, S, hb4⟩ := givN HX.out r
 replace BB := bl_trans BB hb4
 clear hb4 r
 go_wp2_with fail
 go_ret
 exact ⟨A4, n4, c4, rfl, S, BB⟩
theorem mulRN (h : Nm w A n c x k) (g : Nm w B m d y j) (hk : k ≤ 1000) (hj : j ≤ 1000) : Calls Tryz.prog 103 #[.slice A n c, .slice B m d] w (GivN w (x * y) (k + j)) := by
 have hx := mul_lt_pow h.lt g.lt
 go_enter Tryz.func103, Tryz.ntmps103
 go_wp2_with fail
 refine (bitsN h hk).mono ?_
 rintro e w1 ⟨A1, n1, c1, rfl, P, hb1⟩
 replace g := g.below hb1
 go_wp2_with fail
 refine (bitsN g hj).mono ?_
 rintro e w2 ⟨A2, n2, c2, rfl, Q, hb2⟩
 replace P := P.below hb2
 have BB := bl_trans hb1 hb2
 clear hb1 hb2 h g
 go_wp2_with fail
 refine (mulBN P Q (by omega) (by omega)).mono ?_
 rintro e w3 ⟨A3, n3, c3, rfl, R3, hb3⟩
 replace BB := bl_trans BB hb3
 clear hb3 P Q
 go_wp2_with fail
 refine (limbsN R3 (by omega) hx).mono ?_
 rintro e w4 ⟨A4, n4, c4, rfl, S, hb4⟩
 replace BB := bl_trans BB hb4
 clear hb4 R3 hx
 go_wp2_with fail
 go_ret
 exact ⟨A4, n4, c4, rfl, S, BB⟩
end

end Go.Proofs.YtbhgbilhoonopaaGreat

/- litmusref01's Cmp, Sub, Div over rows of limbs; in numbers alone. -/
namespace Go.Proofs.YtbhgbilhoonopaaGreat
open Go.RowKit
set_option linter.unusedVariables false

section
variable {w : World} {A B : Option Addr} {n c m d x y k j : Nat}
set_option maxHeartbeats 2000000
theorem cmpRN_lt (h : Nm w A n c x k) (g : Nm w B m d y j) (hk : k ≤ 1000) (hj : j ≤ 1000) (hc : x < y) : Calls Tryz.prog 106 #[.slice A n c, .slice B m d] w fun e w' => e = .returned (.int .i64 (cmpV x y)) ∧ Below w.heap.size w w' := by
 rw [cmpV_lt hc]
 have BB : Below w.heap.size w w := Below.refl _ _
 go_enter Tryz.func106, Tryz.ntmps106
 go_wp2_with fail
 refine (bitsN h hk).mono ?_
 rintro e w1 ⟨A1, n1, c1, rfl, P, hb1⟩
 replace h := h.below hb1
 replace g := g.below hb1
 replace BB := bl_trans BB hb1
 clear hb1
 go_wp2_with fail
 refine (bitsN g hj).mono ?_
 rintro e w2 ⟨A2, n2, c2, rfl, Q, hb2⟩
 replace h := h.below hb2
 replace g := g.below hb2
 replace P := P.below hb2
 replace BB := bl_trans BB hb2
 clear hb2
 go_wp2_with fail
 refine (lessN P Q (by omega) (by omega)).mono ?_
 rw [decide_eq_true hc]
 rintro e w3 ⟨rfl, hb3⟩
 replace h := h.below hb3
 replace g := g.below hb3
 replace BB := bl_trans BB hb3
 clear hb3 P Q
 go_wp2_with fail
 go_ret
 exact ⟨rfl, BB⟩
theorem cmpRN_gt (h : Nm w A n c x k) (g : Nm w B m d y j) (hk : k ≤ 1000) (hj : j ≤ 1000) (hc : y < x) : Calls Tryz.prog 106 #[.slice A n c, .slice B m d] w fun e w' => e = .returned (.int .i64 (cmpV x y)) ∧ Below w.heap.size w w' := by
 rw [cmpV_gt hc]
 have BB : Below w.heap.size w w := Below.refl _ _
 go_enter Tryz.func106, Tryz.ntmps106
 go_wp2_with fail
 refine (bitsN h hk).mono ?_
 rintro e w1 ⟨A1, n1, c1, rfl, P, hb1⟩
 replace h := h.below hb1
 replace g := g.below hb1
 replace BB := bl_trans BB hb1
 clear hb1
 go_wp2_with fail
 refine (bitsN g hj).mono ?_
 rintro e w2 ⟨A2, n2, c2, rfl, Q, hb2⟩
 replace h := h.below hb2
 replace g := g.below hb2
 replace P := P.below hb2
 replace BB := bl_trans BB hb2
 clear hb2
 go_wp2_with fail
 refine (lessN P Q (by omega) (by omega)).mono ?_
 rw [decide_eq_false (show ¬ x < y by omega)]
 rintro e w3 ⟨rfl, hb3⟩
 replace h := h.below hb3
 replace g := g.below hb3
 replace BB := bl_trans BB hb3
 clear hb3 P Q
 go_wp2_with fail
 refine (bitsN g hj).mono ?_
 rintro e w4 ⟨A4, n4, c4, rfl, P, hb1⟩
 replace h := h.below hb1
 replace g := g.below hb1
 replace BB := bl_trans BB hb1
 clear hb1
 go_wp2_with fail
 refine (bitsN h hk).mono ?_
 rintro e w5 ⟨A5, n5, c5, rfl, Q, hb2⟩
 replace h := h.below hb2
 replace g := g.below hb2
 replace P := P.below hb2
 replace BB := bl_trans BB hb2
 clear hb2
 go_wp2_with fail
 refine (lessN P Q (by omega) (by omega)).mono ?_
 rw [decide_eq_true hc]
 rintro e w6 ⟨rfl, hb6⟩
 replace h := h.below hb6
 replace g := g.below hb6
 replace BB := bl_trans BB hb6
 clear hb6 P Q
 go_wp2_with fail
 go_ret
 exact ⟨rfl, BB⟩
theorem cmpRN_eq (h : Nm w A n c x k) (g : Nm w B m d y j) (hk : k ≤ 1000) (hj : j ≤ 1000) (hc : x = y) : Calls Tryz.prog 106 #[.slice A n c, .slice B m d] w fun e w' => e = .returned (.int .i64 (cmpV x y)) ∧ Below w.heap.size w w' := by
 subst hc
 rw [cmpV_eq]
 have BB : Below w.heap.size w w := Below.refl _ _
 go_enter Tryz.func106, Tryz.ntmps106
 go_wp2_with fail
 refine (bitsN h hk).mono ?_
 rintro e w1 ⟨A1, n1, c1, rfl, P, hb1⟩
 replace h := h.below hb1
 replace g := g.below hb1
 replace BB := bl_trans BB hb1
 clear hb1
 go_wp2_with fail
 refine (bitsN g hj).mono ?_
 rintro e w2 ⟨A2, n2, c2, rfl, Q, hb2⟩
 replace h := h.below hb2
 replace g := g.below hb2
 replace P := P.below hb2
 replace BB := bl_trans BB hb2
 clear hb2
 go_wp2_with fail
 refine (lessN P Q (by omega) (by omega)).mono ?_
 rw [decide_eq_false (show ¬ x < x by omega)]
 rintro e w3 ⟨rfl, hb3⟩
 replace h := h.below hb3
 replace g := g.below hb3
 replace BB := bl_trans BB hb3
 clear hb3 P Q
 go_wp2_with fail
 refine (bitsN g hj).mono ?_
 rintro e w4 ⟨A4, n4, c4, rfl, P, hb1⟩
 replace h := h.below hb1
 replace g := g.below hb1
 replace BB := bl_trans BB hb1
 clear hb1
 go_wp2_with fail
 refine (bitsN h hk).mono ?_
 rintro e w5 ⟨A5, n5, c5, rfl, Q, hb2⟩
 replace h := h.below hb2
 replace g := g.below hb2
 replace P := P.below hb2
 replace BB := bl_trans BB hb2
 clear hb2
 go_wp2_with fail
 refine (lessN P Q (by omega) (by omega)).mono ?_
 rw [decide_eq_false (show ¬ x < x by omega)]
 rintro e w6 ⟨rfl, hb6⟩
 replace h := h.below hb6
 replace g := g.below hb6
 replace BB := bl_trans BB hb6
 clear hb6 P Q
 go_wp2_with fail
 go_ret
 exact ⟨rfl, BB⟩
theorem subRN_yes (h : Nm w A n c x k) (g : Nm w B m d y j) (hk : k ≤ 1000) (hj : j ≤ 1000) (hc : y ≤ x) : Calls Tryz.prog 107 #[.slice A n c, .slice B m d] w (GivB w (x - y) k true) := by
 have hlt : x - y < M.R ^ k := by have := h.lt; omega
 have BB : Below w.heap.size w w := Below.refl _ _
 go_enter Tryz.func107, Tryz.ntmps107
 go_wp2_with fail
 refine (bitsN h hk).mono ?_
 rintro e w1 ⟨A1, n1, c1, rfl, P, hb1⟩
 replace h := h.below hb1
 replace g := g.below hb1
 replace BB := bl_trans BB hb1
 clear hb1
 go_wp2_with fail
 refine (bitsN g hj).mono ?_
 rintro e w2 ⟨A2, n2, c2, rfl, Q, hb2⟩
 replace h := h.below hb2
 replace g := g.below hb2
 replace P := P.below hb2
 replace BB := bl_trans BB hb2
 clear hb2
 go_wp2_with fail
 refine (lessN P Q (by omega) (by omega)).mono ?_
 rw [decide_eq_false (show ¬ x < y by omega)]
 rintro e w3 ⟨rfl, hb3⟩
 replace h := h.below hb3
 replace g := g.below hb3
 replace BB := bl_trans BB hb3
 clear hb3 P Q
 go_wp2_with fail
 refine (bitsN h hk).mono ?_
 rintro e w4 ⟨A4, n4, c4, rfl, P, hb1⟩
 replace h := h.below hb1
 replace g := g.below hb1
 replace BB := bl_trans BB hb1
 clear hb1
 go_wp2_with fail
 refine (bitsN g hj).mono ?_
 rintro e w5 ⟨A5, n5, c5, rfl, Q, hb2⟩
 replace h := h.below hb2
 replace g := g.below hb2
 replace P := P.below hb2
 replace BB := bl_trans BB hb2
 clear hb2
 go_wp2_with fail
 refine (subBN P Q (by omega) (by omega) hc).mono ?_
 rintro e w8 ⟨A8, n8, c8, rfl, R8, hb8⟩
 replace BB := bl_trans BB hb8
 clear hb8 P Q
 go_wp2_with fail
 refine (limbsN R8 (by omega) hlt).mono ?_
 rintro e w9 ⟨A9, n9, c9, rfl, S9, hb9⟩
 replace BB := bl_trans BB hb9
 clear hb9 R8
 go_wp2_with fail
 go_ret2
 exact ⟨A9, n9, c9, rfl, S9, BB⟩
theorem divRN (h : Nm w A n c x k) (g : Nm w B m d y j) (hk : k ≤ 1000) (hj : j ≤ 1000) (hc : y ≠ 0) : Calls Tryz.prog 78 #[.slice A n c, .slice B m d] w (GivD w (x / y) k (x % y) j 0) := by
 have hq : x / y < M.R ^ k := Nat.lt_of_le_of_lt (Nat.div_le_self _ _) h.lt
 have hr : x % y < M.R ^ j := Nat.lt_trans (Nat.mod_lt _ (Nat.pos_of_ne_zero hc)) g.lt
 have BB : Below w.heap.size w w := Below.refl _ _
 go_enter Tryz.func78, Tryz.ntmps78
 go_wp2_with fail
 refine (bitsN g hj).mono ?_
 rintro e w1 ⟨A1, n1, c1, rfl, P, hb1⟩
 replace h := h.below hb1
 replace g := g.below hb1
 replace BB := bl_trans BB hb1
 have hn1 : ((n1 : Int) == 0) = false := by
  obtain ⟨bs, r1, r2, r3⟩ := P.row
  have : n1 ≠ 0 := fun h9 => hc (by rw [← r3]; exact (M.bval_zero r2).1 (by rw [r1.len]; exact h9))
  simp
  omega
 clear hb1 P
 go_wp2_with fail
 refine (bitsN h hk).mono ?_
 rintro e w2 ⟨A2, n2, c2, rfl, P, hb1⟩
 replace h := h.below hb1
 replace g := g.below hb1
 replace BB := bl_trans BB hb1
 clear hb1
 go_wp2_with fail
 refine (bitsN g hj).mono ?_
 rintro e w3 ⟨A3, n3, c3, rfl, Q, hb2⟩
 replace h := h.below hb2
 replace g := g.below hb2
 replace P := P.below hb2
 replace BB := bl_trans BB hb2
 clear hb2
 go_wp2_with fail
 refine (divBN P Q (by omega) (by omega) hc).mono ?_
 rintro e w8 ⟨A8, n8, c8, B8, m8, d8, rfl, R8, S8, hb8⟩
 replace BB := bl_trans BB hb8
 clear hb8 P Q
 go_wp2_with fail
 refine (limbsN R8 (by omega) hq).mono ?_
 rintro e w9 ⟨A9, n9, c9, rfl, S9, hb9⟩
 replace S8 := S8.below hb9
 replace BB := bl_trans BB hb9
 clear hb9 R8
 go_wp2_with fail
 refine (limbsN S8 (by omega) hr).mono ?_
 rintro e w10 ⟨A10, n10, c10, rfl, S10, hb10⟩
 replace S9 := S9.below hb10
 replace BB := bl_trans BB hb10
 clear hb10 S8
 go_wp2_with fail
 go_ret3
 exact ⟨A9, n9, c9, A10, n10, c10, rfl, S9, S10, BB⟩
end

end Go.Proofs.YtbhgbilhoonopaaGreat
namespace Go.Proofs.YtbhgbilhoonopaaGreat
open Go.RowKit
set_option linter.unusedVariables false

namespace M
def dval : List Nat → Nat
 | [] => 0
 | x :: xs => x + 10 * dval xs
theorem dval_append (xs ys : List Nat) : dval (xs ++ ys) = dval xs + 10 ^ xs.length * dval ys := by
 induction xs with
 | nil => simp [dval]
 | cons x xs ih =>
  rw [List.cons_append, dval, ih, dval, List.length_cons, Nat.pow_succ]
  have : 10 ^ xs.length * 10 * dval ys = 10 * (10 ^ xs.length * dval ys) := by rw [Nat.mul_comm (10 ^ xs.length), Nat.mul_assoc]
  omega
theorem dval_take {xs : List Nat} {k x : Nat} (h : xs[k]? = some x) : dval (xs.take (k + 1)) = dval (xs.take k) + 10 ^ k * x := by
 have hk : k < xs.length := (List.getElem?_eq_some_iff.1 h).1
 rw [take_snoc h, dval_append, List.length_take, Nat.min_eq_left (by omega)]
 simp [dval]
/-- Digits of a number, the lowest first, the highest not 0. -/
structure Dg (ds : List Nat) (v : Nat) : Prop where
 lim : ∀ x ∈ ds, x < 10
 val : dval ds = v
 top : ∀ x, ds.getLast? = some x → x ≠ 0
theorem Dg.lows {ds : List Nat} {v : Nat} (h : Dg ds v) : ds.map (48 + ·) = M.lows v := by
 induction ds generalizing v with
 | nil =>
  have := h.val
  rw [← this]
  exact lows_zero.symm
 | cons x xs ih =>
  have hx := h.lim x (by simp)
  have hv := h.val
  rw [dval] at hv
  have ht : Dg xs (dval xs) := by
   refine ⟨fun y hy => h.lim y (by simp [hy]), rfl, fun y hy => h.top y ?_⟩
   cases xs with
   | nil => simp at hy
   | cons z zs => rw [List.getLast?_cons_cons]; exact hy
  have hne : v ≠ 0 := by
   intro h0
   cases xs with
   | nil =>
    have := h.top x (by simp)
    simp [dval] at hv
    omega
   | cons z zs =>
    have e1 := ih ht
    have e0 : dval (z :: zs) = 0 := by omega
    rw [e0, lows_zero] at e1
    simp at e1
  rw [List.map_cons, ih ht, lows_pos hne]
  have e1 : v % 10 = x := by omega
  have e2 : v / 10 = dval xs := by omega
  rw [e1, e2]
/-- Doubling: k digits are done. -/
structure Db (ds : List Nat) (b k ca : Nat) (zs : List Nat) : Prop where
 len : zs.length = k
 lim : ∀ x ∈ zs, x < 10
 ca1 : ca ≤ 1
 eq : 2 * dval (ds.take k) + b = dval zs + 10 ^ k * ca
 top : ∀ l, zs.getLast? = some l → ∃ x c, ds[k - 1]? = some x ∧ l + 10 * ca = 2 * x + c
theorem Db.start (ds : List Nat) (b : Nat) (hb : b ≤ 1) : Db ds b 0 b [] := ⟨rfl, (fun x hx => by cases hx), hb, by simp [dval], fun l h => by simp at h⟩
theorem Db.step {ds zs : List Nat} {b k ca x : Nat} (h : Db ds b k ca zs) (hx : ds[k]? = some x) (hl : x < 10) : Db ds b (k + 1) ((2 * x + ca) / 10) (zs ++ [(2 * x + ca) % 10]) := by
 have hc := h.ca1
 refine ⟨by simp [h.len], ?_, by omega, ?_, ?_⟩
 ·intro y hy
  rcases List.mem_append.1 hy with hy | hy
  ·exact h.lim y hy
  ·simp at hy
   omega
 ·have e := h.eq
  rw [dval_take hx, dval_append, h.len, Nat.pow_succ]
  have e1 : 10 ^ k * (2 * x + ca) = 10 ^ k * ((2 * x + ca) % 10 + 10 * ((2 * x + ca) / 10)) := by congr 1; omega
  have e2 : 10 ^ k * (2 * x + ca) = 2 * (10 ^ k * x) + 10 ^ k * ca := by rw [Nat.mul_add, Nat.mul_left_comm]
  have e3 : 10 ^ k * ((2 * x + ca) % 10 + 10 * ((2 * x + ca) / 10)) = 10 ^ k * ((2 * x + ca) % 10) + 10 ^ k * 10 * ((2 * x + ca) / 10) := by rw [Nat.mul_add, Nat.mul_assoc]
  simp only [dval, Nat.mul_zero, Nat.add_zero]
  omega
 ·intro l hl'
  rw [List.getLast?_append] at hl'
  simp at hl'
  exact ⟨x, ca, by simpa using hx, by omega⟩
theorem Db.done0 {ds zs : List Nat} {b V : Nat} (hd : Dg ds V) (h : Db ds b ds.length 0 zs) : Dg zs (2 * V + b) := by
 refine ⟨h.lim, ?_, ?_⟩
 ·have := h.eq
  rw [List.take_of_length_le (Nat.le_refl _), hd.val] at this
  omega
 ·intro l hl
  obtain ⟨x, c, hx, he⟩ := h.top l hl
  have hne := hd.top x (by rw [List.getLast?_eq_getElem?]; exact hx)
  omega
theorem Db.done1 {ds zs : List Nat} {b V : Nat} (hd : Dg ds V) (h : Db ds b ds.length 1 zs) : Dg (zs ++ [1]) (2 * V + b) := by
 refine ⟨?_, ?_, ?_⟩
 ·intro y hy
  rcases List.mem_append.1 hy with hy | hy
  ·exact h.lim y hy
  ·simp at hy; omega
 ·have := h.eq
  rw [List.take_of_length_le (Nat.le_refl _), hd.val] at this
  rw [dval_append, h.len]
  simp only [dval]
  omega
 ·intro l hl
  rw [List.getLast?_append] at hl
  simp at hl
  omega
end M

set_option maxHeartbeats 4000000 in
theorem textR_any (A : Option Addr) (n c : Nat) (xs : List Nat) (w : World) (h : Rd w A n c xs) (hn : n ≤ 1000) : Calls Tryz.prog 86 #[.slice A n c] w (GivesT w (M.txt (M.val xs))) := by
 obtain ⟨V, hV⟩ : ∃ V, V = M.val xs := ⟨_, rfl⟩
 rw [← hV]
 have hlt := M.val_lt h.Lim
 rw [h.len, ← hV, pow_R] at hlt
 have H := Lib.hid h
 have HV := Lib.hid hV
 have HLT := Lib.hid hlt
 clear h hV hlt
 go_enter Tryz.func86, Tryz.ntmps86
 go_wp2_with fail
 refine (bits_any _ _ _ _ _ H.out hn).mono ?_
 rw [← HV.out]
 rintro e w1 ⟨A1, n1, c1, es, rfl, o1, t1, v1, b1⟩
 have hl1 := M.bval_len t1 (by rw [v1]; exact HLT.out)
 rw [o1.len] at hl1
 have HR := Lib.hid o1.rd
 have HV1 := Lib.hid v1
 have HB1 := Lib.hid b1
 clear o1 t1 v1 b1 H HV HLT
 go_wp2_with fail
 go_loopg [4, 5] n1 (fun g v i wr => ∃ (j p cp : Nat) (D : Option Addr) (ds : List Nat), j ≤ n1 ∧ g = j ∧ i = .int .i64 ((j : Int) - 1) ∧ v = .slice D p cp ∧ OwK kU8 wr w1.heap.size D p cp ds ∧ p ≤ n1 - j ∧ M.Dg ds (M.bval (es.drop j)) ∧ Below w1.heap.size w1 wr)
 case atStart =>
  refine ⟨n1, 0, 0, none, [], Nat.le_refl _, rfl, rfl, rfl, OwK.nil_ _ _, by omega, ⟨(fun x hx => by cases hx), ?_, fun l hl => by simp at hl⟩, Below.refl _ _⟩
  rw [List.drop_of_length_le (by rw [HR.out.len]; exact Nat.le_refl _)]
  rfl
 case round =>
  obtain ⟨j, p, cp, D, ds, hj, hg, rfl, rfl, ho, hp, hd, hb⟩ := hrel
  have HG := Lib.hid hg
  have HO := Lib.hid ho
  have HD := Lib.hid hd
  have HB := Lib.hid hb
  clear hg ho hd hb
  by_cases h0 : j = 0
  ·subst h0
   obtain ⟨wo, rfl⟩ : ∃ wo, wo = wr := ⟨_, rfl⟩
   have hdV := HD.out
   rw [List.drop_zero, HV1.out] at hdV
   have HDV := Lib.hid hdV
   have HBB := Lib.hid (bl_trans HB1.out HB.out)
   clear hdV
   by_cases hp0 : p = 0
   ·subst hp0
    have hds : ds = [] := List.eq_nil_of_length_eq_zero HO.out.len
    have HE := Lib.hid (show M.txt V = [48] by
     have := HDV.out.val
     rw [hds] at this
     rw [← this]
     rfl)
    clear hds
    go_wp2
    go_ret
    exact ⟨_, rfl, by rw [HE.out]; rfl, HBB.out⟩
   ·have hpos : 0 < p := by omega
    have hpne : ((p : Int) == 0) = false := by simp; omega
    have HE := Lib.hid (show (ds.map (48 + ·)).reverse = M.txt V by
     have hlow := HDV.out.lows
     have hne : V ≠ 0 := by
      intro h9
      rw [h9, M.lows_zero] at hlow
      have := HO.out.len
      have h8 := congrArg List.length hlow
      simp at h8
      rw [h8] at this
      simp at this
      omega
     unfold M.txt
     rw [if_neg hne, hlow])
    have hpl : p ≤ 100000 := by omega
    go_wp2_with (at_make; refine make_full kU8 _ rfl _ _ rfl .i64 .i64 _ _ p rfl rfl (by omega) (by omega) (by omega) (show (0 : Nat) < 256 by omega) ?_; intro w2 ho2 hb2; have HO2 := Lib.hid ho2; have HB2 := Lib.hid hb2; clear ho2 hb2)
    have hD2 := HO.out.below HB2.out
    have hDlt : ∀ q, D = some q → q.block < wo.heap.size := fun q hq => (HO.out.lt hq).2
    have HD2 := Lib.hid hD2
    have HDL := Lib.hid hDlt
    clear hD2 hDlt
    go_loopg [10] p (fun g v w3 => ∃ k : Nat, k ≤ p ∧ g = p - k ∧ v = .int .i64 (k : Int) ∧ OwK kU8 w3 wo.heap.size (some ⟨wo.heap.size, 0, none⟩) p p (List.replicate (p - k) 0 ++ ((ds.take k).map (48 + ·)).reverse) ∧ Below wo.heap.size wo w3)
    case atStart => exact ⟨0, by omega, rfl, rfl, by rw [Nat.sub_zero, List.take_zero, List.map_nil, List.reverse_nil, List.append_nil]; exact HO2.out, HB2.out⟩
    case round =>
     obtain ⟨k, hk, hg3, rfl, ho3, hb3⟩ := hrel
     have HG3 := Lib.hid hg3
     have HO3 := Lib.hid ho3
     have HB3 := Lib.hid hb3
     clear hg3 ho3 hb3
     by_cases hkp : k < p
     ·obtain ⟨y, hy⟩ : ∃ y, ds[k]? = some y := ⟨ds[k]'(by rw [HO.out.len]; exact hkp), List.getElem?_eq_getElem _⟩
      have hyl := HDV.out.lim y (List.mem_of_getElem? hy)
      obtain ⟨g, rfl, hg1, hg2⟩ := HO.out.head (by omega)
      have cy := (HO.out.below HB3.out).cellAt hy
      have hq : p - k = (p - 1 - k) + 1 := by omega
      have hset0 := HO3.out
      rw [hq] at hset0
      have cz := hset0.cellAt (j := p - 1 - k) (x := 0) (by rw [List.getElem?_append_left (by simp), List.getElem?_replicate, if_pos (by omega)])
      have fz := hset0.frozenAt (p - 1 - k)
      simp only [kU8] at cy cz
      obtain ⟨z, hz⟩ : ∃ z, z = 48 + y := ⟨_, rfl⟩
      obtain ⟨ho4, hg4⟩ := hset0.set_ (p - 1 - k) z (show z < 256 by omega)
      rw [set_rep] at ho4
      have hlist : z :: ((ds.take k).map (48 + ·)).reverse = ((ds.take (k + 1)).map (48 + ·)).reverse := by rw [M.take_snoc hy, hz]; simp
      rw [hlist] at ho4
      have hz2 : (48 : Int) + (y : Int) = (z : Int) := by rw [hz]; simp
      have hj : ((p : Int) - 1 - k).toNat = p - 1 - k := by omega
      have HO4 := Lib.hid ho4
      have HB4 := Lib.hid (HB3.out.setCell (p := ⟨wo.heap.size, p - 1 - k, none⟩) (Nat.le_refl _) (.int .u8 (z : Int)))
      clear ho4 hg4 hlist hset0 hy hq hz
      go_wp2
      go_roundg (p - (k + 1))
      case measure => have := HG3.out; omega
      case rel =>
       refine ⟨k + 1, by omega, rfl, by go_num, ?_, HB4.out⟩
       rw [show p - (k + 1) = p - 1 - k by omega]
       exact HO4.out
     ·obtain rfl : k = p := by omega
      have hfin := HO3.out
      rw [Nat.sub_self, List.replicate_zero, List.nil_append, List.take_of_length_le (by rw [HO.out.len]; exact Nat.le_refl _), HE.out] at hfin
      have hlen3 := hfin.len
      have hconv := run_convert_bytes_arg (P := Tryz.prog) wr 50 5 Tryz.underlying50 Tryz.underlying5 wo.heap.size 0 k k ((M.txt V).map fun x : Nat => (x : Int)) (by rw [List.length_map]; exact hlen3) (fun i hi => by
       obtain ⟨x, hx⟩ : ∃ x, (M.txt V)[i]? = some x := ⟨_, List.getElem?_eq_getElem (by rw [hlen3]; exact hi)⟩
       have := hfin.cellAt hx
       rw [Nat.zero_add, this]
       simp only [kU8]
       rw [List.getD_eq_getElem?_getD, List.getElem?_map, hx]
       rfl) 9 Tryz.underlying9
      have HB5 := Lib.hid (bl_trans HBB.out HB3.out)
      clear hfin hlen3
      go_wp2
      go_ret
      refine ⟨_, rfl, ?_, HB5.out⟩
      exact bytes_strOfNums (M.txt_dig V)
  ·obtain ⟨i, rfl⟩ : ∃ i, j = i + 1 := ⟨j - 1, by omega⟩
   have hji : ((i + 1 : Nat) : Int) - 1 = (i : Int) := by omega
   obtain ⟨b, o, x, hA, hx, hcell⟩ := (HR.out.below HB.out).atB (show i < n1 by omega)
   subst hA
   obtain ⟨bt, hbt⟩ : ∃ bt, bt = x.toNat := ⟨_, rfl⟩
   have hbt1 : bt ≤ 1 := by rw [hbt]; have := Bool.toNat_lt x; omega
   have HBV := Lib.hid (show M.bval (es.drop i) = 2 * M.bval (es.drop (i + 1)) + bt by rw [M.drop_pred hx, M.bval_cons, hbt]; omega)
   clear hx
   cases x with
   | false =>
    obtain rfl : bt = 0 := hbt
    go_wp2
    go_loopg [6, 7] p (fun g q v wr => ∃ (k ca : Nat) (zs : List Nat), k ≤ p ∧ g = p - k ∧ q = .int .u8 (ca : Int) ∧ v = .int .i64 (k : Int) ∧ M.Db ds 0 k ca zs ∧ OwK kU8 wr w1.heap.size D p cp (zs ++ ds.drop k) ∧ Below w1.heap.size w1 wr)
    case atStart => exact ⟨0, 0, [], Nat.zero_le _, rfl, rfl, rfl, M.Db.start ds 0 (by omega), by simpa using HO.out, HB.out⟩
    case round =>
     obtain ⟨k, ca, zs, hk, hg2, rfl, rfl, hdb, ho2, hb2⟩ := hrel
     have hca := hdb.ca1
     have HG2 := Lib.hid hg2
     have HDB := Lib.hid hdb
     have HO2 := Lib.hid ho2
     have HB2 := Lib.hid hb2
     clear hg2 hdb ho2 hb2
     by_cases hkp : k < p
     ·obtain ⟨y, hy⟩ : ∃ y, ds[k]? = some y := ⟨ds[k]'(by rw [HO.out.len]; exact hkp), List.getElem?_eq_getElem _⟩
      have hyl := HD.out.lim y (List.mem_of_getElem? hy)
      obtain ⟨g, rfl, hg1, hg3⟩ := HO2.out.head (by omega)
      have hyk : (zs ++ ds.drop k)[k]? = some y := by
       rw [List.getElem?_append_right (by rw [HDB.out.len]; exact Nat.le_refl _), HDB.out.len, Nat.sub_self, List.getElem?_drop, Nat.add_zero]
       exact hy
      have cy := HO2.out.cellAt hyk
      have fy := HO2.out.frozenAt k
      simp only [kU8] at cy
      obtain ⟨z, hz⟩ : ∃ z, z = (2 * y + ca) % 10 := ⟨_, rfl⟩
      obtain ⟨ca2, hca2⟩ : ∃ ca2, ca2 = (2 * y + ca) / 10 := ⟨_, rfl⟩
      have hst := HDB.out.step hy hyl
      rw [← hz, ← hca2] at hst
      obtain ⟨ho4, hg4⟩ := HO2.out.set_ k z (show z < 256 by omega)
      have hset : (zs ++ ds.drop k).set k z = zs ++ [z] ++ ds.drop (k + 1) := by
       rw [M.drop_pred hy, List.set_append, if_neg (by rw [HDB.out.len]; omega), HDB.out.len, Nat.sub_self, List.set_cons_zero, List.append_assoc]
       rfl
      rw [hset] at ho4
      have e1 : (2 * (y : Int) + (ca : Int)) % 10 = z := by rw [hz]; omega
      have e2 : (2 * (y : Int) + (ca : Int)) / 10 = ca2 := by rw [hca2]; omega
      have HST := Lib.hid hst
      have HO4 := Lib.hid ho4
      have HB4 := Lib.hid (HB2.out.setCell (p := ⟨g, k, none⟩) hg1 (.int .u8 (z : Int)))
      clear hst ho4 hg4 hset hy hyk hz hca2
      go_wp2
      go_roundg (p - (k + 1))
      case measure => have := HG2.out; omega
      case rel => exact ⟨k + 1, ca2, zs ++ [z], by omega, rfl, by go_num, by go_num, HST.out, HO4.out, HB4.out⟩
     ·obtain rfl : k = p := by omega
      have hod := HO2.out
      rw [List.drop_of_length_le (by rw [HO.out.len]; exact Nat.le_refl _), List.append_nil] at hod
      have hdd := HDB.out
      rw [← HO.out.len] at hdd
      have HOD := Lib.hid hod
      have hpl : k ≤ 100000 := by omega
      rcases (show ca = 0 ∨ ca = 1 by omega) with rfl | rfl
      ·have hfin := hdd.done0 HD.out
       rw [← HBV.out] at hfin
       have HF := Lib.hid hfin
       clear hod hdd hfin
       go_wp2
       go_roundg i
       case measure => have := HG.out; omega
       case rel => exact ⟨i, k, cp, D, zs, by omega, rfl, by go_num, rfl, HOD.out, by omega, HF.out, HB2.out⟩
      ·have hfin := hdd.done1 HD.out
       rw [← HBV.out] at hfin
       have HF := Lib.hid hfin
       clear hod hdd hfin
       go_wp2_with (at_builtin; refine app_own kU8 _ rfl _ _ rfl w1.heap.size D k cp zs rfl (HOD.out.alloc _) _ 1 1 [1] rfl (RdK.one (K := kU8) _ 1 (show 1 < 256 by omega)) (by omega) (by have := HB2.out.size; simp; omega) ?_; intro A5 c5 w5 ho5 hg5; have HO5 := Lib.hid ho5; have HG5 := Lib.hid hg5; clear ho5 hg5)
       go_roundg i
       case measure => have := HG.out; omega
       case rel => exact ⟨i, k + 1, c5, A5, zs ++ [1], by omega, rfl, by go_num, rfl, HO5.out, by omega, HF.out, below_app HB2.out HB2.out.size HOD.out HG5.out⟩
   | true =>
    obtain rfl : bt = 1 := hbt
    go_wp2
    go_loopg [6, 7] p (fun g q v wr => ∃ (k ca : Nat) (zs : List Nat), k ≤ p ∧ g = p - k ∧ q = .int .u8 (ca : Int) ∧ v = .int .i64 (k : Int) ∧ M.Db ds 1 k ca zs ∧ OwK kU8 wr w1.heap.size D p cp (zs ++ ds.drop k) ∧ Below w1.heap.size w1 wr)
    case atStart => exact ⟨0, 1, [], Nat.zero_le _, rfl, rfl, rfl, M.Db.start ds 1 (by omega), by simpa using HO.out, HB.out⟩
    case round =>
     obtain ⟨k, ca, zs, hk, hg2, rfl, rfl, hdb, ho2, hb2⟩ := hrel
     have hca := hdb.ca1
     have HG2 := Lib.hid hg2
     have HDB := Lib.hid hdb
     have HO2 := Lib.hid ho2
     have HB2 := Lib.hid hb2
     clear hg2 hdb ho2 hb2
     by_cases hkp : k < p
     ·obtain ⟨y, hy⟩ : ∃ y, ds[k]? = some y := ⟨ds[k]'(by rw [HO.out.len]; exact hkp), List.getElem?_eq_getElem _⟩
      have hyl := HD.out.lim y (List.mem_of_getElem? hy)
      obtain ⟨g, rfl, hg1, hg3⟩ := HO2.out.head (by omega)
      have hyk : (zs ++ ds.drop k)[k]? = some y := by
       rw [List.getElem?_append_right (by rw [HDB.out.len]; exact Nat.le_refl _), HDB.out.len, Nat.sub_self, List.getElem?_drop, Nat.add_zero]
       exact hy
      have cy := HO2.out.cellAt hyk
      have fy := HO2.out.frozenAt k
      simp only [kU8] at cy
      obtain ⟨z, hz⟩ : ∃ z, z = (2 * y + ca) % 10 := ⟨_, rfl⟩
      obtain ⟨ca2, hca2⟩ : ∃ ca2, ca2 = (2 * y + ca) / 10 := ⟨_, rfl⟩
      have hst := HDB.out.step hy hyl
      rw [← hz, ← hca2] at hst
      obtain ⟨ho4, hg4⟩ := HO2.out.set_ k z (show z < 256 by omega)
      have hset : (zs ++ ds.drop k).set k z = zs ++ [z] ++ ds.drop (k + 1) := by
       rw [M.drop_pred hy, List.set_append, if_neg (by rw [HDB.out.len]; omega), HDB.out.len, Nat.sub_self, List.set_cons_zero, List.append_assoc]
       rfl
      rw [hset] at ho4
      have e1 : (2 * (y : Int) + (ca : Int)) % 10 = z := by rw [hz]; omega
      have e2 : (2 * (y : Int) + (ca : Int)) / 10 = ca2 := by rw [hca2]; omega
      have HST := Lib.hid hst
      have HO4 := Lib.hid ho4
      have HB4 := Lib.hid (HB2.out.setCell (p := ⟨g, k, none⟩) hg1 (.int .u8 (z : Int)))
      clear hst ho4 hg4 hset hy hyk hz hca2
      go_wp2
      go_roundg (p - (k + 1))
      case measure => have := HG2.out; omega
      case rel => exact ⟨k + 1, ca2, zs ++ [z], by omega, rfl, by go_num, by go_num, HST.out, HO4.out, HB4.out⟩
     ·obtain rfl : k = p := by omega
      have hod := HO2.out
      rw [List.drop_of_length_le (by rw [HO.out.len]; exact Nat.le_refl _), List.append_nil] at hod
      have hdd := HDB.out
      rw [← HO.out.len] at hdd
      have HOD := Lib.hid hod
      have hpl : k ≤ 100000 := by omega
      rcases (show ca = 0 ∨ ca = 1 by omega) with rfl | rfl
      ·have hfin := hdd.done0 HD.out
       rw [← HBV.out] at hfin
       have HF := Lib.hid hfin
       clear hod hdd hfin
       go_wp2
       go_roundg i
       case measure => have := HG.out; omega
       case rel => exact ⟨i, k, cp, D, zs, by omega, rfl, by go_num, rfl, HOD.out, by omega, HF.out, HB2.out⟩
      ·have hfin := hdd.done1 HD.out
       rw [← HBV.out] at hfin
       have HF := Lib.hid hfin
       clear hod hdd hfin
       go_wp2_with (at_builtin; refine app_own kU8 _ rfl _ _ rfl w1.heap.size D k cp zs rfl (HOD.out.alloc _) _ 1 1 [1] rfl (RdK.one (K := kU8) _ 1 (show 1 < 256 by omega)) (by omega) (by have := HB2.out.size; simp; omega) ?_; intro A5 c5 w5 ho5 hg5; have HO5 := Lib.hid ho5; have HG5 := Lib.hid hg5; clear ho5 hg5)
       go_roundg i
       case measure => have := HG.out; omega
       case rel => exact ⟨i, k + 1, c5, A5, zs ++ [1], by omega, rfl, by go_num, rfl, HO5.out, by omega, HF.out, below_app HB2.out HB2.out.size HOD.out HG5.out⟩

end Go.Proofs.YtbhgbilhoonopaaGreat
namespace Go.Proofs.YtbhgbilhoonopaaGreat
open Go.RowKit
set_option linter.unusedVariables false
set_option maxRecDepth 100000

/-- All rows of limbs stay. -/
def KeepR (w w' : World) : Prop := ∀ A n c xs, Rd w A n c xs → Rd w' A n c xs
section
variable {w w' : World} {g g' : Nat} {b b' t : Bool} {A B A' B' X Y : Option Addr} {n c m d n' c' m' d' k l x e f r s : Nat} {v : Value} {z : Int} {q : Rat} {xs ys : List Nat}
theorem Nm.kr (h : Nm w A n c x k) (r : KeepR w w') : Nm w' A n c x k := by
 obtain ⟨xs, h1, h2⟩ := h.row
 exact ⟨⟨xs, r _ _ _ _ h1, h2⟩, h.le⟩
theorem Tm.kr (h : Tm w A n c x k) (r : KeepR w w') : Tm w' A n c x k := ⟨r _ _ _ _ h.rd, h.le⟩
theorem Zm.kr (h : Zm w b A n c z k) (r : KeepR w w') : Zm w' b A n c z k := by
 obtain ⟨x, h1, h2⟩ := h.row
 exact ⟨⟨x, h1.kr r, h2⟩⟩
theorem IsM.kr (h : IsM w v z k) (r : KeepR w w') : IsM w' v z k := by
 obtain ⟨b, A, n, c, rfl, h⟩ := h
 exact ⟨b, A, n, c, rfl, h.kr r⟩
theorem IsT.kr (h : IsT w v z k) (r : KeepR w w') : IsT w' v z k := by
 obtain ⟨b, A, n, c, rfl, h, e⟩ := h
 exact ⟨b, A, n, c, rfl, h.kr r, e⟩
theorem IsQm.kr (h : IsQm w v q k) (r : KeepR w w') : IsQm w' v q k := by
 obtain ⟨b, A, n, c, B, m, d, rfl, z, y, h1, h2, h3⟩ := h
 exact ⟨b, A, n, c, B, m, d, rfl, z, y, h1.kr r, h2.kr r, h3⟩
theorem IsQt.kr (h : IsQt w v q k) (r : KeepR w w') : IsQt w' v q k := by
 obtain ⟨b, A, n, c, B, m, d, rfl, h1, h2, h3⟩ := h
 exact ⟨b, A, n, c, B, m, d, rfl, h1.kr r, h2, h3.kr r⟩
theorem Bz.set0 (h : Bz w g b A n c) : Bz (w.setCell ⟨g, 0, none⟩ (.bool b')) g b' A n c := ⟨heap_setCell_same w g 0 #[.bool b, .slice A n c] 24 (.bool b') h.row⟩
theorem Bz.set2 (h : Bz w g b A n c) : Bz ((w.setCell ⟨g, 0, none⟩ (.bool b')).setCell ⟨g, 1, none⟩ (.slice A' n' c')) g b' A' n' c' := ⟨heap_setCell_same _ g 1 #[.bool b', .slice A n c] 24 (.slice A' n' c') (h.set0 (b' := b')).row⟩
theorem RdK.storedZ (h : Rd w X k l xs) (P : Bz w g b A n c) (i : Nat) (u : Value) : Rd (w.setCell ⟨g, i, none⟩ u) X k l xs := by
 refine h.keep fun p hp hn => ?_
 obtain ⟨e, o, x, hA, hx, _, hc⟩ := h.at32 (i := 0) hn
 rw [hp] at hA
 injection hA with hA
 subst hA
 refine heap_setCell_other w ⟨g, i, none⟩ e u fun he => ?_
 dsimp only at he
 subst he
 rw [cell_of_row _ _ _ _ _ _ P.row] at hc
 rcases o with _ | _ | o <;> simp at hc
theorem kr_put2 (P : Bz w g b A n c) : KeepR w ((w.setCell ⟨g, 0, none⟩ (.bool b')).setCell ⟨g, 1, none⟩ (.slice A' n' c')) := fun _ _ _ _ h => (h.storedZ P 0 _).storedZ (P.set0 (b' := b')) 1 _
theorem kr_put3 (P : Bq w g b A n c B m d) : KeepR w (((w.setCell ⟨g, 0, none⟩ (.bool b')).setCell ⟨g, 1, none⟩ (.slice A' n' c')).setCell ⟨g, 2, none⟩ (.slice B' m' d')) := fun _ _ _ _ h => h.put3 P
theorem Bz.put2 (h : Bz w g' t X e f) (hne : g' ≠ g) : Bz ((w.setCell ⟨g, 0, none⟩ (.bool b')).setCell ⟨g, 1, none⟩ (.slice A' n' c')) g' t X e f := (h.other hne).other hne
theorem Bz.put3 (h : Bz w g' t X e f) (hne : g' ≠ g) : Bz (((w.setCell ⟨g, 0, none⟩ (.bool b')).setCell ⟨g, 1, none⟩ (.slice A' n' c')).setCell ⟨g, 2, none⟩ (.slice B' m' d')) g' t X e f := ((h.other hne).other hne).other hne
theorem Bq.put2 (h : Bq w g' t X e f Y r s) (hne : g' ≠ g) : Bq ((w.setCell ⟨g, 0, none⟩ (.bool b')).setCell ⟨g, 1, none⟩ (.slice A' n' c')) g' t X e f Y r s := (h.other hne).other hne
theorem Below.put2 {w0 : World} {N : Nat} (h : Below N w0 w) (hg : N ≤ g) : Below N w0 ((w.setCell ⟨g, 0, none⟩ (.bool b')).setCell ⟨g, 1, none⟩ (.slice A' n' c')) := (h.setCell (p := ⟨g, 0, none⟩) hg _).setCell (p := ⟨g, 1, none⟩) hg _
end

/-- A trimmed row, whosever. -/
def IsTr (w : World) (v : Value) (x k : Nat) : Prop := ∃ A n c, v = .slice A n c ∧ Tm w A n c x k
def IsTB (w : World) (v : Value) (x k : Nat) (o : Bool) : Prop := ∃ A n c, v = .tuple #[.slice A n c, .bool o] ∧ Tm w A n c x k
def IsTD (w : World) (v : Value) (x k y j : Nat) (o : Int) : Prop := ∃ A n c B m d, v = .tuple #[.slice A n c, .slice B m d, .int .i64 o] ∧ Tm w A n c x k ∧ Tm w B m d y j
section
variable {w w' : World} {v v' : Value} {x y k j : Nat} {z u : Int} {e : Ending}
theorem IsTr.below (h : IsTr w v x k) (hb : Below w.heap.size w w') : IsTr w' v x k := by
 obtain ⟨A, n, c, rfl, h⟩ := h
 exact ⟨A, n, c, rfl, h.below hb⟩
theorem IsTr.n (h : IsTr w v x k) : IsN w v x k := by
 obtain ⟨A, n, c, rfl, h⟩ := h
 exact ⟨A, n, c, rfl, h.nm⟩
theorem sTr : Stab RBu fun v _ w => IsTr w v x k := fun _ _ _ _ _ r _ h => h.below r
theorem sTB {o : Bool} : Stab RBu fun v _ w => IsTB w v x k o := fun _ _ _ _ _ r _ h => by
 obtain ⟨A, n, c, rfl, h⟩ := h
 exact ⟨A, n, c, rfl, h.below r⟩
theorem sTD {o : Int} : Stab RBu fun v _ w => IsTD w v x k y j o := fun _ _ _ _ _ r _ h => by
 obtain ⟨A, n, c, B, m, d, rfl, h, g⟩ := h
 exact ⟨A, n, c, B, m, d, rfl, h.below r, g.below r⟩
theorem ansTr (h : GivN w x k e w') : Ans w (fun w' v => IsTr w' v x k) e w' := by
 obtain ⟨A, n, c, rfl, h, hb⟩ := h
 exact ⟨_, rfl, hb, A, n, c, rfl, h⟩
theorem rTrim (h : IsN w v x k) (hk : k ≤ 1000) : Calls Tryz.prog 50 #[v] w (Ans w fun w' v => IsTr w' v x k) := by
 obtain ⟨A, n, c, rfl, h⟩ := h
 exact (trimRN h hk).mono fun _ _ => ansTr
theorem rMul (h : IsN w v x k) (g : IsN w v' y j) (hk : k ≤ 1000) (hj : j ≤ 1000) : Calls Tryz.prog 103 #[v, v'] w (Ans w fun w' v => IsTr w' v (x * y) (k + j)) := by
 obtain ⟨A, n, c, rfl, h⟩ := h
 obtain ⟨B, m, d, rfl, g⟩ := g
 exact (mulRN h g hk hj).mono fun _ _ => ansTr
theorem rAdd (h : IsN w v x k) (g : IsN w v' y j) (hk : k ≤ 1000) (hj : j ≤ 1000) : Calls Tryz.prog 79 #[v, v'] w (Ans w fun w' v => IsTr w' v (x + y) (max k j + 1)) := by
 obtain ⟨A, n, c, rfl, h⟩ := h
 obtain ⟨B, m, d, rfl, g⟩ := g
 exact (addRN h g hk hj).mono fun _ _ => ansTr
theorem rGcd (h : IsN w v x k) (g : IsN w v' y j) (hk : k ≤ 1000) (hj : j ≤ 1000) : Calls Tryz.prog 88 #[v, v'] w (Ans w fun w' v => IsTr w' v (x.gcd y) (max k j)) := by
 obtain ⟨A, n, c, rfl, h⟩ := h
 obtain ⟨B, m, d, rfl, g⟩ := g
 exact (gcdRN h g hk hj).mono fun _ _ => ansTr
theorem rSub (h : IsN w v x k) (g : IsN w v' y j) (hk : k ≤ 1000) (hj : j ≤ 1000) (hc : y ≤ x) : Calls Tryz.prog 107 #[v, v'] w (Ans w fun w' v => IsTB w' v (x - y) k true) := by
 obtain ⟨A, n, c, rfl, h⟩ := h
 obtain ⟨B, m, d, rfl, g⟩ := g
 refine (subRN_yes h g hk hj hc).mono fun e w' ⟨A, n, c, he, h, hb⟩ => ⟨_, he, hb, A, n, c, rfl, h⟩
theorem rDiv (h : IsN w v x k) (g : IsN w v' y j) (hk : k ≤ 1000) (hj : j ≤ 1000) (hc : y ≠ 0) : Calls Tryz.prog 78 #[v, v'] w (Ans w fun w' v => IsTD w' v (x / y) k (x % y) j 0) := by
 obtain ⟨A, n, c, rfl, h⟩ := h
 obtain ⟨B, m, d, rfl, g⟩ := g
 refine (divRN h g hk hj hc).mono fun e w' ⟨A, n, c, B, m, d, he, h, g, hb⟩ => ⟨_, he, hb, A, n, c, B, m, d, rfl, h, g⟩
theorem rCmp (h : IsN w v x k) (g : IsN w v' y j) (hk : k ≤ 1000) (hj : j ≤ 1000) : Calls Tryz.prog 106 #[v, v'] w (Ans w fun _ v => v = .int .i64 (cmpV x y)) := by
 obtain ⟨A, n, c, rfl, h⟩ := h
 obtain ⟨B, m, d, rfl, g⟩ := g
 rcases Nat.lt_trichotomy x y with hc | hc | hc
 ·exact (cmpRN_lt h g hk hj hc).mono fun e w' ⟨he, hb⟩ => ⟨_, he, hb, rfl⟩
 ·exact (cmpRN_eq h g hk hj hc).mono fun e w' ⟨he, hb⟩ => ⟨_, he, hb, rfl⟩
 ·exact (cmpRN_gt h g hk hj hc).mono fun e w' ⟨he, hb⟩ => ⟨_, he, hb, rfl⟩
theorem rText (h : IsN w v x k) (hk : k ≤ 1000) : Calls Tryz.prog 86 #[v] w (Ans w fun _ v => IsS v (M.txt x)) := by
 obtain ⟨A, n, c, rfl, h⟩ := h
 obtain ⟨xs, hx, rfl⟩ := h.row
 have := h.le
 exact (textR_any A n c xs w hx (by omega)).mono fun e w' ⟨s, he, hs, hb⟩ => ⟨_, he, hb, s, rfl, hs⟩
set_option maxHeartbeats 2000000
theorem zv_neg (b : Bool) (x : Nat) : (b && decide (0 < x)) = decide (zv b x < 0) := by
 cases b
 ·rw [zv_false, Bool.false_and, decide_eq_false (by omega)]
 ·rw [zv_true]
  by_cases h : 0 < x
  ·rw [decide_eq_true h, decide_eq_true (by omega)]; rfl
  ·rw [decide_eq_false h, decide_eq_false (by omega)]; rfl
theorem lims_pos (x : Nat) : (0 < (M.lims x).length) ↔ 0 < x := by
 have := M.lims_length_le (n := x) (k := 0)
 rw [Nat.pow_zero] at this
 omega
theorem cWhole3 (h : IsM w v z k) (hk : k ≤ 1000) : Calls Tryz.prog 80 #[v] w (Ans w fun w' v => IsT w' v z k) := by
 obtain ⟨b, A, n, c, rfl, ⟨x, h, rfl⟩⟩ := h
 have BB := bl_trans (bl_alloc w (.cells #[.bool b, .slice A n c] 24)) (bl_alloc _ (.cells #[.bool false, .slice none 0 0] 24))
 have PA := (Bz.new w b A n c).alloc (.cells #[.bool false, .slice none 0 0] 24)
 have PR := Bz.new2 w (.cells #[.bool b, .slice A n c] 24) false none 0 0
 have HN := Lib.hid (h.below BB)
 clear h
 have a0 := PA.c0
 have a1 := PA.c1
 go_enter Tryz.func80, Tryz.ntmps80
 go_wp2_with fail
 refine (rTrim ⟨_, _, _, rfl, HN.out⟩ hk).mono ?_
 rintro e w1 ⟨_, rfl, hb1, A1, n1, c1, rfl, T⟩
 have hl : n1 = (M.lims x).length := T.rd.len.symm
 have hp : (0 < (n1 : Int)) ↔ 0 < x := by rw [hl, ← lims_pos x]; omega
 have HZ := Lib.hid (show (b && decide (0 < (n1 : Int))) = decide (zv b x < 0) by rw [← zv_neg b x]; congr 1; exact decide_eq_decide.2 hp)
 have hcap := T.rd.cap
 clear hl hp
 replace PA := PA.below hb1
 replace PR := PR.below hb1
 replace BB := bl_trans BB hb1
 clear hb1 HN a0 a1
 have a0 := PA.c0
 have r0 := PR.c0
 have r1 := PR.c1
 have f0 := PR.f 0
 have f1 := PR.f 1
 obtain ⟨s, hs⟩ : ∃ s, decide (zv b x < 0) = s := ⟨_, rfl⟩
 have HS := Lib.hid hs
 clear hs
 cases b
 ·have hz : false = s := by rw [← HS.out, ← HZ.out]; rfl
  subst hz
  go_wp2_with fail
  have F := T.kr (kr_put2 (b' := false) (A' := A1) (n' := n1) (c' := c1) PR)
  have PF := PR.set2 (b' := false) (A' := A1) (n' := n1) (c' := c1)
  replace BB := Below.put2 (b' := false) (A' := A1) (n' := n1) (c' := c1) (g := w.heap.size + 1) BB (by omega)
  clear a0 r0 r1 f0 f1 PA PR T
  generalize World.setCell _ ⟨w.heap.size + 1, 1, none⟩ _ = W9 at F PF BB ⊢
  have z0 := PF.c0
  have z1 := PF.c1
  exact bodyPost_ret (v := .agg #[.bool false, .slice A1 n1 c1]) (by simp [results, Tryz.results80, go_sem, z0, z1]) rfl ⟨_, rfl, BB, _, _, _, _, rfl, by rw [zv_abs]; exact F, HS.out.symm⟩
 ·have hz : decide (0 < (n1 : Int)) = s := by rw [← HS.out, ← HZ.out]; rfl
  have hd : decide (0 < n1) = s := by rw [← hz]; exact decide_eq_decide.2 (by omega)
  clear hz
  go_wp2_with fail
  have F := T.kr (kr_put2 (b' := s) (A' := A1) (n' := n1) (c' := c1) PR)
  have PF := PR.set2 (b' := s) (A' := A1) (n' := n1) (c' := c1)
  replace BB := Below.put2 (b' := s) (A' := A1) (n' := n1) (c' := c1) (g := w.heap.size + 1) BB (by omega)
  clear a0 r0 r1 f0 f1 PA PR T
  generalize World.setCell _ ⟨w.heap.size + 1, 1, none⟩ _ = W9 at F PF BB ⊢
  have z0 := PF.c0
  have z1 := PF.c1
  exact bodyPost_ret (v := .agg #[.bool s, .slice A1 n1 c1]) (by simp [results, Tryz.results80, go_sem, z0, z1]) rfl ⟨_, rfl, BB, _, _, _, _, rfl, by rw [zv_abs]; exact F, HS.out.symm⟩
end
end Go.Proofs.YtbhgbilhoonopaaGreat
namespace Go.Proofs.YtbhgbilhoonopaaGreat
open Go.RowKit
set_option linter.unusedVariables false
set_option maxRecDepth 100000

section
variable {a : Act} {w : World} {K : Act → World → Prop} {Q : Exit → Act → World → Prop} {dst : Option Tmp} {ty : TypeId} {pos : String} {af : Array Edge} {gd : Option (Nat × Bool)} {x y : Operand} {b : Bool} {A : Option Addr} {n c : Nat} {u v v' : Value}
theorem wp_bZ1 (hy : a.eval y = .slice A n c) (h : K (a.put dst (.agg #[.bool false, .slice A n c])) w) : Oper.wp Tryz.prog ⟨dst, .build 24 #[(1, y)], ty, pos, af, gd⟩ a w K Q := by
 unfold Oper.wp execOp
 simp only [List.map_toArray, List.map_cons, List.map_nil, hy]
 go_simp
 exact h
theorem wp_x30 (hx : a.eval x = .tuple #[u, v, v']) (h : K (a.put dst u) w) : Oper.wp Tryz.prog ⟨dst, .extract x 0, ty, pos, af, gd⟩ a w K Q := by
 unfold Oper.wp execOp
 simp only [hx]
 go_simp
 exact h
theorem wp_x31 (hx : a.eval x = .tuple #[u, v, v']) (h : K (a.put dst v) w) : Oper.wp Tryz.prog ⟨dst, .extract x 1, ty, pos, af, gd⟩ a w K Q := by
 unfold Oper.wp execOp
 simp only [hx]
 go_simp
 exact h
theorem wp_x32 (hx : a.eval x = .tuple #[u, v, v']) (h : K (a.put dst v') w) : Oper.wp Tryz.prog ⟨dst, .extract x 2, ty, pos, af, gd⟩ a w K Q := by
 unfold Oper.wp execOp
 simp only [hx]
 go_simp
 exact h
end
theorem cf_ref01_Trim : CallsF 50 := fun args w => by go_simp
theorem cf_ref01_Mul : CallsF 103 := fun args w => by go_simp
theorem cf_ref01_Add : CallsF 79 := fun args w => by go_simp
theorem cf_ref01_Gcd : CallsF 88 := fun args w => by go_simp
theorem cf_ref01_Sub : CallsF 107 := fun args w => by go_simp
theorem cf_ref01_Div : CallsF 78 := fun args w => by go_simp
theorem cf_ref01_Cmp : CallsF 106 := fun args w => by go_simp
theorem cf_ref01_Text : CallsF 86 := fun args w => by go_simp
theorem cf_ref03_whole : CallsF 80 := fun args w => by go_simp
theorem cf_ref03_less : CallsF 60 := fun args w => by go_simp
theorem cf_ref03_times : CallsF 53 := fun args w => by go_simp
theorem cf_ref03_plus : CallsF 63 := fun args w => by go_simp
theorem cf_ref03_down : CallsF 52 := fun args w => by go_simp
theorem cf_ref03_Of : CallsF 41 := fun args w => by go_simp
theorem cf_ref03_Made : CallsF 16 := fun args w => by go_simp
theorem cf_ref03_Neg : CallsF 21 := fun args w => by go_simp
theorem cf_ref03_Add : CallsF 23 := fun args w => by go_simp
theorem cf_ref03_Sub : CallsF 25 := fun args w => by go_simp
theorem cf_ref03_Mul : CallsF 27 := fun args w => by go_simp
theorem cf_ref03_Div : CallsF 17 := fun args w => by go_simp
theorem cf_ref03_Sign : CallsF 31 := fun args w => by go_simp
theorem cf_ref03_Cmp : CallsF 29 := fun args w => by go_simp
theorem cf_ref03_Floor : CallsF 34 := fun args w => by go_simp
theorem cf_ref03_Ceil : CallsF 36 := fun args w => by go_simp
theorem cf_ref03_Text : CallsF 38 := fun args w => by go_simp
theorem cf_ref03_Zero : CallsF 14 := fun args w => by go_simp
theorem cf_ref03_Right : CallsF 19 := fun args w => by go_simp
theorem cf_ref03_Same : CallsF 51 := fun args w => by go_simp
theorem IsQt.opened {w : World} {v : Value} {q : Rat} {k : Nat} (h : IsQt w v q k) : ∃ b A n c B m d, v = .agg #[.bool b, .slice A n c, .slice B m d] ∧ IsQt w (.agg #[.bool b, .slice A n c, .slice B m d]) q k := by
 obtain ⟨b, A, n, c, B, m, d, rfl, h⟩ := h
 exact ⟨b, A, n, c, B, m, d, rfl, ⟨b, A, n, c, B, m, d, rfl, h⟩⟩
theorem ansT {w : World} {z : Int} {k : Nat} (e : Ending) (w' : World) (h : Ans w (fun w' v => IsT w' v z k) e w') : Ans w (fun w' v => IsT w' v z k) e w' := h
theorem ansQe {w : World} {p q : Rat} {k : Nat} (hz : p = q) (e : Ending) (w' : World) (h : Ans w (fun w' v => IsQt w' v p k) e w') : Ans w (fun w' v => IsQt w' v q k) e w' := by
 rw [← hz]
 exact h
theorem zv_mul (b t : Bool) (x y : Nat) : zv (b != t) (x * y) = zv b x * zv t y := by
 cases b <;> cases t <;> simp only [zv_true, zv_false, Int.neg_mul, Int.mul_neg, Int.neg_neg, bne, beq_self_eq_true, Bool.beq_eq_decide_eq]
 all_goals rfl
theorem zv_self {b : Bool} {z : Int} (h : b = decide (z < 0)) : zv b z.natAbs = z := by
 by_cases hz : z < 0
 ·rw [h, decide_eq_true hz, zv_true]; omega
 ·rw [h, decide_eq_false hz, zv_false]; omega
theorem less_val {b : Bool} {z : Int} (h : b = decide (z < 0)) : zv (!b) z.natAbs = -z := by rw [zv_not, zv_self h]
theorem wp_lenR {a : Act} {w : World} {K : Act → World → Prop} {Q : Exit → Act → World → Prop} {dst : Option Tmp} {ty : TypeId} {pos : String} {af : Array Edge} {gd : Option (Nat × Bool)} {x : Operand} {A : Option Addr} {n c : Nat} (hx : a.eval x = .slice A n c) (h : K (a.put dst (.int .i64 (n : Int))) w) : Oper.wp Tryz.prog ⟨dst, .call { callee := .builtin .len, args := #[x], argTypes := #[22] }, ty, pos, af, gd⟩ a w K Q := by
 have hm := args1 hx
 unfold Oper.wp execOp
 go_simp
 exact h
theorem len_zero (x : Nat) : (((M.lims x).length : Int) == 0) = decide (x = 0) := by
 have := lims_pos x
 by_cases h : x = 0
 ·rw [decide_eq_true h, beq_iff_eq]; omega
 ·rw [decide_eq_false h, beq_eq_false_iff_ne]; omega
theorem len_pos (x : Nat) : decide ((0 : Int) < ((M.lims x).length : Int)) = decide (0 < x) := by
 have := lims_pos x
 exact decide_eq_decide.2 (by omega)
theorem plus_same {b : Bool} {z u : Int} (h : b = decide (z < 0)) (g : b = decide (u < 0)) : zv b (z.natAbs + u.natAbs) = z + u := by
 cases b
 ·rw [zv_false]; have := of_decide_eq_false h.symm; have := of_decide_eq_false g.symm; omega
 ·rw [zv_true]; have := of_decide_eq_true h.symm; have := of_decide_eq_true g.symm; omega
theorem plus_lt {b c : Bool} {z u : Int} (h : b = decide (z < 0)) (g : c = decide (u < 0)) (hne : b ≠ c) (hl : z.natAbs ≤ u.natAbs) : zv c (u.natAbs - z.natAbs) = z + u := by
 cases b <;> cases c
 ·exact absurd rfl hne
 ·rw [zv_true]; have := of_decide_eq_false h.symm; have := of_decide_eq_true g.symm; omega
 ·rw [zv_false]; have := of_decide_eq_true h.symm; have := of_decide_eq_false g.symm; omega
 ·exact absurd rfl hne
theorem plus_gt {b c : Bool} {z u : Int} (h : b = decide (z < 0)) (g : c = decide (u < 0)) (hne : b ≠ c) (hl : u.natAbs ≤ z.natAbs) : zv b (z.natAbs - u.natAbs) = z + u := by
 rw [plus_lt g h hne.symm hl, Int.add_comm]
theorem cmpV_neg (x y : Nat) : cmpV x y < 0 ↔ x < y := by
 rcases Nat.lt_trichotomy x y with h | h | h
 ·rw [cmpV_lt h]; omega
 ·subst h; rw [cmpV_eq]; omega
 ·rw [cmpV_gt h]; omega
theorem of_num {b c : Bool} {z u : Int} (h : b = decide (z < 0)) (g : c = decide (u < 0)) (hu : u.natAbs ≠ 0) : zv (b != c) (z.natAbs / Nat.gcd z.natAbs u.natAbs) = (Rat.divInt z u).num := by
 rw [low_num _ _ hu, of_divInt _ _ _ hu, zv_self h, zv_self g]
theorem of_den {b c : Bool} {z u : Int} (h : b = decide (z < 0)) (g : c = decide (u < 0)) (hu : u.natAbs ≠ 0) : u.natAbs / Nat.gcd z.natAbs u.natAbs = (Rat.divInt z u).den := by
 rw [low_den (b != c) z.natAbs hu, of_divInt _ _ _ hu, zv_self h, zv_self g]
theorem IsT.mono {w : World} {v : Value} {z : Int} {k j : Nat} (h : IsT w v z k) (hk : k ≤ j) : IsT w v z j := by
 obtain ⟨b, A, n, c, rfl, h, e⟩ := h
 exact ⟨b, A, n, c, rfl, ⟨h.rd, by have := h.le; omega⟩, e⟩
section
variable {w : World} {v v2 v3 v1 : Value} {z z1 z2 z3 : Int} {k k1 k2 k3 : Nat}
set_option maxHeartbeats 2000000
theorem cTimes3 (h2 : IsM w v2 z2 k2) (h3 : IsM w v3 z3 k3) (hk2 : k2 ≤ 400) (hk3 : k3 ≤ 400) : Calls Tryz.prog 53 #[v2, v3] w (Ans w fun w' v => IsT w' v (z2 * z3) (k2 + k3)) := by
 have M2 := h2
 obtain ⟨b2, A2, n2, c2, rfl, y2⟩ := h2
 obtain ⟨x2, N2, hz2⟩ := y2.row
 have HZ2 := Lib.hid hz2
 clear y2 hz2
 have M3 := h3
 obtain ⟨b3, A3, n3, c3, rfl, y3⟩ := h3
 obtain ⟨x3, N3, hz3⟩ := y3.row
 have HZ3 := Lib.hid hz3
 clear y3 hz3
 have BB := (bl_trans (bl_trans (bl_alloc w (.cells #[.bool b2, .slice A2 n2 c2] 24)) (bl_alloc _ (.cells #[.bool b3, .slice A3 n3 c3] 24))) (bl_alloc _ (.cells #[.bool false, .slice none 0 0] 24)))
 replace M2 := M2.below BB
 replace N2 := N2.below BB
 replace M3 := M3.below BB
 replace N3 := N3.below BB
 have P2 := ((Bz.new w b2 A2 n2 c2).alloc (.cells #[.bool b3, .slice A3 n3 c3] 24)).alloc (.cells #[.bool false, .slice none 0 0] 24)
 have P3 := (Bz.new (w.alloc (.cells #[.bool b2, .slice A2 n2 c2] 24)) b3 A3 n3 c3).alloc (.cells #[.bool false, .slice none 0 0] 24)
 simp only [hs_alloc] at P3
 have P4 := Bz.new ((w.alloc (.cells #[.bool b2, .slice A2 n2 c2] 24)).alloc (.cells #[.bool b3, .slice A3 n3 c3] 24)) false none 0 0
 simp only [hs_alloc] at P4
 go_enter Tryz.func53, Tryz.ntmps53
 go_upto_region 1 with (fail)
 generalize (((w.alloc (.cells #[.bool b2, .slice A2 n2 c2] 24)).alloc (.cells #[.bool b3, .slice A3 n3 c3] 24)).alloc (.cells #[.bool false, .slice none 0 0] 24)) = w0 at M2 N2 M3 N3 P2 P3 P4 BB ⊢
 refine wp_cut (by kernel_rfl) 12 ?_
 simp only [List.take_succ_cons, List.take_zero, List.drop_succ_cons, List.drop_zero]
 refine wp_cut_list (Ext := RB) (Rel := RBu) [fun v _ _ => v = .pointer (some ⟨w.heap.size, 0, none⟩), fun v _ _ => v = .bool b2, fun v _ _ => v = .pointer (some ⟨(w.heap.size + 1), 0, none⟩), fun v _ _ => v = .bool b3, fun v _ _ => v = .bool (b2 != b3), fun v _ _ => v = .pointer (some ⟨w.heap.size, 1, none⟩), fun v _ _ => v = .slice A2 n2 c2, fun v _ _ => v = .pointer (some ⟨(w.heap.size + 1), 1, none⟩), fun v _ _ => v = .slice A3 n3 c3, fun v _ w => IsTr w v (x2 * x3) (k2 + k3), fun v _ w => IsM w v (zv ((b2 != b3)) (x2 * x3)) (k2 + k3), fun v _ w => IsT w v (zv ((b2 != b3)) (x2 * x3)) (k2 + k3)] (n := 12) (by kernel_rfl) (by kernel_rfl) (by kernel_rfl) (by kernel_rfl) (by kernel_rfl) (by kernel_rfl) (by kernel_rfl) (by kernel_rfl) (by kernel_rfl) rb_refl rb_trans ⟨sC, ⟨sC, ⟨sC, ⟨sC, ⟨sC, ⟨sC, ⟨sC, ⟨sC, ⟨sC, ⟨sTr, ⟨sM, ⟨sT, trivial⟩⟩⟩⟩⟩⟩⟩⟩⟩⟩⟩⟩ ?_ ?_
 ·refine ⟨⟨⟨⟨⟨⟨⟨⟨⟨⟨⟨⟨trivial, ?_⟩, ?_⟩, ?_⟩, ?_⟩, ?_⟩, ?_⟩, ?_⟩, ?_⟩, ?_⟩, ?_⟩, ?_⟩, ?_⟩
  ·refine rs_plain rfl rfl fun a wr S => ?_
   have X := undrew S.ext
   exact wp_field0 (ev_of ((S.old 2 (by kernel_rfl)).trans rfl)) (done (by kernel_rfl) rbu_refl rfl)
  ·refine rs_plain rfl rfl fun a wr S => ?_
   have X := undrew S.ext
   obtain ⟨v0, e0, h0⟩ := S.got 0 (by kernel_rfl)
   exact wp_loadB ((ev_of (e0 5 (by kernel_rfl))).trans h0) (P2.below X) (done (by kernel_rfl) rbu_refl rfl)
  ·refine rs_plain rfl rfl fun a wr S => ?_
   have X := undrew S.ext
   exact wp_field0 (ev_of ((S.old 3 (by kernel_rfl)).trans rfl)) (done (by kernel_rfl) rbu_refl rfl)
  ·refine rs_plain rfl rfl fun a wr S => ?_
   have X := undrew S.ext
   obtain ⟨v2, e2, h2⟩ := S.got 2 (by kernel_rfl)
   exact wp_loadB ((ev_of (e2 7 (by kernel_rfl))).trans h2) (P3.below X) (done (by kernel_rfl) rbu_refl rfl)
  ·refine rs_plain rfl rfl fun a wr S => ?_
   have X := undrew S.ext
   obtain ⟨v1, e1, h1⟩ := S.got 1 (by kernel_rfl)
   obtain ⟨v3, e3, h3⟩ := S.got 3 (by kernel_rfl)
   exact wp_neB ((ev_of (e1 6 (by kernel_rfl))).trans h1) ((ev_of (e3 8 (by kernel_rfl))).trans h3) (done (by kernel_rfl) rbu_refl rfl)
  ·refine rs_plain rfl rfl fun a wr S => ?_
   have X := undrew S.ext
   exact wp_field1 (ev_of ((S.old 2 (by kernel_rfl)).trans rfl)) (done (by kernel_rfl) rbu_refl rfl)
  ·refine rs_plain rfl rfl fun a wr S => ?_
   have X := undrew S.ext
   obtain ⟨v5, e5, h5⟩ := S.got 5 (by kernel_rfl)
   exact wp_loadM ((ev_of (e5 10 (by kernel_rfl))).trans h5) (P2.below X) (done (by kernel_rfl) rbu_refl rfl)
  ·refine rs_plain rfl rfl fun a wr S => ?_
   have X := undrew S.ext
   exact wp_field1 (ev_of ((S.old 3 (by kernel_rfl)).trans rfl)) (done (by kernel_rfl) rbu_refl rfl)
  ·refine rs_plain rfl rfl fun a wr S => ?_
   have X := undrew S.ext
   obtain ⟨v7, e7, h7⟩ := S.got 7 (by kernel_rfl)
   exact wp_loadM ((ev_of (e7 12 (by kernel_rfl))).trans h7) (P3.below X) (done (by kernel_rfl) rbu_refl rfl)
  ·refine rs_plain rfl rfl fun a wr S => ?_
   have X := undrew S.ext
   obtain ⟨v6, e6, h6⟩ := S.got 6 (by kernel_rfl)
   obtain ⟨v8, e8, h8⟩ := S.got 8 (by kernel_rfl)
   exact st_call cf_ref01_Mul (args2 ((ev_of (e6 11 (by kernel_rfl))).trans h6) ((ev_of (e8 13 (by kernel_rfl))).trans h8)) (by kernel_rfl) rb (rMul ⟨_, _, _, rfl, N2.below X⟩ ⟨_, _, _, rfl, N3.below X⟩ (by omega) (by omega)) (fun _ _ _ h => h)
  ·refine rs_plain rfl rfl fun a wr S => ?_
   have X := undrew S.ext
   obtain ⟨v4, e4, h4⟩ := S.got 4 (by kernel_rfl)
   obtain ⟨v9, e9, h9⟩ := S.got 9 (by kernel_rfl)
   obtain ⟨AA, nn, cc, hvv, TT⟩ := (show IsTr wr _ (x2 * x3) (k2 + k3) from h9)
   exact wp_bZ ((ev_of (e4 9 (by kernel_rfl))).trans h4) ((ev_of (e9 14 (by kernel_rfl))).trans hvv) (done (by kernel_rfl) rbu_refl ⟨_, _, _, _, rfl, ⟨⟨_, TT.nm, rfl⟩⟩⟩)
  ·refine rs_plain rfl rfl fun a wr S => ?_
   have X := undrew S.ext
   obtain ⟨v10, e10, h10⟩ := S.got 10 (by kernel_rfl)
   exact st_call cf_ref03_whole (args1 (ev_of (e10 15 (by kernel_rfl)))) (by kernel_rfl) rb (cWhole3 (show IsM _ _ _ _ from h10) (by omega)) (fun _ _ _ h => h)
 ·intro fw1 w1 hR hv hap
  clear hap
  replace hR := undrew hR
  have f0 : fw1 0 = .pointer (some ⟨w.heap.size, 0, none⟩) := (hvc (hv 0 (by omega))).elim fun _ h => h
  have f1 : fw1 1 = .bool b2 := (hvc (hv 1 (by omega))).elim fun _ h => h
  have f2 : fw1 2 = .pointer (some ⟨(w.heap.size + 1), 0, none⟩) := (hvc (hv 2 (by omega))).elim fun _ h => h
  have f3 : fw1 3 = .bool b3 := (hvc (hv 3 (by omega))).elim fun _ h => h
  have f4 : fw1 4 = .bool (b2 != b3) := (hvc (hv 4 (by omega))).elim fun _ h => h
  have f5 : fw1 5 = .pointer (some ⟨w.heap.size, 1, none⟩) := (hvc (hv 5 (by omega))).elim fun _ h => h
  have f6 : fw1 6 = .slice A2 n2 c2 := (hvc (hv 6 (by omega))).elim fun _ h => h
  have f7 : fw1 7 = .pointer (some ⟨(w.heap.size + 1), 1, none⟩) := (hvc (hv 7 (by omega))).elim fun _ h => h
  have f8 : fw1 8 = .slice A3 n3 c3 := (hvc (hv 8 (by omega))).elim fun _ h => h
  obtain ⟨bx1x11, Ax1x11, nx1x11, cx1x11, f11, Tx1x11, sx1x11⟩ := (show IsT w1 _ (zv ((b2 != b3)) (x2 * x3)) (k2 + k3) from (hvc (hv 11 (by omega))).elim fun _ h => h)
  simp only [putFn, Act.put, List.setIfInBounds_toArray, List.set_cons_zero, List.set_cons_succ, f0, f1, f2, f3, f4, f5, f6, f7, f8, f11]
  replace M2 := M2.below hR
  replace N2 := N2.below hR
  replace M3 := M3.below hR
  replace N3 := N3.below hR
  replace P2 := P2.below hR
  replace P3 := P3.below hR
  replace P4 := P4.below hR
  replace BB := bl_trans BB hR
  clear hR hv
  have Vx1x11 : IsT w1 (.agg #[.bool bx1x11, .slice Ax1x11 nx1x11 cx1x11]) (zv ((b2 != b3)) (x2 * x3)) (k2 + k3) := ⟨_, _, _, _, rfl, Tx1x11, sx1x11⟩
  have Nx1x11 := Tx1x11.nm
  have Sx1x11 := Lib.hid sx1x11
  clear sx1x11
  have r40 := P4.c0
  have t40 := P4.f 0
  have r41 := P4.c1
  have t41 := P4.f 1
  go_wp2_with fail
  clear r40 t40 r41 t41
  have KR := kr_put2 (b' := bx1x11) (A' := Ax1x11) (n' := nx1x11) (c' := cx1x11) P4
  replace M2 := M2.kr KR
  replace N2 := N2.kr KR
  replace M3 := M3.kr KR
  replace N3 := N3.kr KR
  replace Vx1x11 := Vx1x11.kr KR
  replace Nx1x11 := Nx1x11.kr KR
  replace Tx1x11 := Tx1x11.kr KR
  replace P2 := P2.put2 (g := (w.heap.size + 1 + 1)) (b' := bx1x11) (A' := Ax1x11) (n' := nx1x11) (c' := cx1x11) (by omega)
  replace P3 := P3.put2 (g := (w.heap.size + 1 + 1)) (b' := bx1x11) (A' := Ax1x11) (n' := nx1x11) (c' := cx1x11) (by omega)
  replace BB := Below.put2 (g := (w.heap.size + 1 + 1)) (b' := bx1x11) (A' := Ax1x11) (n' := nx1x11) (c' := cx1x11) BB (by omega)
  replace P4 := P4.set2 (b' := bx1x11) (A' := Ax1x11) (n' := nx1x11) (c' := cx1x11)
  clear KR
  generalize World.setCell _ ⟨w.heap.size + 1 + 1, 1, none⟩ _ = w2 at M2 N2 M3 N3 Vx1x11 Nx1x11 Tx1x11 P2 P3 P4 BB ⊢
  have rc0 := P4.c0
  have rc1 := P4.c1
  exact bodyPost_ret (v := .agg #[.bool bx1x11, .slice Ax1x11 nx1x11 cx1x11]) (by simp [results, Tryz.results53, go_sem, rc0, rc1]) rfl ⟨_, rfl, BB, by rw [zv_mul, HZ2.out, HZ3.out] at Vx1x11; exact Vx1x11⟩
theorem cLess3 (h1 : IsM w v1 z1 k1) (hk1 : k1 ≤ 900) : Calls Tryz.prog 60 #[v1] w (Ans w fun w' v => IsT w' v (-z1) k1) := by
 have M1 := h1
 obtain ⟨b1, A1, n1, c1, rfl, y1⟩ := h1
 obtain ⟨x1, N1, hz1⟩ := y1.row
 have HZ1 := Lib.hid hz1
 clear y1 hz1
 have BB := (bl_trans (bl_alloc w (.cells #[.bool b1, .slice A1 n1 c1] 24)) (bl_alloc _ (.cells #[.bool false, .slice none 0 0] 24)))
 replace M1 := M1.below BB
 replace N1 := N1.below BB
 have P1 := (Bz.new w b1 A1 n1 c1).alloc (.cells #[.bool false, .slice none 0 0] 24)
 have P2 := Bz.new (w.alloc (.cells #[.bool b1, .slice A1 n1 c1] 24)) false none 0 0
 simp only [hs_alloc] at P2
 go_enter Tryz.func60, Tryz.ntmps60
 go_upto_region 1 with (fail)
 generalize ((w.alloc (.cells #[.bool b1, .slice A1 n1 c1] 24)).alloc (.cells #[.bool false, .slice none 0 0] 24)) = w0 at M1 N1 P1 P2 BB ⊢
 refine wp_seq 2 ?_
 simp only [List.take_succ_cons, List.take_zero, List.drop_succ_cons, List.drop_zero]
 refine wp_seq_list (Ext := RB) (Rel := RBu) [fun v _ _ => v = .agg #[.bool b1, .slice A1 n1 c1], fun v _ w => IsT w v (z1) k1] (n := 2) (by kernel_rfl) (by kernel_rfl) (by kernel_rfl) (by kernel_rfl) (by kernel_rfl) (by kernel_rfl) (by kernel_rfl) rb_refl rb_trans ⟨sC, ⟨sT, trivial⟩⟩ ?_ ?_
 ·refine ⟨⟨trivial, ?_⟩, ?_⟩
  ·refine rs_plain rfl rfl fun a wr S => ?_
   have X := rbX S.ext
   exact wp_load (ev_of ((S.old 1 (by kernel_rfl)).trans rfl)) (P1.below X) (done (by kernel_rfl) rbu_refl rfl)
  ·refine rs_plain rfl rfl fun a wr S => ?_
   have X := rbX S.ext
   obtain ⟨v0, e0, h0⟩ := S.got 0 (by kernel_rfl)
   exact st_call cf_ref03_whole (args1 ((ev_of (e0 3 (by kernel_rfl))).trans h0)) (by kernel_rfl) rb (cWhole3 (show IsM _ _ _ _ from (M1.below X)) (by omega)) (fun _ _ _ h => h)
 ·intro fw1 w1 hR hv hap
  clear hap
  replace hR := rbX hR
  have f0 : fw1 0 = .agg #[.bool b1, .slice A1 n1 c1] := (hvc (hv 0 (by omega))).elim fun _ h => h
  obtain ⟨bx1x1, Ax1x1, nx1x1, cx1x1, f1, Tx1x1, sx1x1⟩ := (show IsT w1 _ (z1) k1 from (hvc (hv 1 (by omega))).elim fun _ h => h)
  simp only [putFn, Act.put, List.setIfInBounds_toArray, List.set_cons_zero, List.set_cons_succ, f0, f1]
  replace M1 := M1.below hR
  replace N1 := N1.below hR
  replace P1 := P1.below hR
  replace P2 := P2.below hR
  replace BB := bl_trans BB hR
  clear hR hv
  have Vx1x1 : IsT w1 (.agg #[.bool bx1x1, .slice Ax1x1 nx1x1 cx1x1]) (z1) k1 := ⟨_, _, _, _, rfl, Tx1x1, sx1x1⟩
  have Nx1x1 := Tx1x1.nm
  have Sx1x1 := Lib.hid sx1x1
  clear sx1x1
  have r10 := P1.c0
  have t10 := P1.f 0
  have r11 := P1.c1
  have t11 := P1.f 1
  go_upto_region 2 with (fail)
  clear r10 t10 r11 t11
  have KR := kr_put2 (b' := bx1x1) (A' := Ax1x1) (n' := nx1x1) (c' := cx1x1) P1
  replace M1 := M1.kr KR
  replace N1 := N1.kr KR
  replace Vx1x1 := Vx1x1.kr KR
  replace Nx1x1 := Nx1x1.kr KR
  replace Tx1x1 := Tx1x1.kr KR
  replace P2 := P2.put2 (g := w.heap.size) (b' := bx1x1) (A' := Ax1x1) (n' := nx1x1) (c' := cx1x1) (by omega)
  replace BB := Below.put2 (g := w.heap.size) (b' := bx1x1) (A' := Ax1x1) (n' := nx1x1) (c' := cx1x1) BB (by omega)
  replace P1 := P1.set2 (b' := bx1x1) (A' := Ax1x1) (n' := nx1x1) (c' := cx1x1)
  clear KR
  generalize World.setCell _ ⟨w.heap.size, 1, none⟩ _ = w2 at M1 N1 Vx1x1 Nx1x1 Tx1x1 P1 P2 BB ⊢
  refine wp_seq 7 ?_
  simp only [List.take_succ_cons, List.take_zero, List.drop_succ_cons, List.drop_zero]
  refine wp_seq_list (Ext := RB) (Rel := RBu) [fun v _ _ => v = .pointer (some ⟨w.heap.size, 0, none⟩), fun v _ _ => v = .bool bx1x1, fun v _ _ => v = .bool (!bx1x1), fun v _ _ => v = .pointer (some ⟨w.heap.size, 1, none⟩), fun v _ _ => v = .slice Ax1x1 nx1x1 cx1x1, fun v _ w => IsM w v (zv ((!bx1x1)) z1.natAbs) k1, fun v _ w => IsT w v (zv ((!bx1x1)) z1.natAbs) k1] (n := 7) (by kernel_rfl) (by kernel_rfl) (by kernel_rfl) (by kernel_rfl) (by kernel_rfl) (by kernel_rfl) (by kernel_rfl) rb_refl rb_trans ⟨sC, ⟨sC, ⟨sC, ⟨sC, ⟨sC, ⟨sM, ⟨sT, trivial⟩⟩⟩⟩⟩⟩⟩ ?_ ?_
  ·refine ⟨⟨⟨⟨⟨⟨⟨trivial, ?_⟩, ?_⟩, ?_⟩, ?_⟩, ?_⟩, ?_⟩, ?_⟩
   ·refine rs_plain rfl rfl fun a wr S => ?_
    have X := rbX S.ext
    exact wp_field0 (ev_of ((S.old 1 (by kernel_rfl)).trans rfl)) (done (by kernel_rfl) rbu_refl rfl)
   ·refine rs_plain rfl rfl fun a wr S => ?_
    have X := rbX S.ext
    obtain ⟨v0, e0, h0⟩ := S.got 0 (by kernel_rfl)
    exact wp_loadB ((ev_of (e0 5 (by kernel_rfl))).trans h0) (P1.below X) (done (by kernel_rfl) rbu_refl rfl)
   ·refine rs_plain rfl rfl fun a wr S => ?_
    have X := rbX S.ext
    obtain ⟨v1, e1, h1⟩ := S.got 1 (by kernel_rfl)
    exact wp_not ((ev_of (e1 6 (by kernel_rfl))).trans h1) (done (by kernel_rfl) rbu_refl rfl)
   ·refine rs_plain rfl rfl fun a wr S => ?_
    have X := rbX S.ext
    exact wp_field1 (ev_of ((S.old 1 (by kernel_rfl)).trans rfl)) (done (by kernel_rfl) rbu_refl rfl)
   ·refine rs_plain rfl rfl fun a wr S => ?_
    have X := rbX S.ext
    obtain ⟨v3, e3, h3⟩ := S.got 3 (by kernel_rfl)
    exact wp_loadM ((ev_of (e3 8 (by kernel_rfl))).trans h3) (P1.below X) (done (by kernel_rfl) rbu_refl rfl)
   ·refine rs_plain rfl rfl fun a wr S => ?_
    have X := rbX S.ext
    obtain ⟨v2, e2, h2⟩ := S.got 2 (by kernel_rfl)
    obtain ⟨v4, e4, h4⟩ := S.got 4 (by kernel_rfl)
    exact wp_bZ ((ev_of (e2 7 (by kernel_rfl))).trans h2) ((ev_of (e4 9 (by kernel_rfl))).trans h4) (done (by kernel_rfl) rbu_refl ⟨_, _, _, _, rfl, ⟨⟨_, Nx1x1.below X, rfl⟩⟩⟩)
   ·refine rs_plain rfl rfl fun a wr S => ?_
    have X := rbX S.ext
    obtain ⟨v5, e5, h5⟩ := S.got 5 (by kernel_rfl)
    exact st_call cf_ref03_whole (args1 (ev_of (e5 10 (by kernel_rfl)))) (by kernel_rfl) rb (cWhole3 (show IsM _ _ _ _ from h5) (by omega)) (fun _ _ _ h => h)
  ·intro fw3 w3 hR hv hap
   clear hap
   replace hR := rbX hR
   have f0 : fw3 0 = .pointer (some ⟨w.heap.size, 0, none⟩) := (hvc (hv 0 (by omega))).elim fun _ h => h
   have f1 : fw3 1 = .bool bx1x1 := (hvc (hv 1 (by omega))).elim fun _ h => h
   have f2 : fw3 2 = .bool (!bx1x1) := (hvc (hv 2 (by omega))).elim fun _ h => h
   have f3 : fw3 3 = .pointer (some ⟨w.heap.size, 1, none⟩) := (hvc (hv 3 (by omega))).elim fun _ h => h
   have f4 : fw3 4 = .slice Ax1x1 nx1x1 cx1x1 := (hvc (hv 4 (by omega))).elim fun _ h => h
   obtain ⟨bx2x6, Ax2x6, nx2x6, cx2x6, f6, Tx2x6, sx2x6⟩ := (show IsT w3 _ (zv ((!bx1x1)) z1.natAbs) k1 from (hvc (hv 6 (by omega))).elim fun _ h => h)
   simp only [putFn, Act.put, List.setIfInBounds_toArray, List.set_cons_zero, List.set_cons_succ, f0, f1, f2, f3, f4, f6]
   replace M1 := M1.below hR
   replace N1 := N1.below hR
   replace Vx1x1 := Vx1x1.below hR
   replace Nx1x1 := Nx1x1.below hR
   replace Tx1x1 := Tx1x1.below hR
   replace P1 := P1.below hR
   replace P2 := P2.below hR
   replace BB := bl_trans BB hR
   clear hR hv
   have Vx2x6 : IsT w3 (.agg #[.bool bx2x6, .slice Ax2x6 nx2x6 cx2x6]) (zv ((!bx1x1)) z1.natAbs) k1 := ⟨_, _, _, _, rfl, Tx2x6, sx2x6⟩
   have Nx2x6 := Tx2x6.nm
   have Sx2x6 := Lib.hid sx2x6
   clear sx2x6
   have r20 := P2.c0
   have t20 := P2.f 0
   have r21 := P2.c1
   have t21 := P2.f 1
   go_wp2_with fail
   clear r20 t20 r21 t21
   have KR := kr_put2 (b' := bx2x6) (A' := Ax2x6) (n' := nx2x6) (c' := cx2x6) P2
   replace M1 := M1.kr KR
   replace N1 := N1.kr KR
   replace Vx1x1 := Vx1x1.kr KR
   replace Nx1x1 := Nx1x1.kr KR
   replace Tx1x1 := Tx1x1.kr KR
   replace Vx2x6 := Vx2x6.kr KR
   replace Nx2x6 := Nx2x6.kr KR
   replace Tx2x6 := Tx2x6.kr KR
   replace P1 := P1.put2 (g := (w.heap.size + 1)) (b' := bx2x6) (A' := Ax2x6) (n' := nx2x6) (c' := cx2x6) (by omega)
   replace BB := Below.put2 (g := (w.heap.size + 1)) (b' := bx2x6) (A' := Ax2x6) (n' := nx2x6) (c' := cx2x6) BB (by omega)
   replace P2 := P2.set2 (b' := bx2x6) (A' := Ax2x6) (n' := nx2x6) (c' := cx2x6)
   clear KR
   generalize World.setCell _ ⟨w.heap.size + 1, 1, none⟩ _ = w4 at M1 N1 Vx1x1 Nx1x1 Tx1x1 Vx2x6 Nx2x6 Tx2x6 P1 P2 BB ⊢
   have rc0 := P2.c0
   have rc1 := P2.c1
   exact bodyPost_ret (v := .agg #[.bool bx2x6, .slice Ax2x6 nx2x6 cx2x6]) (by simp [results, Tryz.results60, go_sem, rc0, rc1]) rfl ⟨_, rfl, BB, by rw [less_val Sx1x1.out] at Vx2x6; exact Vx2x6⟩
theorem cPlus3 (h2 : IsM w v2 z2 k2) (h3 : IsM w v3 z3 k3) (hk2 : k2 ≤ 800) (hk3 : k3 ≤ 800) : Calls Tryz.prog 63 #[v2, v3] w (Ans w fun w' v => IsT w' v (z2 + z3) (max k2 k3 + 1)) := by
 have M2 := h2
 obtain ⟨b2, A2, n2, c2, rfl, y2⟩ := h2
 obtain ⟨x2, N2, hz2⟩ := y2.row
 have HZ2 := Lib.hid hz2
 clear y2 hz2
 have M3 := h3
 obtain ⟨b3, A3, n3, c3, rfl, y3⟩ := h3
 obtain ⟨x3, N3, hz3⟩ := y3.row
 have HZ3 := Lib.hid hz3
 clear y3 hz3
 have BB := (bl_trans (bl_trans (bl_alloc w (.cells #[.bool b2, .slice A2 n2 c2] 24)) (bl_alloc _ (.cells #[.bool b3, .slice A3 n3 c3] 24))) (bl_alloc _ (.cells #[.bool false, .slice none 0 0] 24)))
 replace M2 := M2.below BB
 replace N2 := N2.below BB
 replace M3 := M3.below BB
 replace N3 := N3.below BB
 have P2 := ((Bz.new w b2 A2 n2 c2).alloc (.cells #[.bool b3, .slice A3 n3 c3] 24)).alloc (.cells #[.bool false, .slice none 0 0] 24)
 have P3 := (Bz.new (w.alloc (.cells #[.bool b2, .slice A2 n2 c2] 24)) b3 A3 n3 c3).alloc (.cells #[.bool false, .slice none 0 0] 24)
 simp only [hs_alloc] at P3
 have P4 := Bz.new ((w.alloc (.cells #[.bool b2, .slice A2 n2 c2] 24)).alloc (.cells #[.bool b3, .slice A3 n3 c3] 24)) false none 0 0
 simp only [hs_alloc] at P4
 go_enter Tryz.func63, Tryz.ntmps63
 go_upto_region 1 with (fail)
 generalize (((w.alloc (.cells #[.bool b2, .slice A2 n2 c2] 24)).alloc (.cells #[.bool b3, .slice A3 n3 c3] 24)).alloc (.cells #[.bool false, .slice none 0 0] 24)) = w0 at M2 N2 M3 N3 P2 P3 P4 BB ⊢
 refine wp_seq 2 ?_
 simp only [List.take_succ_cons, List.take_zero, List.drop_succ_cons, List.drop_zero]
 refine wp_seq_list (Ext := RB) (Rel := RBu) [fun v _ _ => v = .agg #[.bool b2, .slice A2 n2 c2], fun v _ w => IsT w v (z2) k2] (n := 2) (by kernel_rfl) (by kernel_rfl) (by kernel_rfl) (by kernel_rfl) (by kernel_rfl) (by kernel_rfl) (by kernel_rfl) rb_refl rb_trans ⟨sC, ⟨sT, trivial⟩⟩ ?_ ?_
 ·refine ⟨⟨trivial, ?_⟩, ?_⟩
  ·refine rs_plain rfl rfl fun a wr S => ?_
   have X := rbX S.ext
   exact wp_load (ev_of ((S.old 2 (by kernel_rfl)).trans rfl)) (P2.below X) (done (by kernel_rfl) rbu_refl rfl)
  ·refine rs_plain rfl rfl fun a wr S => ?_
   have X := rbX S.ext
   obtain ⟨v0, e0, h0⟩ := S.got 0 (by kernel_rfl)
   exact st_call cf_ref03_whole (args1 ((ev_of (e0 9 (by kernel_rfl))).trans h0)) (by kernel_rfl) rb (cWhole3 (show IsM _ _ _ _ from (M2.below X)) (by omega)) (fun _ _ _ h => h)
 ·intro fw1 w1 hR hv hap
  clear hap
  replace hR := rbX hR
  have f0 : fw1 0 = .agg #[.bool b2, .slice A2 n2 c2] := (hvc (hv 0 (by omega))).elim fun _ h => h
  obtain ⟨bx1x1, Ax1x1, nx1x1, cx1x1, f1, Tx1x1, sx1x1⟩ := (show IsT w1 _ (z2) k2 from (hvc (hv 1 (by omega))).elim fun _ h => h)
  simp only [putFn, Act.put, List.setIfInBounds_toArray, List.set_cons_zero, List.set_cons_succ, f0, f1]
  replace M2 := M2.below hR
  replace N2 := N2.below hR
  replace M3 := M3.below hR
  replace N3 := N3.below hR
  replace P2 := P2.below hR
  replace P3 := P3.below hR
  replace P4 := P4.below hR
  replace BB := bl_trans BB hR
  clear hR hv
  have Vx1x1 : IsT w1 (.agg #[.bool bx1x1, .slice Ax1x1 nx1x1 cx1x1]) (z2) k2 := ⟨_, _, _, _, rfl, Tx1x1, sx1x1⟩
  have Nx1x1 := Tx1x1.nm
  have Sx1x1 := Lib.hid sx1x1
  clear sx1x1
  have r20 := P2.c0
  have t20 := P2.f 0
  have r21 := P2.c1
  have t21 := P2.f 1
  go_upto_region 2 with (fail)
  clear r20 t20 r21 t21
  have KR := kr_put2 (b' := bx1x1) (A' := Ax1x1) (n' := nx1x1) (c' := cx1x1) P2
  replace M2 := M2.kr KR
  replace N2 := N2.kr KR
  replace M3 := M3.kr KR
  replace N3 := N3.kr KR
  replace Vx1x1 := Vx1x1.kr KR
  replace Nx1x1 := Nx1x1.kr KR
  replace Tx1x1 := Tx1x1.kr KR
  replace P3 := P3.put2 (g := w.heap.size) (b' := bx1x1) (A' := Ax1x1) (n' := nx1x1) (c' := cx1x1) (by omega)
  replace P4 := P4.put2 (g := w.heap.size) (b' := bx1x1) (A' := Ax1x1) (n' := nx1x1) (c' := cx1x1) (by omega)
  replace BB := Below.put2 (g := w.heap.size) (b' := bx1x1) (A' := Ax1x1) (n' := nx1x1) (c' := cx1x1) BB (by omega)
  replace P2 := P2.set2 (b' := bx1x1) (A' := Ax1x1) (n' := nx1x1) (c' := cx1x1)
  clear KR
  generalize World.setCell _ ⟨w.heap.size, 1, none⟩ _ = w2 at M2 N2 M3 N3 Vx1x1 Nx1x1 Tx1x1 P2 P3 P4 BB ⊢
  refine wp_seq 2 ?_
  simp only [List.take_succ_cons, List.take_zero, List.drop_succ_cons, List.drop_zero]
  refine wp_seq_list (Ext := RB) (Rel := RBu) [fun v _ _ => v = .agg #[.bool b3, .slice A3 n3 c3], fun v _ w => IsT w v (z3) k3] (n := 2) (by kernel_rfl) (by kernel_rfl) (by kernel_rfl) (by kernel_rfl) (by kernel_rfl) (by kernel_rfl) (by kernel_rfl) rb_refl rb_trans ⟨sC, ⟨sT, trivial⟩⟩ ?_ ?_
  ·refine ⟨⟨trivial, ?_⟩, ?_⟩
   ·refine rs_plain rfl rfl fun a wr S => ?_
    have X := rbX S.ext
    exact wp_load (ev_of ((S.old 3 (by kernel_rfl)).trans rfl)) (P3.below X) (done (by kernel_rfl) rbu_refl rfl)
   ·refine rs_plain rfl rfl fun a wr S => ?_
    have X := rbX S.ext
    obtain ⟨v0, e0, h0⟩ := S.got 0 (by kernel_rfl)
    exact st_call cf_ref03_whole (args1 ((ev_of (e0 11 (by kernel_rfl))).trans h0)) (by kernel_rfl) rb (cWhole3 (show IsM _ _ _ _ from (M3.below X)) (by omega)) (fun _ _ _ h => h)
  ·intro fw3 w3 hR hv hap
   clear hap
   replace hR := rbX hR
   have f0 : fw3 0 = .agg #[.bool b3, .slice A3 n3 c3] := (hvc (hv 0 (by omega))).elim fun _ h => h
   obtain ⟨bx2x1, Ax2x1, nx2x1, cx2x1, f1, Tx2x1, sx2x1⟩ := (show IsT w3 _ (z3) k3 from (hvc (hv 1 (by omega))).elim fun _ h => h)
   simp only [putFn, Act.put, List.setIfInBounds_toArray, List.set_cons_zero, List.set_cons_succ, f0, f1]
   replace M2 := M2.below hR
   replace N2 := N2.below hR
   replace M3 := M3.below hR
   replace N3 := N3.below hR
   replace Vx1x1 := Vx1x1.below hR
   replace Nx1x1 := Nx1x1.below hR
   replace Tx1x1 := Tx1x1.below hR
   replace P2 := P2.below hR
   replace P3 := P3.below hR
   replace P4 := P4.below hR
   replace BB := bl_trans BB hR
   clear hR hv
   have Vx2x1 : IsT w3 (.agg #[.bool bx2x1, .slice Ax2x1 nx2x1 cx2x1]) (z3) k3 := ⟨_, _, _, _, rfl, Tx2x1, sx2x1⟩
   have Nx2x1 := Tx2x1.nm
   have Sx2x1 := Lib.hid sx2x1
   clear sx2x1
   have r30 := P3.c0
   have t30 := P3.f 0
   have r31 := P3.c1
   have t31 := P3.f 1
   go_upto_region 3 with (fail)
   clear r30 t30 r31 t31
   have KR := kr_put2 (b' := bx2x1) (A' := Ax2x1) (n' := nx2x1) (c' := cx2x1) P3
   replace M2 := M2.kr KR
   replace N2 := N2.kr KR
   replace M3 := M3.kr KR
   replace N3 := N3.kr KR
   replace Vx1x1 := Vx1x1.kr KR
   replace Nx1x1 := Nx1x1.kr KR
   replace Tx1x1 := Tx1x1.kr KR
   replace Vx2x1 := Vx2x1.kr KR
   replace Nx2x1 := Nx2x1.kr KR
   replace Tx2x1 := Tx2x1.kr KR
   replace P2 := P2.put2 (g := (w.heap.size + 1)) (b' := bx2x1) (A' := Ax2x1) (n' := nx2x1) (c' := cx2x1) (by omega)
   replace P4 := P4.put2 (g := (w.heap.size + 1)) (b' := bx2x1) (A' := Ax2x1) (n' := nx2x1) (c' := cx2x1) (by omega)
   replace BB := Below.put2 (g := (w.heap.size + 1)) (b' := bx2x1) (A' := Ax2x1) (n' := nx2x1) (c' := cx2x1) BB (by omega)
   replace P3 := P3.set2 (b' := bx2x1) (A' := Ax2x1) (n' := nx2x1) (c' := cx2x1)
   clear KR
   generalize World.setCell _ ⟨w.heap.size + 1, 1, none⟩ _ = w4 at M2 N2 M3 N3 Vx1x1 Nx1x1 Tx1x1 Vx2x1 Nx2x1 Tx2x1 P2 P3 P4 BB ⊢
   cases bx1x1 <;> cases bx2x1
   ·skip
    refine wp_seq 5 ?_
    simp only [List.take_succ_cons, List.take_zero, List.drop_succ_cons, List.drop_zero]
    refine wp_seq_list (Ext := RB) (Rel := RBu) [fun v _ _ => v = .pointer (some ⟨w.heap.size, 0, none⟩), fun v _ _ => v = .bool false, fun v _ _ => v = .pointer (some ⟨(w.heap.size + 1), 0, none⟩), fun v _ _ => v = .bool false, fun v _ _ => v = .bool true] (n := 5) (by kernel_rfl) (by kernel_rfl) (by kernel_rfl) (by kernel_rfl) (by kernel_rfl) (by kernel_rfl) (by kernel_rfl) rb_refl rb_trans ⟨sC, ⟨sC, ⟨sC, ⟨sC, ⟨sC, trivial⟩⟩⟩⟩⟩ ?_ ?_
    ·refine ⟨⟨⟨⟨⟨trivial, ?_⟩, ?_⟩, ?_⟩, ?_⟩, ?_⟩
     ·refine rs_plain rfl rfl fun a wr S => ?_
      have X := rbX S.ext
      exact wp_field0 (ev_of ((S.old 2 (by kernel_rfl)).trans rfl)) (done (by kernel_rfl) rbu_refl rfl)
     ·refine rs_plain rfl rfl fun a wr S => ?_
      have X := rbX S.ext
      obtain ⟨v0, e0, h0⟩ := S.got 0 (by kernel_rfl)
      exact wp_loadB ((ev_of (e0 13 (by kernel_rfl))).trans h0) (P2.below X) (done (by kernel_rfl) rbu_refl rfl)
     ·refine rs_plain rfl rfl fun a wr S => ?_
      have X := rbX S.ext
      exact wp_field0 (ev_of ((S.old 3 (by kernel_rfl)).trans rfl)) (done (by kernel_rfl) rbu_refl rfl)
     ·refine rs_plain rfl rfl fun a wr S => ?_
      have X := rbX S.ext
      obtain ⟨v2, e2, h2⟩ := S.got 2 (by kernel_rfl)
      exact wp_loadB ((ev_of (e2 15 (by kernel_rfl))).trans h2) (P3.below X) (done (by kernel_rfl) rbu_refl rfl)
     ·refine rs_plain rfl rfl fun a wr S => ?_
      have X := rbX S.ext
      obtain ⟨v1, e1, h1⟩ := S.got 1 (by kernel_rfl)
      obtain ⟨v3, e3, h3⟩ := S.got 3 (by kernel_rfl)
      exact wp_eqB ((ev_of (e1 14 (by kernel_rfl))).trans h1) ((ev_of (e3 16 (by kernel_rfl))).trans h3) (done (by kernel_rfl) rbu_refl (congrArg Value.bool (by decide)))
    ·intro fw5 w5 hR hv hap
     clear hap
     replace hR := rbX hR
     have f0 : fw5 0 = .pointer (some ⟨w.heap.size, 0, none⟩) := (hvc (hv 0 (by omega))).elim fun _ h => h
     have f1 : fw5 1 = .bool false := (hvc (hv 1 (by omega))).elim fun _ h => h
     have f2 : fw5 2 = .pointer (some ⟨(w.heap.size + 1), 0, none⟩) := (hvc (hv 2 (by omega))).elim fun _ h => h
     have f3 : fw5 3 = .bool false := (hvc (hv 3 (by omega))).elim fun _ h => h
     have f4 : fw5 4 = .bool true := (hvc (hv 4 (by omega))).elim fun _ h => h
     simp only [putFn, Act.put, List.setIfInBounds_toArray, List.set_cons_zero, List.set_cons_succ, f0, f1, f2, f3, f4]
     replace M2 := M2.below hR
     replace N2 := N2.below hR
     replace M3 := M3.below hR
     replace N3 := N3.below hR
     replace Vx1x1 := Vx1x1.below hR
     replace Nx1x1 := Nx1x1.below hR
     replace Tx1x1 := Tx1x1.below hR
     replace Vx2x1 := Vx2x1.below hR
     replace Nx2x1 := Nx2x1.below hR
     replace Tx2x1 := Tx2x1.below hR
     replace P2 := P2.below hR
     replace P3 := P3.below hR
     replace P4 := P4.below hR
     replace BB := bl_trans BB hR
     clear hR hv
     go_upto_region 4 with (fail)
     refine wp_cut (by kernel_rfl) 9 ?_
     simp only [List.take_succ_cons, List.take_zero, List.drop_succ_cons, List.drop_zero]
     refine wp_cut_list (Ext := RB) (Rel := RBu) [fun v _ _ => v = .pointer (some ⟨w.heap.size, 0, none⟩), fun v _ _ => v = .bool false, fun v _ _ => v = .pointer (some ⟨w.heap.size, 1, none⟩), fun v _ _ => v = .slice Ax1x1 nx1x1 cx1x1, fun v _ _ => v = .pointer (some ⟨(w.heap.size + 1), 1, none⟩), fun v _ _ => v = .slice Ax2x1 nx2x1 cx2x1, fun v _ w => IsTr w v (z2.natAbs + z3.natAbs) ((max k2 k3) + 1), fun v _ w => IsM w v (zv false (z2.natAbs + z3.natAbs)) ((max k2 k3) + 1), fun v _ w => IsT w v (zv false (z2.natAbs + z3.natAbs)) ((max k2 k3) + 1)] (n := 9) (by kernel_rfl) (by kernel_rfl) (by kernel_rfl) (by kernel_rfl) (by kernel_rfl) (by kernel_rfl) (by kernel_rfl) (by kernel_rfl) (by kernel_rfl) rb_refl rb_trans ⟨sC, ⟨sC, ⟨sC, ⟨sC, ⟨sC, ⟨sC, ⟨sTr, ⟨sM, ⟨sT, trivial⟩⟩⟩⟩⟩⟩⟩⟩⟩ ?_ ?_
     ·refine ⟨⟨⟨⟨⟨⟨⟨⟨⟨trivial, ?_⟩, ?_⟩, ?_⟩, ?_⟩, ?_⟩, ?_⟩, ?_⟩, ?_⟩, ?_⟩
      ·refine rs_plain rfl rfl fun a wr S => ?_
       have X := undrew S.ext
       exact wp_field0 (ev_of ((S.old 2 (by kernel_rfl)).trans rfl)) (done (by kernel_rfl) rbu_refl rfl)
      ·refine rs_plain rfl rfl fun a wr S => ?_
       have X := undrew S.ext
       obtain ⟨v0, e0, h0⟩ := S.got 0 (by kernel_rfl)
       exact wp_loadB ((ev_of (e0 18 (by kernel_rfl))).trans h0) (P2.below X) (done (by kernel_rfl) rbu_refl rfl)
      ·refine rs_plain rfl rfl fun a wr S => ?_
       have X := undrew S.ext
       exact wp_field1 (ev_of ((S.old 2 (by kernel_rfl)).trans rfl)) (done (by kernel_rfl) rbu_refl rfl)
      ·refine rs_plain rfl rfl fun a wr S => ?_
       have X := undrew S.ext
       obtain ⟨v2, e2, h2⟩ := S.got 2 (by kernel_rfl)
       exact wp_loadM ((ev_of (e2 20 (by kernel_rfl))).trans h2) (P2.below X) (done (by kernel_rfl) rbu_refl rfl)
      ·refine rs_plain rfl rfl fun a wr S => ?_
       have X := undrew S.ext
       exact wp_field1 (ev_of ((S.old 3 (by kernel_rfl)).trans rfl)) (done (by kernel_rfl) rbu_refl rfl)
      ·refine rs_plain rfl rfl fun a wr S => ?_
       have X := undrew S.ext
       obtain ⟨v4, e4, h4⟩ := S.got 4 (by kernel_rfl)
       exact wp_loadM ((ev_of (e4 22 (by kernel_rfl))).trans h4) (P3.below X) (done (by kernel_rfl) rbu_refl rfl)
      ·refine rs_plain rfl rfl fun a wr S => ?_
       have X := undrew S.ext
       obtain ⟨v3, e3, h3⟩ := S.got 3 (by kernel_rfl)
       obtain ⟨v5, e5, h5⟩ := S.got 5 (by kernel_rfl)
       exact st_call cf_ref01_Add (args2 ((ev_of (e3 21 (by kernel_rfl))).trans h3) ((ev_of (e5 23 (by kernel_rfl))).trans h5)) (by kernel_rfl) rb (rAdd ⟨_, _, _, rfl, Nx1x1.below X⟩ ⟨_, _, _, rfl, Nx2x1.below X⟩ (by omega) (by omega)) (fun _ _ _ h => h)
      ·refine rs_plain rfl rfl fun a wr S => ?_
       have X := undrew S.ext
       obtain ⟨v1, e1, h1⟩ := S.got 1 (by kernel_rfl)
       obtain ⟨v6, e6, h6⟩ := S.got 6 (by kernel_rfl)
       obtain ⟨AA, nn, cc, hvv, TT⟩ := (show IsTr wr _ (z2.natAbs + z3.natAbs) ((max k2 k3) + 1) from h6)
       exact wp_bZ ((ev_of (e1 19 (by kernel_rfl))).trans h1) ((ev_of (e6 24 (by kernel_rfl))).trans hvv) (done (by kernel_rfl) rbu_refl ⟨_, _, _, _, rfl, ⟨⟨_, TT.nm, rfl⟩⟩⟩)
      ·refine rs_plain rfl rfl fun a wr S => ?_
       have X := undrew S.ext
       obtain ⟨v7, e7, h7⟩ := S.got 7 (by kernel_rfl)
       exact st_call cf_ref03_whole (args1 (ev_of (e7 25 (by kernel_rfl)))) (by kernel_rfl) rb (cWhole3 (show IsM _ _ _ _ from h7) (by omega)) (fun _ _ _ h => h)
     ·intro fw6 w6 hR hv hap
      clear hap
      replace hR := undrew hR
      have f0 : fw6 0 = .pointer (some ⟨w.heap.size, 0, none⟩) := (hvc (hv 0 (by omega))).elim fun _ h => h
      have f1 : fw6 1 = .bool false := (hvc (hv 1 (by omega))).elim fun _ h => h
      have f2 : fw6 2 = .pointer (some ⟨w.heap.size, 1, none⟩) := (hvc (hv 2 (by omega))).elim fun _ h => h
      have f3 : fw6 3 = .slice Ax1x1 nx1x1 cx1x1 := (hvc (hv 3 (by omega))).elim fun _ h => h
      have f4 : fw6 4 = .pointer (some ⟨(w.heap.size + 1), 1, none⟩) := (hvc (hv 4 (by omega))).elim fun _ h => h
      have f5 : fw6 5 = .slice Ax2x1 nx2x1 cx2x1 := (hvc (hv 5 (by omega))).elim fun _ h => h
      obtain ⟨bx4x8, Ax4x8, nx4x8, cx4x8, f8, Tx4x8, sx4x8⟩ := (show IsT w6 _ (zv false (z2.natAbs + z3.natAbs)) ((max k2 k3) + 1) from (hvc (hv 8 (by omega))).elim fun _ h => h)
      simp only [putFn, Act.put, List.setIfInBounds_toArray, List.set_cons_zero, List.set_cons_succ, f0, f1, f2, f3, f4, f5, f8]
      replace M2 := M2.below hR
      replace N2 := N2.below hR
      replace M3 := M3.below hR
      replace N3 := N3.below hR
      replace Vx1x1 := Vx1x1.below hR
      replace Nx1x1 := Nx1x1.below hR
      replace Tx1x1 := Tx1x1.below hR
      replace Vx2x1 := Vx2x1.below hR
      replace Nx2x1 := Nx2x1.below hR
      replace Tx2x1 := Tx2x1.below hR
      replace P2 := P2.below hR
      replace P3 := P3.below hR
      replace P4 := P4.below hR
      replace BB := bl_trans BB hR
      clear hR hv
      have Vx4x8 : IsT w6 (.agg #[.bool bx4x8, .slice Ax4x8 nx4x8 cx4x8]) (zv false (z2.natAbs + z3.natAbs)) ((max k2 k3) + 1) := ⟨_, _, _, _, rfl, Tx4x8, sx4x8⟩
      have Nx4x8 := Tx4x8.nm
      have Sx4x8 := Lib.hid sx4x8
      clear sx4x8
      have r40 := P4.c0
      have t40 := P4.f 0
      have r41 := P4.c1
      have t41 := P4.f 1
      go_wp2_with fail
      clear r40 t40 r41 t41
      have KR := kr_put2 (b' := bx4x8) (A' := Ax4x8) (n' := nx4x8) (c' := cx4x8) P4
      replace M2 := M2.kr KR
      replace N2 := N2.kr KR
      replace M3 := M3.kr KR
      replace N3 := N3.kr KR
      replace Vx1x1 := Vx1x1.kr KR
      replace Nx1x1 := Nx1x1.kr KR
      replace Tx1x1 := Tx1x1.kr KR
      replace Vx2x1 := Vx2x1.kr KR
      replace Nx2x1 := Nx2x1.kr KR
      replace Tx2x1 := Tx2x1.kr KR
      replace Vx4x8 := Vx4x8.kr KR
      replace Nx4x8 := Nx4x8.kr KR
      replace Tx4x8 := Tx4x8.kr KR
      replace P2 := P2.put2 (g := (w.heap.size + 1 + 1)) (b' := bx4x8) (A' := Ax4x8) (n' := nx4x8) (c' := cx4x8) (by omega)
      replace P3 := P3.put2 (g := (w.heap.size + 1 + 1)) (b' := bx4x8) (A' := Ax4x8) (n' := nx4x8) (c' := cx4x8) (by omega)
      replace BB := Below.put2 (g := (w.heap.size + 1 + 1)) (b' := bx4x8) (A' := Ax4x8) (n' := nx4x8) (c' := cx4x8) BB (by omega)
      replace P4 := P4.set2 (b' := bx4x8) (A' := Ax4x8) (n' := nx4x8) (c' := cx4x8)
      clear KR
      generalize World.setCell _ ⟨w.heap.size + 1 + 1, 1, none⟩ _ = w7 at M2 N2 M3 N3 Vx1x1 Nx1x1 Tx1x1 Vx2x1 Nx2x1 Tx2x1 Vx4x8 Nx4x8 Tx4x8 P2 P3 P4 BB ⊢
      have rc0 := P4.c0
      have rc1 := P4.c1
      exact bodyPost_ret (v := .agg #[.bool bx4x8, .slice Ax4x8 nx4x8 cx4x8]) (by simp [results, Tryz.results63, go_sem, rc0, rc1]) rfl ⟨_, rfl, BB, by rw [plus_same Sx1x1.out Sx2x1.out] at Vx4x8; exact Vx4x8⟩
   ·skip
    refine wp_seq 5 ?_
    simp only [List.take_succ_cons, List.take_zero, List.drop_succ_cons, List.drop_zero]
    refine wp_seq_list (Ext := RB) (Rel := RBu) [fun v _ _ => v = .pointer (some ⟨w.heap.size, 0, none⟩), fun v _ _ => v = .bool false, fun v _ _ => v = .pointer (some ⟨(w.heap.size + 1), 0, none⟩), fun v _ _ => v = .bool true, fun v _ _ => v = .bool false] (n := 5) (by kernel_rfl) (by kernel_rfl) (by kernel_rfl) (by kernel_rfl) (by kernel_rfl) (by kernel_rfl) (by kernel_rfl) rb_refl rb_trans ⟨sC, ⟨sC, ⟨sC, ⟨sC, ⟨sC, trivial⟩⟩⟩⟩⟩ ?_ ?_
    ·refine ⟨⟨⟨⟨⟨trivial, ?_⟩, ?_⟩, ?_⟩, ?_⟩, ?_⟩
     ·refine rs_plain rfl rfl fun a wr S => ?_
      have X := rbX S.ext
      exact wp_field0 (ev_of ((S.old 2 (by kernel_rfl)).trans rfl)) (done (by kernel_rfl) rbu_refl rfl)
     ·refine rs_plain rfl rfl fun a wr S => ?_
      have X := rbX S.ext
      obtain ⟨v0, e0, h0⟩ := S.got 0 (by kernel_rfl)
      exact wp_loadB ((ev_of (e0 13 (by kernel_rfl))).trans h0) (P2.below X) (done (by kernel_rfl) rbu_refl rfl)
     ·refine rs_plain rfl rfl fun a wr S => ?_
      have X := rbX S.ext
      exact wp_field0 (ev_of ((S.old 3 (by kernel_rfl)).trans rfl)) (done (by kernel_rfl) rbu_refl rfl)
     ·refine rs_plain rfl rfl fun a wr S => ?_
      have X := rbX S.ext
      obtain ⟨v2, e2, h2⟩ := S.got 2 (by kernel_rfl)
      exact wp_loadB ((ev_of (e2 15 (by kernel_rfl))).trans h2) (P3.below X) (done (by kernel_rfl) rbu_refl rfl)
     ·refine rs_plain rfl rfl fun a wr S => ?_
      have X := rbX S.ext
      obtain ⟨v1, e1, h1⟩ := S.got 1 (by kernel_rfl)
      obtain ⟨v3, e3, h3⟩ := S.got 3 (by kernel_rfl)
      exact wp_eqB ((ev_of (e1 14 (by kernel_rfl))).trans h1) ((ev_of (e3 16 (by kernel_rfl))).trans h3) (done (by kernel_rfl) rbu_refl (congrArg Value.bool (by decide)))
    ·intro fw8 w8 hR hv hap
     clear hap
     replace hR := rbX hR
     have f0 : fw8 0 = .pointer (some ⟨w.heap.size, 0, none⟩) := (hvc (hv 0 (by omega))).elim fun _ h => h
     have f1 : fw8 1 = .bool false := (hvc (hv 1 (by omega))).elim fun _ h => h
     have f2 : fw8 2 = .pointer (some ⟨(w.heap.size + 1), 0, none⟩) := (hvc (hv 2 (by omega))).elim fun _ h => h
     have f3 : fw8 3 = .bool true := (hvc (hv 3 (by omega))).elim fun _ h => h
     have f4 : fw8 4 = .bool false := (hvc (hv 4 (by omega))).elim fun _ h => h
     simp only [putFn, Act.put, List.setIfInBounds_toArray, List.set_cons_zero, List.set_cons_succ, f0, f1, f2, f3, f4]
     replace M2 := M2.below hR
     replace N2 := N2.below hR
     replace M3 := M3.below hR
     replace N3 := N3.below hR
     replace Vx1x1 := Vx1x1.below hR
     replace Nx1x1 := Nx1x1.below hR
     replace Tx1x1 := Tx1x1.below hR
     replace Vx2x1 := Vx2x1.below hR
     replace Nx2x1 := Nx2x1.below hR
     replace Tx2x1 := Tx2x1.below hR
     replace P2 := P2.below hR
     replace P3 := P3.below hR
     replace P4 := P4.below hR
     replace BB := bl_trans BB hR
     clear hR hv
     go_upto_region 5 with (fail)
     obtain ⟨c, hc, hlt⟩ : ∃ c, cmpV z2.natAbs z3.natAbs = c ∧ (c < 0 ↔ z2.natAbs < z3.natAbs) := ⟨_, rfl, cmpV_neg _ _⟩
     have HC := Lib.hid hc
     clear hc
     by_cases hx : c < 0
     ·have HL := Lib.hid (hlt.1 hx)
      clear hlt
      refine wp_seq 6 ?_
      simp only [List.take_succ_cons, List.take_zero, List.drop_succ_cons, List.drop_zero]
      refine wp_seq_list (Ext := RB) (Rel := RBu) [fun v _ _ => v = .pointer (some ⟨w.heap.size, 1, none⟩), fun v _ _ => v = .slice Ax1x1 nx1x1 cx1x1, fun v _ _ => v = .pointer (some ⟨(w.heap.size + 1), 1, none⟩), fun v _ _ => v = .slice Ax2x1 nx2x1 cx2x1, fun v _ _ => v = .int .i64 c, fun v _ _ => v = .bool true] (n := 6) (by kernel_rfl) (by kernel_rfl) (by kernel_rfl) (by kernel_rfl) (by kernel_rfl) (by kernel_rfl) (by kernel_rfl) rb_refl rb_trans ⟨sC, ⟨sC, ⟨sC, ⟨sC, ⟨sC, ⟨sC, trivial⟩⟩⟩⟩⟩⟩ ?_ ?_
      ·refine ⟨⟨⟨⟨⟨⟨trivial, ?_⟩, ?_⟩, ?_⟩, ?_⟩, ?_⟩, ?_⟩
       ·refine rs_plain rfl rfl fun a wr S => ?_
        have X := rbX S.ext
        exact wp_field1 (ev_of ((S.old 2 (by kernel_rfl)).trans rfl)) (done (by kernel_rfl) rbu_refl rfl)
       ·refine rs_plain rfl rfl fun a wr S => ?_
        have X := rbX S.ext
        obtain ⟨v0, e0, h0⟩ := S.got 0 (by kernel_rfl)
        exact wp_loadM ((ev_of (e0 27 (by kernel_rfl))).trans h0) (P2.below X) (done (by kernel_rfl) rbu_refl rfl)
       ·refine rs_plain rfl rfl fun a wr S => ?_
        have X := rbX S.ext
        exact wp_field1 (ev_of ((S.old 3 (by kernel_rfl)).trans rfl)) (done (by kernel_rfl) rbu_refl rfl)
       ·refine rs_plain rfl rfl fun a wr S => ?_
        have X := rbX S.ext
        obtain ⟨v2, e2, h2⟩ := S.got 2 (by kernel_rfl)
        exact wp_loadM ((ev_of (e2 29 (by kernel_rfl))).trans h2) (P3.below X) (done (by kernel_rfl) rbu_refl rfl)
       ·refine rs_plain rfl rfl fun a wr S => ?_
        have X := rbX S.ext
        obtain ⟨v1, e1, h1⟩ := S.got 1 (by kernel_rfl)
        obtain ⟨v3, e3, h3⟩ := S.got 3 (by kernel_rfl)
        exact st_call cf_ref01_Cmp (args2 ((ev_of (e1 28 (by kernel_rfl))).trans h1) ((ev_of (e3 30 (by kernel_rfl))).trans h3)) (by kernel_rfl) rb ((rCmp ⟨_, _, _, rfl, Nx1x1.below X⟩ ⟨_, _, _, rfl, Nx2x1.below X⟩ (by omega) (by omega)).mono (ans_intW HC.out)) (fun _ _ _ h => h)
       ·refine rs_plain rfl rfl fun a wr S => ?_
        have X := rbX S.ext
        obtain ⟨v4, e4, h4⟩ := S.got 4 (by kernel_rfl)
        exact wp_ltI ((ev_of (e4 31 (by kernel_rfl))).trans h4) rfl (done (by kernel_rfl) rbu_refl (congrArg Value.bool (decide_eq_true hx)))
      ·intro fw9 w9 hR hv hap
       clear hap
       replace hR := rbX hR
       have f0 : fw9 0 = .pointer (some ⟨w.heap.size, 1, none⟩) := (hvc (hv 0 (by omega))).elim fun _ h => h
       have f1 : fw9 1 = .slice Ax1x1 nx1x1 cx1x1 := (hvc (hv 1 (by omega))).elim fun _ h => h
       have f2 : fw9 2 = .pointer (some ⟨(w.heap.size + 1), 1, none⟩) := (hvc (hv 2 (by omega))).elim fun _ h => h
       have f3 : fw9 3 = .slice Ax2x1 nx2x1 cx2x1 := (hvc (hv 3 (by omega))).elim fun _ h => h
       have f4 : fw9 4 = .int .i64 c := (hvc (hv 4 (by omega))).elim fun _ h => h
       have f5 : fw9 5 = .bool true := (hvc (hv 5 (by omega))).elim fun _ h => h
       simp only [putFn, Act.put, List.setIfInBounds_toArray, List.set_cons_zero, List.set_cons_succ, f0, f1, f2, f3, f4, f5]
       replace M2 := M2.below hR
       replace N2 := N2.below hR
       replace M3 := M3.below hR
       replace N3 := N3.below hR
       replace Vx1x1 := Vx1x1.below hR
       replace Nx1x1 := Nx1x1.below hR
       replace Tx1x1 := Tx1x1.below hR
       replace Vx2x1 := Vx2x1.below hR
       replace Nx2x1 := Nx2x1.below hR
       replace Tx2x1 := Tx2x1.below hR
       replace P2 := P2.below hR
       replace P3 := P3.below hR
       replace P4 := P4.below hR
       replace BB := bl_trans BB hR
       clear hR hv
       go_upto_region 6 with (fail)
       refine wp_seq 10 ?_
       simp only [List.take_succ_cons, List.take_zero, List.drop_succ_cons, List.drop_zero]
       refine wp_seq_list (Ext := RB) (Rel := RBu) [fun v _ _ => v = .pointer (some ⟨(w.heap.size + 1), 1, none⟩), fun v _ _ => v = .slice Ax2x1 nx2x1 cx2x1, fun v _ _ => v = .pointer (some ⟨w.heap.size, 1, none⟩), fun v _ _ => v = .slice Ax1x1 nx1x1 cx1x1, fun v _ w => IsTB w v (z3.natAbs - z2.natAbs) k3 true, fun v _ w => IsTB w v (z3.natAbs - z2.natAbs) k3 true, fun v _ w => IsTr w v (z3.natAbs - z2.natAbs) k3, fun v _ _ => v = .bool true, fun v _ w => IsTr w v (z3.natAbs - z2.natAbs) k3, fun v _ _ => v = .bool true] (n := 10) (by kernel_rfl) (by kernel_rfl) (by kernel_rfl) (by kernel_rfl) (by kernel_rfl) (by kernel_rfl) (by kernel_rfl) rb_refl rb_trans ⟨sC, ⟨sC, ⟨sC, ⟨sC, ⟨sTB, ⟨sTB, ⟨sTr, ⟨sC, ⟨sTr, ⟨sC, trivial⟩⟩⟩⟩⟩⟩⟩⟩⟩⟩ ?_ ?_
       ·refine ⟨⟨⟨⟨⟨⟨⟨⟨⟨⟨trivial, ?_⟩, ?_⟩, ?_⟩, ?_⟩, ?_⟩, ?_⟩, ?_⟩, ?_⟩, ?_⟩, ?_⟩
        ·refine rs_plain rfl rfl fun a wr S => ?_
         have X := rbX S.ext
         exact wp_field1 (ev_of ((S.old 3 (by kernel_rfl)).trans rfl)) (done (by kernel_rfl) rbu_refl rfl)
        ·refine rs_plain rfl rfl fun a wr S => ?_
         have X := rbX S.ext
         obtain ⟨v0, e0, h0⟩ := S.got 0 (by kernel_rfl)
         exact wp_loadM ((ev_of (e0 34 (by kernel_rfl))).trans h0) (P3.below X) (done (by kernel_rfl) rbu_refl rfl)
        ·refine rs_plain rfl rfl fun a wr S => ?_
         have X := rbX S.ext
         exact wp_field1 (ev_of ((S.old 2 (by kernel_rfl)).trans rfl)) (done (by kernel_rfl) rbu_refl rfl)
        ·refine rs_plain rfl rfl fun a wr S => ?_
         have X := rbX S.ext
         obtain ⟨v2, e2, h2⟩ := S.got 2 (by kernel_rfl)
         exact wp_loadM ((ev_of (e2 36 (by kernel_rfl))).trans h2) (P2.below X) (done (by kernel_rfl) rbu_refl rfl)
        ·refine rs_plain rfl rfl fun a wr S => ?_
         have X := rbX S.ext
         obtain ⟨v1, e1, h1⟩ := S.got 1 (by kernel_rfl)
         obtain ⟨v3, e3, h3⟩ := S.got 3 (by kernel_rfl)
         exact st_call cf_ref01_Sub (args2 ((ev_of (e1 35 (by kernel_rfl))).trans h1) ((ev_of (e3 37 (by kernel_rfl))).trans h3)) (by kernel_rfl) rb (rSub ⟨_, _, _, rfl, Nx2x1.below X⟩ ⟨_, _, _, rfl, Nx1x1.below X⟩ (by omega) (by omega) (Nat.le_of_lt HL.out)) (fun _ _ _ h => h)
        ·refine rs_plain rfl rfl fun a wr S => ?_
         have X := rbX S.ext
         obtain ⟨v4, e4, h4⟩ := S.got 4 (by kernel_rfl)
         exact wp_mv (ev_of (e4 38 (by kernel_rfl))) (done (by kernel_rfl) rbu_refl h4)
        ·refine rs_plain rfl rfl fun a wr S => ?_
         have X := rbX S.ext
         obtain ⟨v5, e5, h5⟩ := S.got 5 (by kernel_rfl)
         obtain ⟨AA, nn, cc, hvv, TT⟩ := (show IsTB wr _ (z3.natAbs - z2.natAbs) k3 true from h5)
         exact wp_ext0 ((ev_of (e5 33 (by kernel_rfl))).trans hvv) (done (by kernel_rfl) rbu_refl ⟨_, _, _, rfl, TT⟩)
        ·refine rs_plain rfl rfl fun a wr S => ?_
         have X := rbX S.ext
         obtain ⟨v5, e5, h5⟩ := S.got 5 (by kernel_rfl)
         obtain ⟨AA, nn, cc, hvv, TT⟩ := (show IsTB wr _ (z3.natAbs - z2.natAbs) k3 true from h5)
         exact wp_ext1 ((ev_of (e5 33 (by kernel_rfl))).trans hvv) (done (by kernel_rfl) rbu_refl rfl)
        ·refine rs_plain rfl rfl fun a wr S => ?_
         have X := rbX S.ext
         obtain ⟨v6, e6, h6⟩ := S.got 6 (by kernel_rfl)
         exact wp_as (ev_of (e6 39 (by kernel_rfl))) (done (by kernel_rfl) rbu_refl h6)
        ·refine rs_plain rfl rfl fun a wr S => ?_
         have X := rbX S.ext
         obtain ⟨v7, e7, h7⟩ := S.got 7 (by kernel_rfl)
         exact wp_as ((ev_of (e7 40 (by kernel_rfl))).trans h7) (done (by kernel_rfl) rbu_refl rfl)
       ·intro fw10 w10 hR hv hap
        clear hap
        replace hR := rbX hR
        have f0 : fw10 0 = .pointer (some ⟨(w.heap.size + 1), 1, none⟩) := (hvc (hv 0 (by omega))).elim fun _ h => h
        have f1 : fw10 1 = .slice Ax2x1 nx2x1 cx2x1 := (hvc (hv 1 (by omega))).elim fun _ h => h
        have f2 : fw10 2 = .pointer (some ⟨w.heap.size, 1, none⟩) := (hvc (hv 2 (by omega))).elim fun _ h => h
        have f3 : fw10 3 = .slice Ax1x1 nx1x1 cx1x1 := (hvc (hv 3 (by omega))).elim fun _ h => h
        have f7 : fw10 7 = .bool true := (hvc (hv 7 (by omega))).elim fun _ h => h
        have f9 : fw10 9 = .bool true := (hvc (hv 9 (by omega))).elim fun _ h => h
        obtain ⟨Ax6x8, nx6x8, cx6x8, f8, Tx6x8⟩ := (show IsTr w10 _ (z3.natAbs - z2.natAbs) k3 from (hvc (hv 8 (by omega))).elim fun _ h => h)
        simp only [putFn, Act.put, List.setIfInBounds_toArray, List.set_cons_zero, List.set_cons_succ, f0, f1, f2, f3, f7, f9, f8]
        replace M2 := M2.below hR
        replace N2 := N2.below hR
        replace M3 := M3.below hR
        replace N3 := N3.below hR
        replace Vx1x1 := Vx1x1.below hR
        replace Nx1x1 := Nx1x1.below hR
        replace Tx1x1 := Tx1x1.below hR
        replace Vx2x1 := Vx2x1.below hR
        replace Nx2x1 := Nx2x1.below hR
        replace Tx2x1 := Tx2x1.below hR
        replace P2 := P2.below hR
        replace P3 := P3.below hR
        replace P4 := P4.below hR
        replace BB := bl_trans BB hR
        clear hR hv
        have Nx6x8 := Tx6x8.nm
        go_upto_region 7 with (fail)
        refine wp_seq 5 ?_
        simp only [List.take_succ_cons, List.take_zero, List.drop_succ_cons, List.drop_zero]
        refine wp_seq_list (Ext := RB) (Rel := RBu) [fun v _ _ => v = .pointer (some ⟨(w.heap.size + 1), 0, none⟩), fun v _ _ => v = .bool true, fun v _ _ => v = .slice Ax6x8 nx6x8 cx6x8, fun v _ w => IsM w v (zv true (z3.natAbs - z2.natAbs)) k3, fun v _ w => IsT w v (zv true (z3.natAbs - z2.natAbs)) k3] (n := 5) (by kernel_rfl) (by kernel_rfl) (by kernel_rfl) (by kernel_rfl) (by kernel_rfl) (by kernel_rfl) (by kernel_rfl) rb_refl rb_trans ⟨sC, ⟨sC, ⟨sC, ⟨sM, ⟨sT, trivial⟩⟩⟩⟩⟩ ?_ ?_
        ·refine ⟨⟨⟨⟨⟨trivial, ?_⟩, ?_⟩, ?_⟩, ?_⟩, ?_⟩
         ·refine rs_plain rfl rfl fun a wr S => ?_
          have X := rbX S.ext
          exact wp_field0 (ev_of ((S.old 3 (by kernel_rfl)).trans rfl)) (done (by kernel_rfl) rbu_refl rfl)
         ·refine rs_plain rfl rfl fun a wr S => ?_
          have X := rbX S.ext
          obtain ⟨v0, e0, h0⟩ := S.got 0 (by kernel_rfl)
          exact wp_loadB ((ev_of (e0 41 (by kernel_rfl))).trans h0) (P3.below X) (done (by kernel_rfl) rbu_refl rfl)
         ·refine rs_plain rfl rfl fun a wr S => ?_
          have X := rbX S.ext
          exact wp_mv (ev_of ((S.old 5 (by kernel_rfl)).trans rfl)) (done (by kernel_rfl) rbu_refl rfl)
         ·refine rs_plain rfl rfl fun a wr S => ?_
          have X := rbX S.ext
          obtain ⟨v1, e1, h1⟩ := S.got 1 (by kernel_rfl)
          obtain ⟨v2, e2, h2⟩ := S.got 2 (by kernel_rfl)
          exact wp_bZ ((ev_of (e1 42 (by kernel_rfl))).trans h1) ((ev_of (e2 43 (by kernel_rfl))).trans h2) (done (by kernel_rfl) rbu_refl ⟨_, _, _, _, rfl, ⟨⟨_, Nx6x8.below X, rfl⟩⟩⟩)
         ·refine rs_plain rfl rfl fun a wr S => ?_
          have X := rbX S.ext
          obtain ⟨v3, e3, h3⟩ := S.got 3 (by kernel_rfl)
          exact st_call cf_ref03_whole (args1 (ev_of (e3 44 (by kernel_rfl)))) (by kernel_rfl) rb (cWhole3 (show IsM _ _ _ _ from h3) (by omega)) (fun _ _ _ h => h)
        ·intro fw11 w11 hR hv hap
         clear hap
         replace hR := rbX hR
         have f0 : fw11 0 = .pointer (some ⟨(w.heap.size + 1), 0, none⟩) := (hvc (hv 0 (by omega))).elim fun _ h => h
         have f1 : fw11 1 = .bool true := (hvc (hv 1 (by omega))).elim fun _ h => h
         have f2 : fw11 2 = .slice Ax6x8 nx6x8 cx6x8 := (hvc (hv 2 (by omega))).elim fun _ h => h
         obtain ⟨bx7x4, Ax7x4, nx7x4, cx7x4, f4, Tx7x4, sx7x4⟩ := (show IsT w11 _ (zv true (z3.natAbs - z2.natAbs)) k3 from (hvc (hv 4 (by omega))).elim fun _ h => h)
         simp only [putFn, Act.put, List.setIfInBounds_toArray, List.set_cons_zero, List.set_cons_succ, f0, f1, f2, f4]
         replace M2 := M2.below hR
         replace N2 := N2.below hR
         replace M3 := M3.below hR
         replace N3 := N3.below hR
         replace Vx1x1 := Vx1x1.below hR
         replace Nx1x1 := Nx1x1.below hR
         replace Tx1x1 := Tx1x1.below hR
         replace Vx2x1 := Vx2x1.below hR
         replace Nx2x1 := Nx2x1.below hR
         replace Tx2x1 := Tx2x1.below hR
         replace Nx6x8 := Nx6x8.below hR
         replace Tx6x8 := Tx6x8.below hR
         replace P2 := P2.below hR
         replace P3 := P3.below hR
         replace P4 := P4.below hR
         replace BB := bl_trans BB hR
         clear hR hv
         have Vx7x4 : IsT w11 (.agg #[.bool bx7x4, .slice Ax7x4 nx7x4 cx7x4]) (zv true (z3.natAbs - z2.natAbs)) k3 := ⟨_, _, _, _, rfl, Tx7x4, sx7x4⟩
         have Nx7x4 := Tx7x4.nm
         have Sx7x4 := Lib.hid sx7x4
         clear sx7x4
         have r40 := P4.c0
         have t40 := P4.f 0
         have r41 := P4.c1
         have t41 := P4.f 1
         go_wp2_with fail
         clear r40 t40 r41 t41
         have KR := kr_put2 (b' := bx7x4) (A' := Ax7x4) (n' := nx7x4) (c' := cx7x4) P4
         replace M2 := M2.kr KR
         replace N2 := N2.kr KR
         replace M3 := M3.kr KR
         replace N3 := N3.kr KR
         replace Vx1x1 := Vx1x1.kr KR
         replace Nx1x1 := Nx1x1.kr KR
         replace Tx1x1 := Tx1x1.kr KR
         replace Vx2x1 := Vx2x1.kr KR
         replace Nx2x1 := Nx2x1.kr KR
         replace Tx2x1 := Tx2x1.kr KR
         replace Nx6x8 := Nx6x8.kr KR
         replace Tx6x8 := Tx6x8.kr KR
         replace Vx7x4 := Vx7x4.kr KR
         replace Nx7x4 := Nx7x4.kr KR
         replace Tx7x4 := Tx7x4.kr KR
         replace P2 := P2.put2 (g := (w.heap.size + 1 + 1)) (b' := bx7x4) (A' := Ax7x4) (n' := nx7x4) (c' := cx7x4) (by omega)
         replace P3 := P3.put2 (g := (w.heap.size + 1 + 1)) (b' := bx7x4) (A' := Ax7x4) (n' := nx7x4) (c' := cx7x4) (by omega)
         replace BB := Below.put2 (g := (w.heap.size + 1 + 1)) (b' := bx7x4) (A' := Ax7x4) (n' := nx7x4) (c' := cx7x4) BB (by omega)
         replace P4 := P4.set2 (b' := bx7x4) (A' := Ax7x4) (n' := nx7x4) (c' := cx7x4)
         clear KR
         generalize World.setCell _ ⟨w.heap.size + 1 + 1, 1, none⟩ _ = w12 at M2 N2 M3 N3 Vx1x1 Nx1x1 Tx1x1 Vx2x1 Nx2x1 Tx2x1 Nx6x8 Tx6x8 Vx7x4 Nx7x4 Tx7x4 P2 P3 P4 BB ⊢
         have rc0 := P4.c0
         have rc1 := P4.c1
         exact bodyPost_ret (v := .agg #[.bool bx7x4, .slice Ax7x4 nx7x4 cx7x4]) (by simp [results, Tryz.results63, go_sem, rc0, rc1]) rfl ⟨_, rfl, BB, by rw [plus_lt Sx1x1.out Sx2x1.out (by decide) (Nat.le_of_lt HL.out)] at Vx7x4; exact Vx7x4.mono (by omega)⟩
     ·have HL := Lib.hid (show z3.natAbs ≤ z2.natAbs from Nat.not_lt.1 fun h => hx (hlt.2 h))
      clear hlt
      refine wp_seq 6 ?_
      simp only [List.take_succ_cons, List.take_zero, List.drop_succ_cons, List.drop_zero]
      refine wp_seq_list (Ext := RB) (Rel := RBu) [fun v _ _ => v = .pointer (some ⟨w.heap.size, 1, none⟩), fun v _ _ => v = .slice Ax1x1 nx1x1 cx1x1, fun v _ _ => v = .pointer (some ⟨(w.heap.size + 1), 1, none⟩), fun v _ _ => v = .slice Ax2x1 nx2x1 cx2x1, fun v _ _ => v = .int .i64 c, fun v _ _ => v = .bool false] (n := 6) (by kernel_rfl) (by kernel_rfl) (by kernel_rfl) (by kernel_rfl) (by kernel_rfl) (by kernel_rfl) (by kernel_rfl) rb_refl rb_trans ⟨sC, ⟨sC, ⟨sC, ⟨sC, ⟨sC, ⟨sC, trivial⟩⟩⟩⟩⟩⟩ ?_ ?_
      ·refine ⟨⟨⟨⟨⟨⟨trivial, ?_⟩, ?_⟩, ?_⟩, ?_⟩, ?_⟩, ?_⟩
       ·refine rs_plain rfl rfl fun a wr S => ?_
        have X := rbX S.ext
        exact wp_field1 (ev_of ((S.old 2 (by kernel_rfl)).trans rfl)) (done (by kernel_rfl) rbu_refl rfl)
       ·refine rs_plain rfl rfl fun a wr S => ?_
        have X := rbX S.ext
        obtain ⟨v0, e0, h0⟩ := S.got 0 (by kernel_rfl)
        exact wp_loadM ((ev_of (e0 27 (by kernel_rfl))).trans h0) (P2.below X) (done (by kernel_rfl) rbu_refl rfl)
       ·refine rs_plain rfl rfl fun a wr S => ?_
        have X := rbX S.ext
        exact wp_field1 (ev_of ((S.old 3 (by kernel_rfl)).trans rfl)) (done (by kernel_rfl) rbu_refl rfl)
       ·refine rs_plain rfl rfl fun a wr S => ?_
        have X := rbX S.ext
        obtain ⟨v2, e2, h2⟩ := S.got 2 (by kernel_rfl)
        exact wp_loadM ((ev_of (e2 29 (by kernel_rfl))).trans h2) (P3.below X) (done (by kernel_rfl) rbu_refl rfl)
       ·refine rs_plain rfl rfl fun a wr S => ?_
        have X := rbX S.ext
        obtain ⟨v1, e1, h1⟩ := S.got 1 (by kernel_rfl)
        obtain ⟨v3, e3, h3⟩ := S.got 3 (by kernel_rfl)
        exact st_call cf_ref01_Cmp (args2 ((ev_of (e1 28 (by kernel_rfl))).trans h1) ((ev_of (e3 30 (by kernel_rfl))).trans h3)) (by kernel_rfl) rb ((rCmp ⟨_, _, _, rfl, Nx1x1.below X⟩ ⟨_, _, _, rfl, Nx2x1.below X⟩ (by omega) (by omega)).mono (ans_intW HC.out)) (fun _ _ _ h => h)
       ·refine rs_plain rfl rfl fun a wr S => ?_
        have X := rbX S.ext
        obtain ⟨v4, e4, h4⟩ := S.got 4 (by kernel_rfl)
        exact wp_ltI ((ev_of (e4 31 (by kernel_rfl))).trans h4) rfl (done (by kernel_rfl) rbu_refl (congrArg Value.bool (decide_eq_false hx)))
      ·intro fw13 w13 hR hv hap
       clear hap
       replace hR := rbX hR
       have f0 : fw13 0 = .pointer (some ⟨w.heap.size, 1, none⟩) := (hvc (hv 0 (by omega))).elim fun _ h => h
       have f1 : fw13 1 = .slice Ax1x1 nx1x1 cx1x1 := (hvc (hv 1 (by omega))).elim fun _ h => h
       have f2 : fw13 2 = .pointer (some ⟨(w.heap.size + 1), 1, none⟩) := (hvc (hv 2 (by omega))).elim fun _ h => h
       have f3 : fw13 3 = .slice Ax2x1 nx2x1 cx2x1 := (hvc (hv 3 (by omega))).elim fun _ h => h
       have f4 : fw13 4 = .int .i64 c := (hvc (hv 4 (by omega))).elim fun _ h => h
       have f5 : fw13 5 = .bool false := (hvc (hv 5 (by omega))).elim fun _ h => h
       simp only [putFn, Act.put, List.setIfInBounds_toArray, List.set_cons_zero, List.set_cons_succ, f0, f1, f2, f3, f4, f5]
       replace M2 := M2.below hR
       replace N2 := N2.below hR
       replace M3 := M3.below hR
       replace N3 := N3.below hR
       replace Vx1x1 := Vx1x1.below hR
       replace Nx1x1 := Nx1x1.below hR
       replace Tx1x1 := Tx1x1.below hR
       replace Vx2x1 := Vx2x1.below hR
       replace Nx2x1 := Nx2x1.below hR
       replace Tx2x1 := Tx2x1.below hR
       replace P2 := P2.below hR
       replace P3 := P3.below hR
       replace P4 := P4.below hR
       replace BB := bl_trans BB hR
       clear hR hv
       go_upto_region 8 with (fail)
       refine wp_seq 10 ?_
       simp only [List.take_succ_cons, List.take_zero, List.drop_succ_cons, List.drop_zero]
       refine wp_seq_list (Ext := RB) (Rel := RBu) [fun v _ _ => v = .pointer (some ⟨w.heap.size, 1, none⟩), fun v _ _ => v = .slice Ax1x1 nx1x1 cx1x1, fun v _ _ => v = .pointer (some ⟨(w.heap.size + 1), 1, none⟩), fun v _ _ => v = .slice Ax2x1 nx2x1 cx2x1, fun v _ w => IsTB w v (z2.natAbs - z3.natAbs) k2 true, fun v _ w => IsTB w v (z2.natAbs - z3.natAbs) k2 true, fun v _ w => IsTr w v (z2.natAbs - z3.natAbs) k2, fun v _ _ => v = .bool true, fun v _ w => IsTr w v (z2.natAbs - z3.natAbs) k2, fun v _ _ => v = .bool true] (n := 10) (by kernel_rfl) (by kernel_rfl) (by kernel_rfl) (by kernel_rfl) (by kernel_rfl) (by kernel_rfl) (by kernel_rfl) rb_refl rb_trans ⟨sC, ⟨sC, ⟨sC, ⟨sC, ⟨sTB, ⟨sTB, ⟨sTr, ⟨sC, ⟨sTr, ⟨sC, trivial⟩⟩⟩⟩⟩⟩⟩⟩⟩⟩ ?_ ?_
       ·refine ⟨⟨⟨⟨⟨⟨⟨⟨⟨⟨trivial, ?_⟩, ?_⟩, ?_⟩, ?_⟩, ?_⟩, ?_⟩, ?_⟩, ?_⟩, ?_⟩, ?_⟩
        ·refine rs_plain rfl rfl fun a wr S => ?_
         have X := rbX S.ext
         exact wp_field1 (ev_of ((S.old 2 (by kernel_rfl)).trans rfl)) (done (by kernel_rfl) rbu_refl rfl)
        ·refine rs_plain rfl rfl fun a wr S => ?_
         have X := rbX S.ext
         obtain ⟨v0, e0, h0⟩ := S.got 0 (by kernel_rfl)
         exact wp_loadM ((ev_of (e0 47 (by kernel_rfl))).trans h0) (P2.below X) (done (by kernel_rfl) rbu_refl rfl)
        ·refine rs_plain rfl rfl fun a wr S => ?_
         have X := rbX S.ext
         exact wp_field1 (ev_of ((S.old 3 (by kernel_rfl)).trans rfl)) (done (by kernel_rfl) rbu_refl rfl)
        ·refine rs_plain rfl rfl fun a wr S => ?_
         have X := rbX S.ext
         obtain ⟨v2, e2, h2⟩ := S.got 2 (by kernel_rfl)
         exact wp_loadM ((ev_of (e2 49 (by kernel_rfl))).trans h2) (P3.below X) (done (by kernel_rfl) rbu_refl rfl)
        ·refine rs_plain rfl rfl fun a wr S => ?_
         have X := rbX S.ext
         obtain ⟨v1, e1, h1⟩ := S.got 1 (by kernel_rfl)
         obtain ⟨v3, e3, h3⟩ := S.got 3 (by kernel_rfl)
         exact st_call cf_ref01_Sub (args2 ((ev_of (e1 48 (by kernel_rfl))).trans h1) ((ev_of (e3 50 (by kernel_rfl))).trans h3)) (by kernel_rfl) rb (rSub ⟨_, _, _, rfl, Nx1x1.below X⟩ ⟨_, _, _, rfl, Nx2x1.below X⟩ (by omega) (by omega) HL.out) (fun _ _ _ h => h)
        ·refine rs_plain rfl rfl fun a wr S => ?_
         have X := rbX S.ext
         obtain ⟨v4, e4, h4⟩ := S.got 4 (by kernel_rfl)
         exact wp_mv (ev_of (e4 51 (by kernel_rfl))) (done (by kernel_rfl) rbu_refl h4)
        ·refine rs_plain rfl rfl fun a wr S => ?_
         have X := rbX S.ext
         obtain ⟨v5, e5, h5⟩ := S.got 5 (by kernel_rfl)
         obtain ⟨AA, nn, cc, hvv, TT⟩ := (show IsTB wr _ (z2.natAbs - z3.natAbs) k2 true from h5)
         exact wp_ext0 ((ev_of (e5 46 (by kernel_rfl))).trans hvv) (done (by kernel_rfl) rbu_refl ⟨_, _, _, rfl, TT⟩)
        ·refine rs_plain rfl rfl fun a wr S => ?_
         have X := rbX S.ext
         obtain ⟨v5, e5, h5⟩ := S.got 5 (by kernel_rfl)
         obtain ⟨AA, nn, cc, hvv, TT⟩ := (show IsTB wr _ (z2.natAbs - z3.natAbs) k2 true from h5)
         exact wp_ext1 ((ev_of (e5 46 (by kernel_rfl))).trans hvv) (done (by kernel_rfl) rbu_refl rfl)
        ·refine rs_plain rfl rfl fun a wr S => ?_
         have X := rbX S.ext
         obtain ⟨v6, e6, h6⟩ := S.got 6 (by kernel_rfl)
         exact wp_as (ev_of (e6 52 (by kernel_rfl))) (done (by kernel_rfl) rbu_refl h6)
        ·refine rs_plain rfl rfl fun a wr S => ?_
         have X := rbX S.ext
         obtain ⟨v7, e7, h7⟩ := S.got 7 (by kernel_rfl)
         exact wp_as ((ev_of (e7 53 (by kernel_rfl))).trans h7) (done (by kernel_rfl) rbu_refl rfl)
       ·intro fw14 w14 hR hv hap
        clear hap
        replace hR := rbX hR
        have f0 : fw14 0 = .pointer (some ⟨w.heap.size, 1, none⟩) := (hvc (hv 0 (by omega))).elim fun _ h => h
        have f1 : fw14 1 = .slice Ax1x1 nx1x1 cx1x1 := (hvc (hv 1 (by omega))).elim fun _ h => h
        have f2 : fw14 2 = .pointer (some ⟨(w.heap.size + 1), 1, none⟩) := (hvc (hv 2 (by omega))).elim fun _ h => h
        have f3 : fw14 3 = .slice Ax2x1 nx2x1 cx2x1 := (hvc (hv 3 (by omega))).elim fun _ h => h
        have f7 : fw14 7 = .bool true := (hvc (hv 7 (by omega))).elim fun _ h => h
        have f9 : fw14 9 = .bool true := (hvc (hv 9 (by omega))).elim fun _ h => h
        obtain ⟨Ax8x8, nx8x8, cx8x8, f8, Tx8x8⟩ := (show IsTr w14 _ (z2.natAbs - z3.natAbs) k2 from (hvc (hv 8 (by omega))).elim fun _ h => h)
        simp only [putFn, Act.put, List.setIfInBounds_toArray, List.set_cons_zero, List.set_cons_succ, f0, f1, f2, f3, f7, f9, f8]
        replace M2 := M2.below hR
        replace N2 := N2.below hR
        replace M3 := M3.below hR
        replace N3 := N3.below hR
        replace Vx1x1 := Vx1x1.below hR
        replace Nx1x1 := Nx1x1.below hR
        replace Tx1x1 := Tx1x1.below hR
        replace Vx2x1 := Vx2x1.below hR
        replace Nx2x1 := Nx2x1.below hR
        replace Tx2x1 := Tx2x1.below hR
        replace P2 := P2.below hR
        replace P3 := P3.below hR
        replace P4 := P4.below hR
        replace BB := bl_trans BB hR
        clear hR hv
        have Nx8x8 := Tx8x8.nm
        go_upto_region 9 with (fail)
        refine wp_seq 5 ?_
        simp only [List.take_succ_cons, List.take_zero, List.drop_succ_cons, List.drop_zero]
        refine wp_seq_list (Ext := RB) (Rel := RBu) [fun v _ _ => v = .pointer (some ⟨w.heap.size, 0, none⟩), fun v _ _ => v = .bool false, fun v _ _ => v = .slice Ax8x8 nx8x8 cx8x8, fun v _ w => IsM w v (zv false (z2.natAbs - z3.natAbs)) k2, fun v _ w => IsT w v (zv false (z2.natAbs - z3.natAbs)) k2] (n := 5) (by kernel_rfl) (by kernel_rfl) (by kernel_rfl) (by kernel_rfl) (by kernel_rfl) (by kernel_rfl) (by kernel_rfl) rb_refl rb_trans ⟨sC, ⟨sC, ⟨sC, ⟨sM, ⟨sT, trivial⟩⟩⟩⟩⟩ ?_ ?_
        ·refine ⟨⟨⟨⟨⟨trivial, ?_⟩, ?_⟩, ?_⟩, ?_⟩, ?_⟩
         ·refine rs_plain rfl rfl fun a wr S => ?_
          have X := rbX S.ext
          exact wp_field0 (ev_of ((S.old 2 (by kernel_rfl)).trans rfl)) (done (by kernel_rfl) rbu_refl rfl)
         ·refine rs_plain rfl rfl fun a wr S => ?_
          have X := rbX S.ext
          obtain ⟨v0, e0, h0⟩ := S.got 0 (by kernel_rfl)
          exact wp_loadB ((ev_of (e0 54 (by kernel_rfl))).trans h0) (P2.below X) (done (by kernel_rfl) rbu_refl rfl)
         ·refine rs_plain rfl rfl fun a wr S => ?_
          have X := rbX S.ext
          exact wp_mv (ev_of ((S.old 7 (by kernel_rfl)).trans rfl)) (done (by kernel_rfl) rbu_refl rfl)
         ·refine rs_plain rfl rfl fun a wr S => ?_
          have X := rbX S.ext
          obtain ⟨v1, e1, h1⟩ := S.got 1 (by kernel_rfl)
          obtain ⟨v2, e2, h2⟩ := S.got 2 (by kernel_rfl)
          exact wp_bZ ((ev_of (e1 55 (by kernel_rfl))).trans h1) ((ev_of (e2 56 (by kernel_rfl))).trans h2) (done (by kernel_rfl) rbu_refl ⟨_, _, _, _, rfl, ⟨⟨_, Nx8x8.below X, rfl⟩⟩⟩)
         ·refine rs_plain rfl rfl fun a wr S => ?_
          have X := rbX S.ext
          obtain ⟨v3, e3, h3⟩ := S.got 3 (by kernel_rfl)
          exact st_call cf_ref03_whole (args1 (ev_of (e3 57 (by kernel_rfl)))) (by kernel_rfl) rb (cWhole3 (show IsM _ _ _ _ from h3) (by omega)) (fun _ _ _ h => h)
        ·intro fw15 w15 hR hv hap
         clear hap
         replace hR := rbX hR
         have f0 : fw15 0 = .pointer (some ⟨w.heap.size, 0, none⟩) := (hvc (hv 0 (by omega))).elim fun _ h => h
         have f1 : fw15 1 = .bool false := (hvc (hv 1 (by omega))).elim fun _ h => h
         have f2 : fw15 2 = .slice Ax8x8 nx8x8 cx8x8 := (hvc (hv 2 (by omega))).elim fun _ h => h
         obtain ⟨bx9x4, Ax9x4, nx9x4, cx9x4, f4, Tx9x4, sx9x4⟩ := (show IsT w15 _ (zv false (z2.natAbs - z3.natAbs)) k2 from (hvc (hv 4 (by omega))).elim fun _ h => h)
         simp only [putFn, Act.put, List.setIfInBounds_toArray, List.set_cons_zero, List.set_cons_succ, f0, f1, f2, f4]
         replace M2 := M2.below hR
         replace N2 := N2.below hR
         replace M3 := M3.below hR
         replace N3 := N3.below hR
         replace Vx1x1 := Vx1x1.below hR
         replace Nx1x1 := Nx1x1.below hR
         replace Tx1x1 := Tx1x1.below hR
         replace Vx2x1 := Vx2x1.below hR
         replace Nx2x1 := Nx2x1.below hR
         replace Tx2x1 := Tx2x1.below hR
         replace Nx8x8 := Nx8x8.below hR
         replace Tx8x8 := Tx8x8.below hR
         replace P2 := P2.below hR
         replace P3 := P3.below hR
         replace P4 := P4.below hR
         replace BB := bl_trans BB hR
         clear hR hv
         have Vx9x4 : IsT w15 (.agg #[.bool bx9x4, .slice Ax9x4 nx9x4 cx9x4]) (zv false (z2.natAbs - z3.natAbs)) k2 := ⟨_, _, _, _, rfl, Tx9x4, sx9x4⟩
         have Nx9x4 := Tx9x4.nm
         have Sx9x4 := Lib.hid sx9x4
         clear sx9x4
         have r40 := P4.c0
         have t40 := P4.f 0
         have r41 := P4.c1
         have t41 := P4.f 1
         go_wp2_with fail
         clear r40 t40 r41 t41
         have KR := kr_put2 (b' := bx9x4) (A' := Ax9x4) (n' := nx9x4) (c' := cx9x4) P4
         replace M2 := M2.kr KR
         replace N2 := N2.kr KR
         replace M3 := M3.kr KR
         replace N3 := N3.kr KR
         replace Vx1x1 := Vx1x1.kr KR
         replace Nx1x1 := Nx1x1.kr KR
         replace Tx1x1 := Tx1x1.kr KR
         replace Vx2x1 := Vx2x1.kr KR
         replace Nx2x1 := Nx2x1.kr KR
         replace Tx2x1 := Tx2x1.kr KR
         replace Nx8x8 := Nx8x8.kr KR
         replace Tx8x8 := Tx8x8.kr KR
         replace Vx9x4 := Vx9x4.kr KR
         replace Nx9x4 := Nx9x4.kr KR
         replace Tx9x4 := Tx9x4.kr KR
         replace P2 := P2.put2 (g := (w.heap.size + 1 + 1)) (b' := bx9x4) (A' := Ax9x4) (n' := nx9x4) (c' := cx9x4) (by omega)
         replace P3 := P3.put2 (g := (w.heap.size + 1 + 1)) (b' := bx9x4) (A' := Ax9x4) (n' := nx9x4) (c' := cx9x4) (by omega)
         replace BB := Below.put2 (g := (w.heap.size + 1 + 1)) (b' := bx9x4) (A' := Ax9x4) (n' := nx9x4) (c' := cx9x4) BB (by omega)
         replace P4 := P4.set2 (b' := bx9x4) (A' := Ax9x4) (n' := nx9x4) (c' := cx9x4)
         clear KR
         generalize World.setCell _ ⟨w.heap.size + 1 + 1, 1, none⟩ _ = w16 at M2 N2 M3 N3 Vx1x1 Nx1x1 Tx1x1 Vx2x1 Nx2x1 Tx2x1 Nx8x8 Tx8x8 Vx9x4 Nx9x4 Tx9x4 P2 P3 P4 BB ⊢
         have rc0 := P4.c0
         have rc1 := P4.c1
         exact bodyPost_ret (v := .agg #[.bool bx9x4, .slice Ax9x4 nx9x4 cx9x4]) (by simp [results, Tryz.results63, go_sem, rc0, rc1]) rfl ⟨_, rfl, BB, by rw [plus_gt Sx1x1.out Sx2x1.out (by decide) HL.out] at Vx9x4; exact Vx9x4.mono (by omega)⟩
   ·skip
    refine wp_seq 5 ?_
    simp only [List.take_succ_cons, List.take_zero, List.drop_succ_cons, List.drop_zero]
    refine wp_seq_list (Ext := RB) (Rel := RBu) [fun v _ _ => v = .pointer (some ⟨w.heap.size, 0, none⟩), fun v _ _ => v = .bool true, fun v _ _ => v = .pointer (some ⟨(w.heap.size + 1), 0, none⟩), fun v _ _ => v = .bool false, fun v _ _ => v = .bool false] (n := 5) (by kernel_rfl) (by kernel_rfl) (by kernel_rfl) (by kernel_rfl) (by kernel_rfl) (by kernel_rfl) (by kernel_rfl) rb_refl rb_trans ⟨sC, ⟨sC, ⟨sC, ⟨sC, ⟨sC, trivial⟩⟩⟩⟩⟩ ?_ ?_
    ·refine ⟨⟨⟨⟨⟨trivial, ?_⟩, ?_⟩, ?_⟩, ?_⟩, ?_⟩
     ·refine rs_plain rfl rfl fun a wr S => ?_
      have X := rbX S.ext
      exact wp_field0 (ev_of ((S.old 2 (by kernel_rfl)).trans rfl)) (done (by kernel_rfl) rbu_refl rfl)
     ·refine rs_plain rfl rfl fun a wr S => ?_
      have X := rbX S.ext
      obtain ⟨v0, e0, h0⟩ := S.got 0 (by kernel_rfl)
      exact wp_loadB ((ev_of (e0 13 (by kernel_rfl))).trans h0) (P2.below X) (done (by kernel_rfl) rbu_refl rfl)
     ·refine rs_plain rfl rfl fun a wr S => ?_
      have X := rbX S.ext
      exact wp_field0 (ev_of ((S.old 3 (by kernel_rfl)).trans rfl)) (done (by kernel_rfl) rbu_refl rfl)
     ·refine rs_plain rfl rfl fun a wr S => ?_
      have X := rbX S.ext
      obtain ⟨v2, e2, h2⟩ := S.got 2 (by kernel_rfl)
      exact wp_loadB ((ev_of (e2 15 (by kernel_rfl))).trans h2) (P3.below X) (done (by kernel_rfl) rbu_refl rfl)
     ·refine rs_plain rfl rfl fun a wr S => ?_
      have X := rbX S.ext
      obtain ⟨v1, e1, h1⟩ := S.got 1 (by kernel_rfl)
      obtain ⟨v3, e3, h3⟩ := S.got 3 (by kernel_rfl)
      exact wp_eqB ((ev_of (e1 14 (by kernel_rfl))).trans h1) ((ev_of (e3 16 (by kernel_rfl))).trans h3) (done (by kernel_rfl) rbu_refl (congrArg Value.bool (by decide)))
    ·intro fw17 w17 hR hv hap
     clear hap
     replace hR := rbX hR
     have f0 : fw17 0 = .pointer (some ⟨w.heap.size, 0, none⟩) := (hvc (hv 0 (by omega))).elim fun _ h => h
     have f1 : fw17 1 = .bool true := (hvc (hv 1 (by omega))).elim fun _ h => h
     have f2 : fw17 2 = .pointer (some ⟨(w.heap.size + 1), 0, none⟩) := (hvc (hv 2 (by omega))).elim fun _ h => h
     have f3 : fw17 3 = .bool false := (hvc (hv 3 (by omega))).elim fun _ h => h
     have f4 : fw17 4 = .bool false := (hvc (hv 4 (by omega))).elim fun _ h => h
     simp only [putFn, Act.put, List.setIfInBounds_toArray, List.set_cons_zero, List.set_cons_succ, f0, f1, f2, f3, f4]
     replace M2 := M2.below hR
     replace N2 := N2.below hR
     replace M3 := M3.below hR
     replace N3 := N3.below hR
     replace Vx1x1 := Vx1x1.below hR
     replace Nx1x1 := Nx1x1.below hR
     replace Tx1x1 := Tx1x1.below hR
     replace Vx2x1 := Vx2x1.below hR
     replace Nx2x1 := Nx2x1.below hR
     replace Tx2x1 := Tx2x1.below hR
     replace P2 := P2.below hR
     replace P3 := P3.below hR
     replace P4 := P4.below hR
     replace BB := bl_trans BB hR
     clear hR hv
     go_upto_region 5 with (fail)
     obtain ⟨c, hc, hlt⟩ : ∃ c, cmpV z2.natAbs z3.natAbs = c ∧ (c < 0 ↔ z2.natAbs < z3.natAbs) := ⟨_, rfl, cmpV_neg _ _⟩
     have HC := Lib.hid hc
     clear hc
     by_cases hx : c < 0
     ·have HL := Lib.hid (hlt.1 hx)
      clear hlt
      refine wp_seq 6 ?_
      simp only [List.take_succ_cons, List.take_zero, List.drop_succ_cons, List.drop_zero]
      refine wp_seq_list (Ext := RB) (Rel := RBu) [fun v _ _ => v = .pointer (some ⟨w.heap.size, 1, none⟩), fun v _ _ => v = .slice Ax1x1 nx1x1 cx1x1, fun v _ _ => v = .pointer (some ⟨(w.heap.size + 1), 1, none⟩), fun v _ _ => v = .slice Ax2x1 nx2x1 cx2x1, fun v _ _ => v = .int .i64 c, fun v _ _ => v = .bool true] (n := 6) (by kernel_rfl) (by kernel_rfl) (by kernel_rfl) (by kernel_rfl) (by kernel_rfl) (by kernel_rfl) (by kernel_rfl) rb_refl rb_trans ⟨sC, ⟨sC, ⟨sC, ⟨sC, ⟨sC, ⟨sC, trivial⟩⟩⟩⟩⟩⟩ ?_ ?_
      ·refine ⟨⟨⟨⟨⟨⟨trivial, ?_⟩, ?_⟩, ?_⟩, ?_⟩, ?_⟩, ?_⟩
       ·refine rs_plain rfl rfl fun a wr S => ?_
        have X := rbX S.ext
        exact wp_field1 (ev_of ((S.old 2 (by kernel_rfl)).trans rfl)) (done (by kernel_rfl) rbu_refl rfl)
       ·refine rs_plain rfl rfl fun a wr S => ?_
        have X := rbX S.ext
        obtain ⟨v0, e0, h0⟩ := S.got 0 (by kernel_rfl)
        exact wp_loadM ((ev_of (e0 27 (by kernel_rfl))).trans h0) (P2.below X) (done (by kernel_rfl) rbu_refl rfl)
       ·refine rs_plain rfl rfl fun a wr S => ?_
        have X := rbX S.ext
        exact wp_field1 (ev_of ((S.old 3 (by kernel_rfl)).trans rfl)) (done (by kernel_rfl) rbu_refl rfl)
       ·refine rs_plain rfl rfl fun a wr S => ?_
        have X := rbX S.ext
        obtain ⟨v2, e2, h2⟩ := S.got 2 (by kernel_rfl)
        exact wp_loadM ((ev_of (e2 29 (by kernel_rfl))).trans h2) (P3.below X) (done (by kernel_rfl) rbu_refl rfl)
       ·refine rs_plain rfl rfl fun a wr S => ?_
        have X := rbX S.ext
        obtain ⟨v1, e1, h1⟩ := S.got 1 (by kernel_rfl)
        obtain ⟨v3, e3, h3⟩ := S.got 3 (by kernel_rfl)
        exact st_call cf_ref01_Cmp (args2 ((ev_of (e1 28 (by kernel_rfl))).trans h1) ((ev_of (e3 30 (by kernel_rfl))).trans h3)) (by kernel_rfl) rb ((rCmp ⟨_, _, _, rfl, Nx1x1.below X⟩ ⟨_, _, _, rfl, Nx2x1.below X⟩ (by omega) (by omega)).mono (ans_intW HC.out)) (fun _ _ _ h => h)
       ·refine rs_plain rfl rfl fun a wr S => ?_
        have X := rbX S.ext
        obtain ⟨v4, e4, h4⟩ := S.got 4 (by kernel_rfl)
        exact wp_ltI ((ev_of (e4 31 (by kernel_rfl))).trans h4) rfl (done (by kernel_rfl) rbu_refl (congrArg Value.bool (decide_eq_true hx)))
      ·intro fw18 w18 hR hv hap
       clear hap
       replace hR := rbX hR
       have f0 : fw18 0 = .pointer (some ⟨w.heap.size, 1, none⟩) := (hvc (hv 0 (by omega))).elim fun _ h => h
       have f1 : fw18 1 = .slice Ax1x1 nx1x1 cx1x1 := (hvc (hv 1 (by omega))).elim fun _ h => h
       have f2 : fw18 2 = .pointer (some ⟨(w.heap.size + 1), 1, none⟩) := (hvc (hv 2 (by omega))).elim fun _ h => h
       have f3 : fw18 3 = .slice Ax2x1 nx2x1 cx2x1 := (hvc (hv 3 (by omega))).elim fun _ h => h
       have f4 : fw18 4 = .int .i64 c := (hvc (hv 4 (by omega))).elim fun _ h => h
       have f5 : fw18 5 = .bool true := (hvc (hv 5 (by omega))).elim fun _ h => h
       simp only [putFn, Act.put, List.setIfInBounds_toArray, List.set_cons_zero, List.set_cons_succ, f0, f1, f2, f3, f4, f5]
       replace M2 := M2.below hR
       replace N2 := N2.below hR
       replace M3 := M3.below hR
       replace N3 := N3.below hR
       replace Vx1x1 := Vx1x1.below hR
       replace Nx1x1 := Nx1x1.below hR
       replace Tx1x1 := Tx1x1.below hR
       replace Vx2x1 := Vx2x1.below hR
       replace Nx2x1 := Nx2x1.below hR
       replace Tx2x1 := Tx2x1.below hR
       replace P2 := P2.below hR
       replace P3 := P3.below hR
       replace P4 := P4.below hR
       replace BB := bl_trans BB hR
       clear hR hv
       go_upto_region 6 with (fail)
       refine wp_seq 10 ?_
       simp only [List.take_succ_cons, List.take_zero, List.drop_succ_cons, List.drop_zero]
       refine wp_seq_list (Ext := RB) (Rel := RBu) [fun v _ _ => v = .pointer (some ⟨(w.heap.size + 1), 1, none⟩), fun v _ _ => v = .slice Ax2x1 nx2x1 cx2x1, fun v _ _ => v = .pointer (some ⟨w.heap.size, 1, none⟩), fun v _ _ => v = .slice Ax1x1 nx1x1 cx1x1, fun v _ w => IsTB w v (z3.natAbs - z2.natAbs) k3 true, fun v _ w => IsTB w v (z3.natAbs - z2.natAbs) k3 true, fun v _ w => IsTr w v (z3.natAbs - z2.natAbs) k3, fun v _ _ => v = .bool true, fun v _ w => IsTr w v (z3.natAbs - z2.natAbs) k3, fun v _ _ => v = .bool true] (n := 10) (by kernel_rfl) (by kernel_rfl) (by kernel_rfl) (by kernel_rfl) (by kernel_rfl) (by kernel_rfl) (by kernel_rfl) rb_refl rb_trans ⟨sC, ⟨sC, ⟨sC, ⟨sC, ⟨sTB, ⟨sTB, ⟨sTr, ⟨sC, ⟨sTr, ⟨sC, trivial⟩⟩⟩⟩⟩⟩⟩⟩⟩⟩ ?_ ?_
       ·refine ⟨⟨⟨⟨⟨⟨⟨⟨⟨⟨trivial, ?_⟩, ?_⟩, ?_⟩, ?_⟩, ?_⟩, ?_⟩, ?_⟩, ?_⟩, ?_⟩, ?_⟩
        ·refine rs_plain rfl rfl fun a wr S => ?_
         have X := rbX S.ext
         exact wp_field1 (ev_of ((S.old 3 (by kernel_rfl)).trans rfl)) (done (by kernel_rfl) rbu_refl rfl)
        ·refine rs_plain rfl rfl fun a wr S => ?_
         have X := rbX S.ext
         obtain ⟨v0, e0, h0⟩ := S.got 0 (by kernel_rfl)
         exact wp_loadM ((ev_of (e0 34 (by kernel_rfl))).trans h0) (P3.below X) (done (by kernel_rfl) rbu_refl rfl)
        ·refine rs_plain rfl rfl fun a wr S => ?_
         have X := rbX S.ext
         exact wp_field1 (ev_of ((S.old 2 (by kernel_rfl)).trans rfl)) (done (by kernel_rfl) rbu_refl rfl)
        ·refine rs_plain rfl rfl fun a wr S => ?_
         have X := rbX S.ext
         obtain ⟨v2, e2, h2⟩ := S.got 2 (by kernel_rfl)
         exact wp_loadM ((ev_of (e2 36 (by kernel_rfl))).trans h2) (P2.below X) (done (by kernel_rfl) rbu_refl rfl)
        ·refine rs_plain rfl rfl fun a wr S => ?_
         have X := rbX S.ext
         obtain ⟨v1, e1, h1⟩ := S.got 1 (by kernel_rfl)
         obtain ⟨v3, e3, h3⟩ := S.got 3 (by kernel_rfl)
         exact st_call cf_ref01_Sub (args2 ((ev_of (e1 35 (by kernel_rfl))).trans h1) ((ev_of (e3 37 (by kernel_rfl))).trans h3)) (by kernel_rfl) rb (rSub ⟨_, _, _, rfl, Nx2x1.below X⟩ ⟨_, _, _, rfl, Nx1x1.below X⟩ (by omega) (by omega) (Nat.le_of_lt HL.out)) (fun _ _ _ h => h)
        ·refine rs_plain rfl rfl fun a wr S => ?_
         have X := rbX S.ext
         obtain ⟨v4, e4, h4⟩ := S.got 4 (by kernel_rfl)
         exact wp_mv (ev_of (e4 38 (by kernel_rfl))) (done (by kernel_rfl) rbu_refl h4)
        ·refine rs_plain rfl rfl fun a wr S => ?_
         have X := rbX S.ext
         obtain ⟨v5, e5, h5⟩ := S.got 5 (by kernel_rfl)
         obtain ⟨AA, nn, cc, hvv, TT⟩ := (show IsTB wr _ (z3.natAbs - z2.natAbs) k3 true from h5)
         exact wp_ext0 ((ev_of (e5 33 (by kernel_rfl))).trans hvv) (done (by kernel_rfl) rbu_refl ⟨_, _, _, rfl, TT⟩)
        ·refine rs_plain rfl rfl fun a wr S => ?_
         have X := rbX S.ext
         obtain ⟨v5, e5, h5⟩ := S.got 5 (by kernel_rfl)
         obtain ⟨AA, nn, cc, hvv, TT⟩ := (show IsTB wr _ (z3.natAbs - z2.natAbs) k3 true from h5)
         exact wp_ext1 ((ev_of (e5 33 (by kernel_rfl))).trans hvv) (done (by kernel_rfl) rbu_refl rfl)
        ·refine rs_plain rfl rfl fun a wr S => ?_
         have X := rbX S.ext
         obtain ⟨v6, e6, h6⟩ := S.got 6 (by kernel_rfl)
         exact wp_as (ev_of (e6 39 (by kernel_rfl))) (done (by kernel_rfl) rbu_refl h6)
        ·refine rs_plain rfl rfl fun a wr S => ?_
         have X := rbX S.ext
         obtain ⟨v7, e7, h7⟩ := S.got 7 (by kernel_rfl)
         exact wp_as ((ev_of (e7 40 (by kernel_rfl))).trans h7) (done (by kernel_rfl) rbu_refl rfl)
       ·intro fw19 w19 hR hv hap
        clear hap
        replace hR := rbX hR
        have f0 : fw19 0 = .pointer (some ⟨(w.heap.size + 1), 1, none⟩) := (hvc (hv 0 (by omega))).elim fun _ h => h
        have f1 : fw19 1 = .slice Ax2x1 nx2x1 cx2x1 := (hvc (hv 1 (by omega))).elim fun _ h => h
        have f2 : fw19 2 = .pointer (some ⟨w.heap.size, 1, none⟩) := (hvc (hv 2 (by omega))).elim fun _ h => h
        have f3 : fw19 3 = .slice Ax1x1 nx1x1 cx1x1 := (hvc (hv 3 (by omega))).elim fun _ h => h
        have f7 : fw19 7 = .bool true := (hvc (hv 7 (by omega))).elim fun _ h => h
        have f9 : fw19 9 = .bool true := (hvc (hv 9 (by omega))).elim fun _ h => h
        obtain ⟨Ax6x8, nx6x8, cx6x8, f8, Tx6x8⟩ := (show IsTr w19 _ (z3.natAbs - z2.natAbs) k3 from (hvc (hv 8 (by omega))).elim fun _ h => h)
        simp only [putFn, Act.put, List.setIfInBounds_toArray, List.set_cons_zero, List.set_cons_succ, f0, f1, f2, f3, f7, f9, f8]
        replace M2 := M2.below hR
        replace N2 := N2.below hR
        replace M3 := M3.below hR
        replace N3 := N3.below hR
        replace Vx1x1 := Vx1x1.below hR
        replace Nx1x1 := Nx1x1.below hR
        replace Tx1x1 := Tx1x1.below hR
        replace Vx2x1 := Vx2x1.below hR
        replace Nx2x1 := Nx2x1.below hR
        replace Tx2x1 := Tx2x1.below hR
        replace P2 := P2.below hR
        replace P3 := P3.below hR
        replace P4 := P4.below hR
        replace BB := bl_trans BB hR
        clear hR hv
        have Nx6x8 := Tx6x8.nm
        go_upto_region 7 with (fail)
        refine wp_seq 5 ?_
        simp only [List.take_succ_cons, List.take_zero, List.drop_succ_cons, List.drop_zero]
        refine wp_seq_list (Ext := RB) (Rel := RBu) [fun v _ _ => v = .pointer (some ⟨(w.heap.size + 1), 0, none⟩), fun v _ _ => v = .bool false, fun v _ _ => v = .slice Ax6x8 nx6x8 cx6x8, fun v _ w => IsM w v (zv false (z3.natAbs - z2.natAbs)) k3, fun v _ w => IsT w v (zv false (z3.natAbs - z2.natAbs)) k3] (n := 5) (by kernel_rfl) (by kernel_rfl) (by kernel_rfl) (by kernel_rfl) (by kernel_rfl) (by kernel_rfl) (by kernel_rfl) rb_refl rb_trans ⟨sC, ⟨sC, ⟨sC, ⟨sM, ⟨sT, trivial⟩⟩⟩⟩⟩ ?_ ?_
        ·refine ⟨⟨⟨⟨⟨trivial, ?_⟩, ?_⟩, ?_⟩, ?_⟩, ?_⟩
         ·refine rs_plain rfl rfl fun a wr S => ?_
          have X := rbX S.ext
          exact wp_field0 (ev_of ((S.old 3 (by kernel_rfl)).trans rfl)) (done (by kernel_rfl) rbu_refl rfl)
         ·refine rs_plain rfl rfl fun a wr S => ?_
          have X := rbX S.ext
          obtain ⟨v0, e0, h0⟩ := S.got 0 (by kernel_rfl)
          exact wp_loadB ((ev_of (e0 41 (by kernel_rfl))).trans h0) (P3.below X) (done (by kernel_rfl) rbu_refl rfl)
         ·refine rs_plain rfl rfl fun a wr S => ?_
          have X := rbX S.ext
          exact wp_mv (ev_of ((S.old 5 (by kernel_rfl)).trans rfl)) (done (by kernel_rfl) rbu_refl rfl)
         ·refine rs_plain rfl rfl fun a wr S => ?_
          have X := rbX S.ext
          obtain ⟨v1, e1, h1⟩ := S.got 1 (by kernel_rfl)
          obtain ⟨v2, e2, h2⟩ := S.got 2 (by kernel_rfl)
          exact wp_bZ ((ev_of (e1 42 (by kernel_rfl))).trans h1) ((ev_of (e2 43 (by kernel_rfl))).trans h2) (done (by kernel_rfl) rbu_refl ⟨_, _, _, _, rfl, ⟨⟨_, Nx6x8.below X, rfl⟩⟩⟩)
         ·refine rs_plain rfl rfl fun a wr S => ?_
          have X := rbX S.ext
          obtain ⟨v3, e3, h3⟩ := S.got 3 (by kernel_rfl)
          exact st_call cf_ref03_whole (args1 (ev_of (e3 44 (by kernel_rfl)))) (by kernel_rfl) rb (cWhole3 (show IsM _ _ _ _ from h3) (by omega)) (fun _ _ _ h => h)
        ·intro fw20 w20 hR hv hap
         clear hap
         replace hR := rbX hR
         have f0 : fw20 0 = .pointer (some ⟨(w.heap.size + 1), 0, none⟩) := (hvc (hv 0 (by omega))).elim fun _ h => h
         have f1 : fw20 1 = .bool false := (hvc (hv 1 (by omega))).elim fun _ h => h
         have f2 : fw20 2 = .slice Ax6x8 nx6x8 cx6x8 := (hvc (hv 2 (by omega))).elim fun _ h => h
         obtain ⟨bx7x4, Ax7x4, nx7x4, cx7x4, f4, Tx7x4, sx7x4⟩ := (show IsT w20 _ (zv false (z3.natAbs - z2.natAbs)) k3 from (hvc (hv 4 (by omega))).elim fun _ h => h)
         simp only [putFn, Act.put, List.setIfInBounds_toArray, List.set_cons_zero, List.set_cons_succ, f0, f1, f2, f4]
         replace M2 := M2.below hR
         replace N2 := N2.below hR
         replace M3 := M3.below hR
         replace N3 := N3.below hR
         replace Vx1x1 := Vx1x1.below hR
         replace Nx1x1 := Nx1x1.below hR
         replace Tx1x1 := Tx1x1.below hR
         replace Vx2x1 := Vx2x1.below hR
         replace Nx2x1 := Nx2x1.below hR
         replace Tx2x1 := Tx2x1.below hR
         replace Nx6x8 := Nx6x8.below hR
         replace Tx6x8 := Tx6x8.below hR
         replace P2 := P2.below hR
         replace P3 := P3.below hR
         replace P4 := P4.below hR
         replace BB := bl_trans BB hR
         clear hR hv
         have Vx7x4 : IsT w20 (.agg #[.bool bx7x4, .slice Ax7x4 nx7x4 cx7x4]) (zv false (z3.natAbs - z2.natAbs)) k3 := ⟨_, _, _, _, rfl, Tx7x4, sx7x4⟩
         have Nx7x4 := Tx7x4.nm
         have Sx7x4 := Lib.hid sx7x4
         clear sx7x4
         have r40 := P4.c0
         have t40 := P4.f 0
         have r41 := P4.c1
         have t41 := P4.f 1
         go_wp2_with fail
         clear r40 t40 r41 t41
         have KR := kr_put2 (b' := bx7x4) (A' := Ax7x4) (n' := nx7x4) (c' := cx7x4) P4
         replace M2 := M2.kr KR
         replace N2 := N2.kr KR
         replace M3 := M3.kr KR
         replace N3 := N3.kr KR
         replace Vx1x1 := Vx1x1.kr KR
         replace Nx1x1 := Nx1x1.kr KR
         replace Tx1x1 := Tx1x1.kr KR
         replace Vx2x1 := Vx2x1.kr KR
         replace Nx2x1 := Nx2x1.kr KR
         replace Tx2x1 := Tx2x1.kr KR
         replace Nx6x8 := Nx6x8.kr KR
         replace Tx6x8 := Tx6x8.kr KR
         replace Vx7x4 := Vx7x4.kr KR
         replace Nx7x4 := Nx7x4.kr KR
         replace Tx7x4 := Tx7x4.kr KR
         replace P2 := P2.put2 (g := (w.heap.size + 1 + 1)) (b' := bx7x4) (A' := Ax7x4) (n' := nx7x4) (c' := cx7x4) (by omega)
         replace P3 := P3.put2 (g := (w.heap.size + 1 + 1)) (b' := bx7x4) (A' := Ax7x4) (n' := nx7x4) (c' := cx7x4) (by omega)
         replace BB := Below.put2 (g := (w.heap.size + 1 + 1)) (b' := bx7x4) (A' := Ax7x4) (n' := nx7x4) (c' := cx7x4) BB (by omega)
         replace P4 := P4.set2 (b' := bx7x4) (A' := Ax7x4) (n' := nx7x4) (c' := cx7x4)
         clear KR
         generalize World.setCell _ ⟨w.heap.size + 1 + 1, 1, none⟩ _ = w21 at M2 N2 M3 N3 Vx1x1 Nx1x1 Tx1x1 Vx2x1 Nx2x1 Tx2x1 Nx6x8 Tx6x8 Vx7x4 Nx7x4 Tx7x4 P2 P3 P4 BB ⊢
         have rc0 := P4.c0
         have rc1 := P4.c1
         exact bodyPost_ret (v := .agg #[.bool bx7x4, .slice Ax7x4 nx7x4 cx7x4]) (by simp [results, Tryz.results63, go_sem, rc0, rc1]) rfl ⟨_, rfl, BB, by rw [plus_lt Sx1x1.out Sx2x1.out (by decide) (Nat.le_of_lt HL.out)] at Vx7x4; exact Vx7x4.mono (by omega)⟩
     ·have HL := Lib.hid (show z3.natAbs ≤ z2.natAbs from Nat.not_lt.1 fun h => hx (hlt.2 h))
      clear hlt
      refine wp_seq 6 ?_
      simp only [List.take_succ_cons, List.take_zero, List.drop_succ_cons, List.drop_zero]
      refine wp_seq_list (Ext := RB) (Rel := RBu) [fun v _ _ => v = .pointer (some ⟨w.heap.size, 1, none⟩), fun v _ _ => v = .slice Ax1x1 nx1x1 cx1x1, fun v _ _ => v = .pointer (some ⟨(w.heap.size + 1), 1, none⟩), fun v _ _ => v = .slice Ax2x1 nx2x1 cx2x1, fun v _ _ => v = .int .i64 c, fun v _ _ => v = .bool false] (n := 6) (by kernel_rfl) (by kernel_rfl) (by kernel_rfl) (by kernel_rfl) (by kernel_rfl) (by kernel_rfl) (by kernel_rfl) rb_refl rb_trans ⟨sC, ⟨sC, ⟨sC, ⟨sC, ⟨sC, ⟨sC, trivial⟩⟩⟩⟩⟩⟩ ?_ ?_
      ·refine ⟨⟨⟨⟨⟨⟨trivial, ?_⟩, ?_⟩, ?_⟩, ?_⟩, ?_⟩, ?_⟩
       ·refine rs_plain rfl rfl fun a wr S => ?_
        have X := rbX S.ext
        exact wp_field1 (ev_of ((S.old 2 (by kernel_rfl)).trans rfl)) (done (by kernel_rfl) rbu_refl rfl)
       ·refine rs_plain rfl rfl fun a wr S => ?_
        have X := rbX S.ext
        obtain ⟨v0, e0, h0⟩ := S.got 0 (by kernel_rfl)
        exact wp_loadM ((ev_of (e0 27 (by kernel_rfl))).trans h0) (P2.below X) (done (by kernel_rfl) rbu_refl rfl)
       ·refine rs_plain rfl rfl fun a wr S => ?_
        have X := rbX S.ext
        exact wp_field1 (ev_of ((S.old 3 (by kernel_rfl)).trans rfl)) (done (by kernel_rfl) rbu_refl rfl)
       ·refine rs_plain rfl rfl fun a wr S => ?_
        have X := rbX S.ext
        obtain ⟨v2, e2, h2⟩ := S.got 2 (by kernel_rfl)
        exact wp_loadM ((ev_of (e2 29 (by kernel_rfl))).trans h2) (P3.below X) (done (by kernel_rfl) rbu_refl rfl)
       ·refine rs_plain rfl rfl fun a wr S => ?_
        have X := rbX S.ext
        obtain ⟨v1, e1, h1⟩ := S.got 1 (by kernel_rfl)
        obtain ⟨v3, e3, h3⟩ := S.got 3 (by kernel_rfl)
        exact st_call cf_ref01_Cmp (args2 ((ev_of (e1 28 (by kernel_rfl))).trans h1) ((ev_of (e3 30 (by kernel_rfl))).trans h3)) (by kernel_rfl) rb ((rCmp ⟨_, _, _, rfl, Nx1x1.below X⟩ ⟨_, _, _, rfl, Nx2x1.below X⟩ (by omega) (by omega)).mono (ans_intW HC.out)) (fun _ _ _ h => h)
       ·refine rs_plain rfl rfl fun a wr S => ?_
        have X := rbX S.ext
        obtain ⟨v4, e4, h4⟩ := S.got 4 (by kernel_rfl)
        exact wp_ltI ((ev_of (e4 31 (by kernel_rfl))).trans h4) rfl (done (by kernel_rfl) rbu_refl (congrArg Value.bool (decide_eq_false hx)))
      ·intro fw22 w22 hR hv hap
       clear hap
       replace hR := rbX hR
       have f0 : fw22 0 = .pointer (some ⟨w.heap.size, 1, none⟩) := (hvc (hv 0 (by omega))).elim fun _ h => h
       have f1 : fw22 1 = .slice Ax1x1 nx1x1 cx1x1 := (hvc (hv 1 (by omega))).elim fun _ h => h
       have f2 : fw22 2 = .pointer (some ⟨(w.heap.size + 1), 1, none⟩) := (hvc (hv 2 (by omega))).elim fun _ h => h
       have f3 : fw22 3 = .slice Ax2x1 nx2x1 cx2x1 := (hvc (hv 3 (by omega))).elim fun _ h => h
       have f4 : fw22 4 = .int .i64 c := (hvc (hv 4 (by omega))).elim fun _ h => h
       have f5 : fw22 5 = .bool false := (hvc (hv 5 (by omega))).elim fun _ h => h
       simp only [putFn, Act.put, List.setIfInBounds_toArray, List.set_cons_zero, List.set_cons_succ, f0, f1, f2, f3, f4, f5]
       replace M2 := M2.below hR
       replace N2 := N2.below hR
       replace M3 := M3.below hR
       replace N3 := N3.below hR
       replace Vx1x1 := Vx1x1.below hR
       replace Nx1x1 := Nx1x1.below hR
       replace Tx1x1 := Tx1x1.below hR
       replace Vx2x1 := Vx2x1.below hR
       replace Nx2x1 := Nx2x1.below hR
       replace Tx2x1 := Tx2x1.below hR
       replace P2 := P2.below hR
       replace P3 := P3.below hR
       replace P4 := P4.below hR
       replace BB := bl_trans BB hR
       clear hR hv
       go_upto_region 8 with (fail)
       refine wp_seq 10 ?_
       simp only [List.take_succ_cons, List.take_zero, List.drop_succ_cons, List.drop_zero]
       refine wp_seq_list (Ext := RB) (Rel := RBu) [fun v _ _ => v = .pointer (some ⟨w.heap.size, 1, none⟩), fun v _ _ => v = .slice Ax1x1 nx1x1 cx1x1, fun v _ _ => v = .pointer (some ⟨(w.heap.size + 1), 1, none⟩), fun v _ _ => v = .slice Ax2x1 nx2x1 cx2x1, fun v _ w => IsTB w v (z2.natAbs - z3.natAbs) k2 true, fun v _ w => IsTB w v (z2.natAbs - z3.natAbs) k2 true, fun v _ w => IsTr w v (z2.natAbs - z3.natAbs) k2, fun v _ _ => v = .bool true, fun v _ w => IsTr w v (z2.natAbs - z3.natAbs) k2, fun v _ _ => v = .bool true] (n := 10) (by kernel_rfl) (by kernel_rfl) (by kernel_rfl) (by kernel_rfl) (by kernel_rfl) (by kernel_rfl) (by kernel_rfl) rb_refl rb_trans ⟨sC, ⟨sC, ⟨sC, ⟨sC, ⟨sTB, ⟨sTB, ⟨sTr, ⟨sC, ⟨sTr, ⟨sC, trivial⟩⟩⟩⟩⟩⟩⟩⟩⟩⟩ ?_ ?_
       ·refine ⟨⟨⟨⟨⟨⟨⟨⟨⟨⟨trivial, ?_⟩, ?_⟩, ?_⟩, ?_⟩, ?_⟩, ?_⟩, ?_⟩, ?_⟩, ?_⟩, ?_⟩
        ·refine rs_plain rfl rfl fun a wr S => ?_
         have X := rbX S.ext
         exact wp_field1 (ev_of ((S.old 2 (by kernel_rfl)).trans rfl)) (done (by kernel_rfl) rbu_refl rfl)
        ·refine rs_plain rfl rfl fun a wr S => ?_
         have X := rbX S.ext
         obtain ⟨v0, e0, h0⟩ := S.got 0 (by kernel_rfl)
         exact wp_loadM ((ev_of (e0 47 (by kernel_rfl))).trans h0) (P2.below X) (done (by kernel_rfl) rbu_refl rfl)
        ·refine rs_plain rfl rfl fun a wr S => ?_
         have X := rbX S.ext
         exact wp_field1 (ev_of ((S.old 3 (by kernel_rfl)).trans rfl)) (done (by kernel_rfl) rbu_refl rfl)
        ·refine rs_plain rfl rfl fun a wr S => ?_
         have X := rbX S.ext
         obtain ⟨v2, e2, h2⟩ := S.got 2 (by kernel_rfl)
         exact wp_loadM ((ev_of (e2 49 (by kernel_rfl))).trans h2) (P3.below X) (done (by kernel_rfl) rbu_refl rfl)
        ·refine rs_plain rfl rfl fun a wr S => ?_
         have X := rbX S.ext
         obtain ⟨v1, e1, h1⟩ := S.got 1 (by kernel_rfl)
         obtain ⟨v3, e3, h3⟩ := S.got 3 (by kernel_rfl)
         exact st_call cf_ref01_Sub (args2 ((ev_of (e1 48 (by kernel_rfl))).trans h1) ((ev_of (e3 50 (by kernel_rfl))).trans h3)) (by kernel_rfl) rb (rSub ⟨_, _, _, rfl, Nx1x1.below X⟩ ⟨_, _, _, rfl, Nx2x1.below X⟩ (by omega) (by omega) HL.out) (fun _ _ _ h => h)
        ·refine rs_plain rfl rfl fun a wr S => ?_
         have X := rbX S.ext
         obtain ⟨v4, e4, h4⟩ := S.got 4 (by kernel_rfl)
         exact wp_mv (ev_of (e4 51 (by kernel_rfl))) (done (by kernel_rfl) rbu_refl h4)
        ·refine rs_plain rfl rfl fun a wr S => ?_
         have X := rbX S.ext
         obtain ⟨v5, e5, h5⟩ := S.got 5 (by kernel_rfl)
         obtain ⟨AA, nn, cc, hvv, TT⟩ := (show IsTB wr _ (z2.natAbs - z3.natAbs) k2 true from h5)
         exact wp_ext0 ((ev_of (e5 46 (by kernel_rfl))).trans hvv) (done (by kernel_rfl) rbu_refl ⟨_, _, _, rfl, TT⟩)
        ·refine rs_plain rfl rfl fun a wr S => ?_
         have X := rbX S.ext
         obtain ⟨v5, e5, h5⟩ := S.got 5 (by kernel_rfl)
         obtain ⟨AA, nn, cc, hvv, TT⟩ := (show IsTB wr _ (z2.natAbs - z3.natAbs) k2 true from h5)
         exact wp_ext1 ((ev_of (e5 46 (by kernel_rfl))).trans hvv) (done (by kernel_rfl) rbu_refl rfl)
        ·refine rs_plain rfl rfl fun a wr S => ?_
         have X := rbX S.ext
         obtain ⟨v6, e6, h6⟩ := S.got 6 (by kernel_rfl)
         exact wp_as (ev_of (e6 52 (by kernel_rfl))) (done (by kernel_rfl) rbu_refl h6)
        ·refine rs_plain rfl rfl fun a wr S => ?_
         have X := rbX S.ext
         obtain ⟨v7, e7, h7⟩ := S.got 7 (by kernel_rfl)
         exact wp_as ((ev_of (e7 53 (by kernel_rfl))).trans h7) (done (by kernel_rfl) rbu_refl rfl)
       ·intro fw23 w23 hR hv hap
        clear hap
        replace hR := rbX hR
        have f0 : fw23 0 = .pointer (some ⟨w.heap.size, 1, none⟩) := (hvc (hv 0 (by omega))).elim fun _ h => h
        have f1 : fw23 1 = .slice Ax1x1 nx1x1 cx1x1 := (hvc (hv 1 (by omega))).elim fun _ h => h
        have f2 : fw23 2 = .pointer (some ⟨(w.heap.size + 1), 1, none⟩) := (hvc (hv 2 (by omega))).elim fun _ h => h
        have f3 : fw23 3 = .slice Ax2x1 nx2x1 cx2x1 := (hvc (hv 3 (by omega))).elim fun _ h => h
        have f7 : fw23 7 = .bool true := (hvc (hv 7 (by omega))).elim fun _ h => h
        have f9 : fw23 9 = .bool true := (hvc (hv 9 (by omega))).elim fun _ h => h
        obtain ⟨Ax8x8, nx8x8, cx8x8, f8, Tx8x8⟩ := (show IsTr w23 _ (z2.natAbs - z3.natAbs) k2 from (hvc (hv 8 (by omega))).elim fun _ h => h)
        simp only [putFn, Act.put, List.setIfInBounds_toArray, List.set_cons_zero, List.set_cons_succ, f0, f1, f2, f3, f7, f9, f8]
        replace M2 := M2.below hR
        replace N2 := N2.below hR
        replace M3 := M3.below hR
        replace N3 := N3.below hR
        replace Vx1x1 := Vx1x1.below hR
        replace Nx1x1 := Nx1x1.below hR
        replace Tx1x1 := Tx1x1.below hR
        replace Vx2x1 := Vx2x1.below hR
        replace Nx2x1 := Nx2x1.below hR
        replace Tx2x1 := Tx2x1.below hR
        replace P2 := P2.below hR
        replace P3 := P3.below hR
        replace P4 := P4.below hR
        replace BB := bl_trans BB hR
        clear hR hv
        have Nx8x8 := Tx8x8.nm
        go_upto_region 9 with (fail)
        refine wp_seq 5 ?_
        simp only [List.take_succ_cons, List.take_zero, List.drop_succ_cons, List.drop_zero]
        refine wp_seq_list (Ext := RB) (Rel := RBu) [fun v _ _ => v = .pointer (some ⟨w.heap.size, 0, none⟩), fun v _ _ => v = .bool true, fun v _ _ => v = .slice Ax8x8 nx8x8 cx8x8, fun v _ w => IsM w v (zv true (z2.natAbs - z3.natAbs)) k2, fun v _ w => IsT w v (zv true (z2.natAbs - z3.natAbs)) k2] (n := 5) (by kernel_rfl) (by kernel_rfl) (by kernel_rfl) (by kernel_rfl) (by kernel_rfl) (by kernel_rfl) (by kernel_rfl) rb_refl rb_trans ⟨sC, ⟨sC, ⟨sC, ⟨sM, ⟨sT, trivial⟩⟩⟩⟩⟩ ?_ ?_
        ·refine ⟨⟨⟨⟨⟨trivial, ?_⟩, ?_⟩, ?_⟩, ?_⟩, ?_⟩
         ·refine rs_plain rfl rfl fun a wr S => ?_
          have X := rbX S.ext
          exact wp_field0 (ev_of ((S.old 2 (by kernel_rfl)).trans rfl)) (done (by kernel_rfl) rbu_refl rfl)
         ·refine rs_plain rfl rfl fun a wr S => ?_
          have X := rbX S.ext
          obtain ⟨v0, e0, h0⟩ := S.got 0 (by kernel_rfl)
          exact wp_loadB ((ev_of (e0 54 (by kernel_rfl))).trans h0) (P2.below X) (done (by kernel_rfl) rbu_refl rfl)
         ·refine rs_plain rfl rfl fun a wr S => ?_
          have X := rbX S.ext
          exact wp_mv (ev_of ((S.old 7 (by kernel_rfl)).trans rfl)) (done (by kernel_rfl) rbu_refl rfl)
         ·refine rs_plain rfl rfl fun a wr S => ?_
          have X := rbX S.ext
          obtain ⟨v1, e1, h1⟩ := S.got 1 (by kernel_rfl)
          obtain ⟨v2, e2, h2⟩ := S.got 2 (by kernel_rfl)
          exact wp_bZ ((ev_of (e1 55 (by kernel_rfl))).trans h1) ((ev_of (e2 56 (by kernel_rfl))).trans h2) (done (by kernel_rfl) rbu_refl ⟨_, _, _, _, rfl, ⟨⟨_, Nx8x8.below X, rfl⟩⟩⟩)
         ·refine rs_plain rfl rfl fun a wr S => ?_
          have X := rbX S.ext
          obtain ⟨v3, e3, h3⟩ := S.got 3 (by kernel_rfl)
          exact st_call cf_ref03_whole (args1 (ev_of (e3 57 (by kernel_rfl)))) (by kernel_rfl) rb (cWhole3 (show IsM _ _ _ _ from h3) (by omega)) (fun _ _ _ h => h)
        ·intro fw24 w24 hR hv hap
         clear hap
         replace hR := rbX hR
         have f0 : fw24 0 = .pointer (some ⟨w.heap.size, 0, none⟩) := (hvc (hv 0 (by omega))).elim fun _ h => h
         have f1 : fw24 1 = .bool true := (hvc (hv 1 (by omega))).elim fun _ h => h
         have f2 : fw24 2 = .slice Ax8x8 nx8x8 cx8x8 := (hvc (hv 2 (by omega))).elim fun _ h => h
         obtain ⟨bx9x4, Ax9x4, nx9x4, cx9x4, f4, Tx9x4, sx9x4⟩ := (show IsT w24 _ (zv true (z2.natAbs - z3.natAbs)) k2 from (hvc (hv 4 (by omega))).elim fun _ h => h)
         simp only [putFn, Act.put, List.setIfInBounds_toArray, List.set_cons_zero, List.set_cons_succ, f0, f1, f2, f4]
         replace M2 := M2.below hR
         replace N2 := N2.below hR
         replace M3 := M3.below hR
         replace N3 := N3.below hR
         replace Vx1x1 := Vx1x1.below hR
         replace Nx1x1 := Nx1x1.below hR
         replace Tx1x1 := Tx1x1.below hR
         replace Vx2x1 := Vx2x1.below hR
         replace Nx2x1 := Nx2x1.below hR
         replace Tx2x1 := Tx2x1.below hR
         replace Nx8x8 := Nx8x8.below hR
         replace Tx8x8 := Tx8x8.below hR
         replace P2 := P2.below hR
         replace P3 := P3.below hR
         replace P4 := P4.below hR
         replace BB := bl_trans BB hR
         clear hR hv
         have Vx9x4 : IsT w24 (.agg #[.bool bx9x4, .slice Ax9x4 nx9x4 cx9x4]) (zv true (z2.natAbs - z3.natAbs)) k2 := ⟨_, _, _, _, rfl, Tx9x4, sx9x4⟩
         have Nx9x4 := Tx9x4.nm
         have Sx9x4 := Lib.hid sx9x4
         clear sx9x4
         have r40 := P4.c0
         have t40 := P4.f 0
         have r41 := P4.c1
         have t41 := P4.f 1
         go_wp2_with fail
         clear r40 t40 r41 t41
         have KR := kr_put2 (b' := bx9x4) (A' := Ax9x4) (n' := nx9x4) (c' := cx9x4) P4
         replace M2 := M2.kr KR
         replace N2 := N2.kr KR
         replace M3 := M3.kr KR
         replace N3 := N3.kr KR
         replace Vx1x1 := Vx1x1.kr KR
         replace Nx1x1 := Nx1x1.kr KR
         replace Tx1x1 := Tx1x1.kr KR
         replace Vx2x1 := Vx2x1.kr KR
         replace Nx2x1 := Nx2x1.kr KR
         replace Tx2x1 := Tx2x1.kr KR
         replace Nx8x8 := Nx8x8.kr KR
         replace Tx8x8 := Tx8x8.kr KR
         replace Vx9x4 := Vx9x4.kr KR
         replace Nx9x4 := Nx9x4.kr KR
         replace Tx9x4 := Tx9x4.kr KR
         replace P2 := P2.put2 (g := (w.heap.size + 1 + 1)) (b' := bx9x4) (A' := Ax9x4) (n' := nx9x4) (c' := cx9x4) (by omega)
         replace P3 := P3.put2 (g := (w.heap.size + 1 + 1)) (b' := bx9x4) (A' := Ax9x4) (n' := nx9x4) (c' := cx9x4) (by omega)
         replace BB := Below.put2 (g := (w.heap.size + 1 + 1)) (b' := bx9x4) (A' := Ax9x4) (n' := nx9x4) (c' := cx9x4) BB (by omega)
         replace P4 := P4.set2 (b' := bx9x4) (A' := Ax9x4) (n' := nx9x4) (c' := cx9x4)
         clear KR
         generalize World.setCell _ ⟨w.heap.size + 1 + 1, 1, none⟩ _ = w25 at M2 N2 M3 N3 Vx1x1 Nx1x1 Tx1x1 Vx2x1 Nx2x1 Tx2x1 Nx8x8 Tx8x8 Vx9x4 Nx9x4 Tx9x4 P2 P3 P4 BB ⊢
         have rc0 := P4.c0
         have rc1 := P4.c1
         exact bodyPost_ret (v := .agg #[.bool bx9x4, .slice Ax9x4 nx9x4 cx9x4]) (by simp [results, Tryz.results63, go_sem, rc0, rc1]) rfl ⟨_, rfl, BB, by rw [plus_gt Sx1x1.out Sx2x1.out (by decide) HL.out] at Vx9x4; exact Vx9x4.mono (by omega)⟩
   ·skip
    refine wp_seq 5 ?_
    simp only [List.take_succ_cons, List.take_zero, List.drop_succ_cons, List.drop_zero]
    refine wp_seq_list (Ext := RB) (Rel := RBu) [fun v _ _ => v = .pointer (some ⟨w.heap.size, 0, none⟩), fun v _ _ => v = .bool true, fun v _ _ => v = .pointer (some ⟨(w.heap.size + 1), 0, none⟩), fun v _ _ => v = .bool true, fun v _ _ => v = .bool true] (n := 5) (by kernel_rfl) (by kernel_rfl) (by kernel_rfl) (by kernel_rfl) (by kernel_rfl) (by kernel_rfl) (by kernel_rfl) rb_refl rb_trans ⟨sC, ⟨sC, ⟨sC, ⟨sC, ⟨sC, trivial⟩⟩⟩⟩⟩ ?_ ?_
    ·refine ⟨⟨⟨⟨⟨trivial, ?_⟩, ?_⟩, ?_⟩, ?_⟩, ?_⟩
     ·refine rs_plain rfl rfl fun a wr S => ?_
      have X := rbX S.ext
      exact wp_field0 (ev_of ((S.old 2 (by kernel_rfl)).trans rfl)) (done (by kernel_rfl) rbu_refl rfl)
     ·refine rs_plain rfl rfl fun a wr S => ?_
      have X := rbX S.ext
      obtain ⟨v0, e0, h0⟩ := S.got 0 (by kernel_rfl)
      exact wp_loadB ((ev_of (e0 13 (by kernel_rfl))).trans h0) (P2.below X) (done (by kernel_rfl) rbu_refl rfl)
     ·refine rs_plain rfl rfl fun a wr S => ?_
      have X := rbX S.ext
      exact wp_field0 (ev_of ((S.old 3 (by kernel_rfl)).trans rfl)) (done (by kernel_rfl) rbu_refl rfl)
     ·refine rs_plain rfl rfl fun a wr S => ?_
      have X := rbX S.ext
      obtain ⟨v2, e2, h2⟩ := S.got 2 (by kernel_rfl)
      exact wp_loadB ((ev_of (e2 15 (by kernel_rfl))).trans h2) (P3.below X) (done (by kernel_rfl) rbu_refl rfl)
     ·refine rs_plain rfl rfl fun a wr S => ?_
      have X := rbX S.ext
      obtain ⟨v1, e1, h1⟩ := S.got 1 (by kernel_rfl)
      obtain ⟨v3, e3, h3⟩ := S.got 3 (by kernel_rfl)
      exact wp_eqB ((ev_of (e1 14 (by kernel_rfl))).trans h1) ((ev_of (e3 16 (by kernel_rfl))).trans h3) (done (by kernel_rfl) rbu_refl (congrArg Value.bool (by decide)))
    ·intro fw26 w26 hR hv hap
     clear hap
     replace hR := rbX hR
     have f0 : fw26 0 = .pointer (some ⟨w.heap.size, 0, none⟩) := (hvc (hv 0 (by omega))).elim fun _ h => h
     have f1 : fw26 1 = .bool true := (hvc (hv 1 (by omega))).elim fun _ h => h
     have f2 : fw26 2 = .pointer (some ⟨(w.heap.size + 1), 0, none⟩) := (hvc (hv 2 (by omega))).elim fun _ h => h
     have f3 : fw26 3 = .bool true := (hvc (hv 3 (by omega))).elim fun _ h => h
     have f4 : fw26 4 = .bool true := (hvc (hv 4 (by omega))).elim fun _ h => h
     simp only [putFn, Act.put, List.setIfInBounds_toArray, List.set_cons_zero, List.set_cons_succ, f0, f1, f2, f3, f4]
     replace M2 := M2.below hR
     replace N2 := N2.below hR
     replace M3 := M3.below hR
     replace N3 := N3.below hR
     replace Vx1x1 := Vx1x1.below hR
     replace Nx1x1 := Nx1x1.below hR
     replace Tx1x1 := Tx1x1.below hR
     replace Vx2x1 := Vx2x1.below hR
     replace Nx2x1 := Nx2x1.below hR
     replace Tx2x1 := Tx2x1.below hR
     replace P2 := P2.below hR
     replace P3 := P3.below hR
     replace P4 := P4.below hR
     replace BB := bl_trans BB hR
     clear hR hv
     go_upto_region 4 with (fail)
     refine wp_cut (by kernel_rfl) 9 ?_
     simp only [List.take_succ_cons, List.take_zero, List.drop_succ_cons, List.drop_zero]
     refine wp_cut_list (Ext := RB) (Rel := RBu) [fun v _ _ => v = .pointer (some ⟨w.heap.size, 0, none⟩), fun v _ _ => v = .bool true, fun v _ _ => v = .pointer (some ⟨w.heap.size, 1, none⟩), fun v _ _ => v = .slice Ax1x1 nx1x1 cx1x1, fun v _ _ => v = .pointer (some ⟨(w.heap.size + 1), 1, none⟩), fun v _ _ => v = .slice Ax2x1 nx2x1 cx2x1, fun v _ w => IsTr w v (z2.natAbs + z3.natAbs) ((max k2 k3) + 1), fun v _ w => IsM w v (zv true (z2.natAbs + z3.natAbs)) ((max k2 k3) + 1), fun v _ w => IsT w v (zv true (z2.natAbs + z3.natAbs)) ((max k2 k3) + 1)] (n := 9) (by kernel_rfl) (by kernel_rfl) (by kernel_rfl) (by kernel_rfl) (by kernel_rfl) (by kernel_rfl) (by kernel_rfl) (by kernel_rfl) (by kernel_rfl) rb_refl rb_trans ⟨sC, ⟨sC, ⟨sC, ⟨sC, ⟨sC, ⟨sC, ⟨sTr, ⟨sM, ⟨sT, trivial⟩⟩⟩⟩⟩⟩⟩⟩⟩ ?_ ?_
     ·refine ⟨⟨⟨⟨⟨⟨⟨⟨⟨trivial, ?_⟩, ?_⟩, ?_⟩, ?_⟩, ?_⟩, ?_⟩, ?_⟩, ?_⟩, ?_⟩
      ·refine rs_plain rfl rfl fun a wr S => ?_
       have X := undrew S.ext
       exact wp_field0 (ev_of ((S.old 2 (by kernel_rfl)).trans rfl)) (done (by kernel_rfl) rbu_refl rfl)
      ·refine rs_plain rfl rfl fun a wr S => ?_
       have X := undrew S.ext
       obtain ⟨v0, e0, h0⟩ := S.got 0 (by kernel_rfl)
       exact wp_loadB ((ev_of (e0 18 (by kernel_rfl))).trans h0) (P2.below X) (done (by kernel_rfl) rbu_refl rfl)
      ·refine rs_plain rfl rfl fun a wr S => ?_
       have X := undrew S.ext
       exact wp_field1 (ev_of ((S.old 2 (by kernel_rfl)).trans rfl)) (done (by kernel_rfl) rbu_refl rfl)
      ·refine rs_plain rfl rfl fun a wr S => ?_
       have X := undrew S.ext
       obtain ⟨v2, e2, h2⟩ := S.got 2 (by kernel_rfl)
       exact wp_loadM ((ev_of (e2 20 (by kernel_rfl))).trans h2) (P2.below X) (done (by kernel_rfl) rbu_refl rfl)
      ·refine rs_plain rfl rfl fun a wr S => ?_
       have X := undrew S.ext
       exact wp_field1 (ev_of ((S.old 3 (by kernel_rfl)).trans rfl)) (done (by kernel_rfl) rbu_refl rfl)
      ·refine rs_plain rfl rfl fun a wr S => ?_
       have X := undrew S.ext
       obtain ⟨v4, e4, h4⟩ := S.got 4 (by kernel_rfl)
       exact wp_loadM ((ev_of (e4 22 (by kernel_rfl))).trans h4) (P3.below X) (done (by kernel_rfl) rbu_refl rfl)
      ·refine rs_plain rfl rfl fun a wr S => ?_
       have X := undrew S.ext
       obtain ⟨v3, e3, h3⟩ := S.got 3 (by kernel_rfl)
       obtain ⟨v5, e5, h5⟩ := S.got 5 (by kernel_rfl)
       exact st_call cf_ref01_Add (args2 ((ev_of (e3 21 (by kernel_rfl))).trans h3) ((ev_of (e5 23 (by kernel_rfl))).trans h5)) (by kernel_rfl) rb (rAdd ⟨_, _, _, rfl, Nx1x1.below X⟩ ⟨_, _, _, rfl, Nx2x1.below X⟩ (by omega) (by omega)) (fun _ _ _ h => h)
      ·refine rs_plain rfl rfl fun a wr S => ?_
       have X := undrew S.ext
       obtain ⟨v1, e1, h1⟩ := S.got 1 (by kernel_rfl)
       obtain ⟨v6, e6, h6⟩ := S.got 6 (by kernel_rfl)
       obtain ⟨AA, nn, cc, hvv, TT⟩ := (show IsTr wr _ (z2.natAbs + z3.natAbs) ((max k2 k3) + 1) from h6)
       exact wp_bZ ((ev_of (e1 19 (by kernel_rfl))).trans h1) ((ev_of (e6 24 (by kernel_rfl))).trans hvv) (done (by kernel_rfl) rbu_refl ⟨_, _, _, _, rfl, ⟨⟨_, TT.nm, rfl⟩⟩⟩)
      ·refine rs_plain rfl rfl fun a wr S => ?_
       have X := undrew S.ext
       obtain ⟨v7, e7, h7⟩ := S.got 7 (by kernel_rfl)
       exact st_call cf_ref03_whole (args1 (ev_of (e7 25 (by kernel_rfl)))) (by kernel_rfl) rb (cWhole3 (show IsM _ _ _ _ from h7) (by omega)) (fun _ _ _ h => h)
     ·intro fw27 w27 hR hv hap
      clear hap
      replace hR := undrew hR
      have f0 : fw27 0 = .pointer (some ⟨w.heap.size, 0, none⟩) := (hvc (hv 0 (by omega))).elim fun _ h => h
      have f1 : fw27 1 = .bool true := (hvc (hv 1 (by omega))).elim fun _ h => h
      have f2 : fw27 2 = .pointer (some ⟨w.heap.size, 1, none⟩) := (hvc (hv 2 (by omega))).elim fun _ h => h
      have f3 : fw27 3 = .slice Ax1x1 nx1x1 cx1x1 := (hvc (hv 3 (by omega))).elim fun _ h => h
      have f4 : fw27 4 = .pointer (some ⟨(w.heap.size + 1), 1, none⟩) := (hvc (hv 4 (by omega))).elim fun _ h => h
      have f5 : fw27 5 = .slice Ax2x1 nx2x1 cx2x1 := (hvc (hv 5 (by omega))).elim fun _ h => h
      obtain ⟨bx4x8, Ax4x8, nx4x8, cx4x8, f8, Tx4x8, sx4x8⟩ := (show IsT w27 _ (zv true (z2.natAbs + z3.natAbs)) ((max k2 k3) + 1) from (hvc (hv 8 (by omega))).elim fun _ h => h)
      simp only [putFn, Act.put, List.setIfInBounds_toArray, List.set_cons_zero, List.set_cons_succ, f0, f1, f2, f3, f4, f5, f8]
      replace M2 := M2.below hR
      replace N2 := N2.below hR
      replace M3 := M3.below hR
      replace N3 := N3.below hR
      replace Vx1x1 := Vx1x1.below hR
      replace Nx1x1 := Nx1x1.below hR
      replace Tx1x1 := Tx1x1.below hR
      replace Vx2x1 := Vx2x1.below hR
      replace Nx2x1 := Nx2x1.below hR
      replace Tx2x1 := Tx2x1.below hR
      replace P2 := P2.below hR
      replace P3 := P3.below hR
      replace P4 := P4.below hR
      replace BB := bl_trans BB hR
      clear hR hv
      have Vx4x8 : IsT w27 (.agg #[.bool bx4x8, .slice Ax4x8 nx4x8 cx4x8]) (zv true (z2.natAbs + z3.natAbs)) ((max k2 k3) + 1) := ⟨_, _, _, _, rfl, Tx4x8, sx4x8⟩
      have Nx4x8 := Tx4x8.nm
      have Sx4x8 := Lib.hid sx4x8
      clear sx4x8
      have r40 := P4.c0
      have t40 := P4.f 0
      have r41 := P4.c1
      have t41 := P4.f 1
      go_wp2_with fail
      clear r40 t40 r41 t41
      have KR := kr_put2 (b' := bx4x8) (A' := Ax4x8) (n' := nx4x8) (c' := cx4x8) P4
      replace M2 := M2.kr KR
      replace N2 := N2.kr KR
      replace M3 := M3.kr KR
      replace N3 := N3.kr KR
      replace Vx1x1 := Vx1x1.kr KR
      replace Nx1x1 := Nx1x1.kr KR
      replace Tx1x1 := Tx1x1.kr KR
      replace Vx2x1 := Vx2x1.kr KR
      replace Nx2x1 := Nx2x1.kr KR
      replace Tx2x1 := Tx2x1.kr KR
      replace Vx4x8 := Vx4x8.kr KR
      replace Nx4x8 := Nx4x8.kr KR
      replace Tx4x8 := Tx4x8.kr KR
      replace P2 := P2.put2 (g := (w.heap.size + 1 + 1)) (b' := bx4x8) (A' := Ax4x8) (n' := nx4x8) (c' := cx4x8) (by omega)
      replace P3 := P3.put2 (g := (w.heap.size + 1 + 1)) (b' := bx4x8) (A' := Ax4x8) (n' := nx4x8) (c' := cx4x8) (by omega)
      replace BB := Below.put2 (g := (w.heap.size + 1 + 1)) (b' := bx4x8) (A' := Ax4x8) (n' := nx4x8) (c' := cx4x8) BB (by omega)
      replace P4 := P4.set2 (b' := bx4x8) (A' := Ax4x8) (n' := nx4x8) (c' := cx4x8)
      clear KR
      generalize World.setCell _ ⟨w.heap.size + 1 + 1, 1, none⟩ _ = w28 at M2 N2 M3 N3 Vx1x1 Nx1x1 Tx1x1 Vx2x1 Nx2x1 Tx2x1 Vx4x8 Nx4x8 Tx4x8 P2 P3 P4 BB ⊢
      have rc0 := P4.c0
      have rc1 := P4.c1
      exact bodyPost_ret (v := .agg #[.bool bx4x8, .slice Ax4x8 nx4x8 cx4x8]) (by simp [results, Tryz.results63, go_sem, rc0, rc1]) rfl ⟨_, rfl, BB, by rw [plus_same Sx1x1.out Sx2x1.out] at Vx4x8; exact Vx4x8⟩
theorem cOf3R (h2 : IsM w v2 z2 k2) (h3 : IsM w v3 z3 k3) (hk2 : k2 ≤ 900) (hk3 : k3 ≤ 900) (hz3 : z3 ≠ 0) : Calls Tryz.prog 41 #[v2, v3] w (Ans w fun w' v => IsQt w' v (Rat.divInt z2 z3) (max k2 k3)) := by
 have HY := Lib.hid (show z3.natAbs ≠ 0 by omega)
 have HG := Lib.hid (show Nat.gcd z2.natAbs z3.natAbs ≠ 0 from fun e => HY.out (Nat.eq_zero_of_gcd_eq_zero_right e))
 clear hz3
 have M2 := h2
 obtain ⟨b2, A2, n2, c2, rfl, y2⟩ := h2
 obtain ⟨x2, N2, hz2⟩ := y2.row
 have HZ2 := Lib.hid hz2
 clear y2 hz2
 have M3 := h3
 obtain ⟨b3, A3, n3, c3, rfl, y3⟩ := h3
 obtain ⟨x3, N3, hz3⟩ := y3.row
 have HZ3 := Lib.hid hz3
 clear y3 hz3
 have BB := (bl_trans (bl_trans (bl_alloc w (.cells #[.bool b2, .slice A2 n2 c2] 24)) (bl_alloc _ (.cells #[.bool b3, .slice A3 n3 c3] 24))) (bl_alloc _ (.cells #[.bool false, .slice none 0 0, .slice none 0 0] 26)))
 replace M2 := M2.below BB
 replace N2 := N2.below BB
 replace M3 := M3.below BB
 replace N3 := N3.below BB
 have P2 := ((Bz.new w b2 A2 n2 c2).alloc (.cells #[.bool b3, .slice A3 n3 c3] 24)).alloc (.cells #[.bool false, .slice none 0 0, .slice none 0 0] 26)
 have P3 := (Bz.new (w.alloc (.cells #[.bool b2, .slice A2 n2 c2] 24)) b3 A3 n3 c3).alloc (.cells #[.bool false, .slice none 0 0, .slice none 0 0] 26)
 simp only [hs_alloc] at P3
 have P4 := Bq.new ((w.alloc (.cells #[.bool b2, .slice A2 n2 c2] 24)).alloc (.cells #[.bool b3, .slice A3 n3 c3] 24)) false none 0 0 none 0 0
 simp only [hs_alloc] at P4
 go_enter Tryz.func41, Tryz.ntmps41
 go_upto_region 1 with (fail)
 generalize (((w.alloc (.cells #[.bool b2, .slice A2 n2 c2] 24)).alloc (.cells #[.bool b3, .slice A3 n3 c3] 24)).alloc (.cells #[.bool false, .slice none 0 0, .slice none 0 0] 26)) = w0 at M2 N2 M3 N3 P2 P3 P4 BB ⊢
 refine wp_seq 2 ?_
 simp only [List.take_succ_cons, List.take_zero, List.drop_succ_cons, List.drop_zero]
 refine wp_seq_list (Ext := RB) (Rel := RBu) [fun v _ _ => v = .agg #[.bool b2, .slice A2 n2 c2], fun v _ w => IsT w v (z2) k2] (n := 2) (by kernel_rfl) (by kernel_rfl) (by kernel_rfl) (by kernel_rfl) (by kernel_rfl) (by kernel_rfl) (by kernel_rfl) rb_refl rb_trans ⟨sC, ⟨sT, trivial⟩⟩ ?_ ?_
 ·refine ⟨⟨trivial, ?_⟩, ?_⟩
  ·refine rs_plain rfl rfl fun a wr S => ?_
   have X := rbX S.ext
   exact wp_load (ev_of ((S.old 2 (by kernel_rfl)).trans rfl)) (P2.below X) (done (by kernel_rfl) rbu_refl rfl)
  ·refine rs_plain rfl rfl fun a wr S => ?_
   have X := rbX S.ext
   obtain ⟨v0, e0, h0⟩ := S.got 0 (by kernel_rfl)
   exact st_call cf_ref03_whole (args1 ((ev_of (e0 12 (by kernel_rfl))).trans h0)) (by kernel_rfl) rb (cWhole3 (show IsM _ _ _ _ from (M2.below X)) (by omega)) (fun _ _ _ h => h)
 ·intro fw1 w1 hR hv hap
  clear hap
  replace hR := rbX hR
  have f0 : fw1 0 = .agg #[.bool b2, .slice A2 n2 c2] := (hvc (hv 0 (by omega))).elim fun _ h => h
  obtain ⟨bx1x1, Ax1x1, nx1x1, cx1x1, f1, Tx1x1, sx1x1⟩ := (show IsT w1 _ (z2) k2 from (hvc (hv 1 (by omega))).elim fun _ h => h)
  simp only [putFn, Act.put, List.setIfInBounds_toArray, List.set_cons_zero, List.set_cons_succ, f0, f1]
  replace M2 := M2.below hR
  replace N2 := N2.below hR
  replace M3 := M3.below hR
  replace N3 := N3.below hR
  replace P2 := P2.below hR
  replace P3 := P3.below hR
  replace P4 := P4.below hR
  replace BB := bl_trans BB hR
  clear hR hv
  have Vx1x1 : IsT w1 (.agg #[.bool bx1x1, .slice Ax1x1 nx1x1 cx1x1]) (z2) k2 := ⟨_, _, _, _, rfl, Tx1x1, sx1x1⟩
  have Nx1x1 := Tx1x1.nm
  have Sx1x1 := Lib.hid sx1x1
  clear sx1x1
  have r20 := P2.c0
  have t20 := P2.f 0
  have r21 := P2.c1
  have t21 := P2.f 1
  go_upto_region 2 with (fail)
  clear r20 t20 r21 t21
  have KR := kr_put2 (b' := bx1x1) (A' := Ax1x1) (n' := nx1x1) (c' := cx1x1) P2
  replace M2 := M2.kr KR
  replace N2 := N2.kr KR
  replace M3 := M3.kr KR
  replace N3 := N3.kr KR
  replace Vx1x1 := Vx1x1.kr KR
  replace Nx1x1 := Nx1x1.kr KR
  replace Tx1x1 := Tx1x1.kr KR
  replace P3 := P3.put2 (g := w.heap.size) (b' := bx1x1) (A' := Ax1x1) (n' := nx1x1) (c' := cx1x1) (by omega)
  replace P4 := P4.put2 (g := w.heap.size) (b' := bx1x1) (A' := Ax1x1) (n' := nx1x1) (c' := cx1x1) (by omega)
  replace BB := Below.put2 (g := w.heap.size) (b' := bx1x1) (A' := Ax1x1) (n' := nx1x1) (c' := cx1x1) BB (by omega)
  replace P2 := P2.set2 (b' := bx1x1) (A' := Ax1x1) (n' := nx1x1) (c' := cx1x1)
  clear KR
  generalize World.setCell _ ⟨w.heap.size, 1, none⟩ _ = w2 at M2 N2 M3 N3 Vx1x1 Nx1x1 Tx1x1 P2 P3 P4 BB ⊢
  refine wp_seq 2 ?_
  simp only [List.take_succ_cons, List.take_zero, List.drop_succ_cons, List.drop_zero]
  refine wp_seq_list (Ext := RB) (Rel := RBu) [fun v _ _ => v = .agg #[.bool b3, .slice A3 n3 c3], fun v _ w => IsT w v (z3) k3] (n := 2) (by kernel_rfl) (by kernel_rfl) (by kernel_rfl) (by kernel_rfl) (by kernel_rfl) (by kernel_rfl) (by kernel_rfl) rb_refl rb_trans ⟨sC, ⟨sT, trivial⟩⟩ ?_ ?_
  ·refine ⟨⟨trivial, ?_⟩, ?_⟩
   ·refine rs_plain rfl rfl fun a wr S => ?_
    have X := rbX S.ext
    exact wp_load (ev_of ((S.old 3 (by kernel_rfl)).trans rfl)) (P3.below X) (done (by kernel_rfl) rbu_refl rfl)
   ·refine rs_plain rfl rfl fun a wr S => ?_
    have X := rbX S.ext
    obtain ⟨v0, e0, h0⟩ := S.got 0 (by kernel_rfl)
    exact st_call cf_ref03_whole (args1 ((ev_of (e0 14 (by kernel_rfl))).trans h0)) (by kernel_rfl) rb (cWhole3 (show IsM _ _ _ _ from (M3.below X)) (by omega)) (fun _ _ _ h => h)
  ·intro fw3 w3 hR hv hap
   clear hap
   replace hR := rbX hR
   have f0 : fw3 0 = .agg #[.bool b3, .slice A3 n3 c3] := (hvc (hv 0 (by omega))).elim fun _ h => h
   obtain ⟨bx2x1, Ax2x1, nx2x1, cx2x1, f1, Tx2x1, sx2x1⟩ := (show IsT w3 _ (z3) k3 from (hvc (hv 1 (by omega))).elim fun _ h => h)
   simp only [putFn, Act.put, List.setIfInBounds_toArray, List.set_cons_zero, List.set_cons_succ, f0, f1]
   replace M2 := M2.below hR
   replace N2 := N2.below hR
   replace M3 := M3.below hR
   replace N3 := N3.below hR
   replace Vx1x1 := Vx1x1.below hR
   replace Nx1x1 := Nx1x1.below hR
   replace Tx1x1 := Tx1x1.below hR
   replace P2 := P2.below hR
   replace P3 := P3.below hR
   replace P4 := P4.below hR
   replace BB := bl_trans BB hR
   clear hR hv
   have Vx2x1 : IsT w3 (.agg #[.bool bx2x1, .slice Ax2x1 nx2x1 cx2x1]) (z3) k3 := ⟨_, _, _, _, rfl, Tx2x1, sx2x1⟩
   have Nx2x1 := Tx2x1.nm
   have Sx2x1 := Lib.hid sx2x1
   clear sx2x1
   have r30 := P3.c0
   have t30 := P3.f 0
   have r31 := P3.c1
   have t31 := P3.f 1
   go_upto_region 3 with (fail)
   clear r30 t30 r31 t31
   have KR := kr_put2 (b' := bx2x1) (A' := Ax2x1) (n' := nx2x1) (c' := cx2x1) P3
   replace M2 := M2.kr KR
   replace N2 := N2.kr KR
   replace M3 := M3.kr KR
   replace N3 := N3.kr KR
   replace Vx1x1 := Vx1x1.kr KR
   replace Nx1x1 := Nx1x1.kr KR
   replace Tx1x1 := Tx1x1.kr KR
   replace Vx2x1 := Vx2x1.kr KR
   replace Nx2x1 := Nx2x1.kr KR
   replace Tx2x1 := Tx2x1.kr KR
   replace P2 := P2.put2 (g := (w.heap.size + 1)) (b' := bx2x1) (A' := Ax2x1) (n' := nx2x1) (c' := cx2x1) (by omega)
   replace P4 := P4.put2 (g := (w.heap.size + 1)) (b' := bx2x1) (A' := Ax2x1) (n' := nx2x1) (c' := cx2x1) (by omega)
   replace BB := Below.put2 (g := (w.heap.size + 1)) (b' := bx2x1) (A' := Ax2x1) (n' := nx2x1) (c' := cx2x1) BB (by omega)
   replace P3 := P3.set2 (b' := bx2x1) (A' := Ax2x1) (n' := nx2x1) (c' := cx2x1)
   clear KR
   generalize World.setCell _ ⟨w.heap.size + 1, 1, none⟩ _ = w4 at M2 N2 M3 N3 Vx1x1 Nx1x1 Tx1x1 Vx2x1 Nx2x1 Tx2x1 P2 P3 P4 BB ⊢
   refine wp_seq 6 ?_
   simp only [List.take_succ_cons, List.take_zero, List.drop_succ_cons, List.drop_zero]
   refine wp_seq_list (Ext := RB) (Rel := RBu) [fun v _ _ => v = .pointer (some ⟨w.heap.size, 1, none⟩), fun v _ _ => v = .slice Ax1x1 nx1x1 cx1x1, fun v _ _ => v = .pointer (some ⟨(w.heap.size + 1), 1, none⟩), fun v _ _ => v = .slice Ax2x1 nx2x1 cx2x1, fun v _ w => IsTr w v (Nat.gcd z2.natAbs z3.natAbs) (max k2 k3), fun v _ w => IsTr w v (Nat.gcd z2.natAbs z3.natAbs) (max k2 k3)] (n := 6) (by kernel_rfl) (by kernel_rfl) (by kernel_rfl) (by kernel_rfl) (by kernel_rfl) (by kernel_rfl) (by kernel_rfl) rb_refl rb_trans ⟨sC, ⟨sC, ⟨sC, ⟨sC, ⟨sTr, ⟨sTr, trivial⟩⟩⟩⟩⟩⟩ ?_ ?_
   ·refine ⟨⟨⟨⟨⟨⟨trivial, ?_⟩, ?_⟩, ?_⟩, ?_⟩, ?_⟩, ?_⟩
    ·refine rs_plain rfl rfl fun a wr S => ?_
     have X := rbX S.ext
     exact wp_field1 (ev_of ((S.old 2 (by kernel_rfl)).trans rfl)) (done (by kernel_rfl) rbu_refl rfl)
    ·refine rs_plain rfl rfl fun a wr S => ?_
     have X := rbX S.ext
     obtain ⟨v0, e0, h0⟩ := S.got 0 (by kernel_rfl)
     exact wp_loadM ((ev_of (e0 16 (by kernel_rfl))).trans h0) (P2.below X) (done (by kernel_rfl) rbu_refl rfl)
    ·refine rs_plain rfl rfl fun a wr S => ?_
     have X := rbX S.ext
     exact wp_field1 (ev_of ((S.old 3 (by kernel_rfl)).trans rfl)) (done (by kernel_rfl) rbu_refl rfl)
    ·refine rs_plain rfl rfl fun a wr S => ?_
     have X := rbX S.ext
     obtain ⟨v2, e2, h2⟩ := S.got 2 (by kernel_rfl)
     exact wp_loadM ((ev_of (e2 18 (by kernel_rfl))).trans h2) (P3.below X) (done (by kernel_rfl) rbu_refl rfl)
    ·refine rs_plain rfl rfl fun a wr S => ?_
     have X := rbX S.ext
     obtain ⟨v1, e1, h1⟩ := S.got 1 (by kernel_rfl)
     obtain ⟨v3, e3, h3⟩ := S.got 3 (by kernel_rfl)
     exact st_call cf_ref01_Gcd (args2 ((ev_of (e1 17 (by kernel_rfl))).trans h1) ((ev_of (e3 19 (by kernel_rfl))).trans h3)) (by kernel_rfl) rb (rGcd ⟨_, _, _, rfl, Nx1x1.below X⟩ ⟨_, _, _, rfl, Nx2x1.below X⟩ (by omega) (by omega)) (fun _ _ _ h => h)
    ·refine rs_plain rfl rfl fun a wr S => ?_
     have X := rbX S.ext
     obtain ⟨v4, e4, h4⟩ := S.got 4 (by kernel_rfl)
     exact wp_as (ev_of (e4 20 (by kernel_rfl))) (done (by kernel_rfl) rbu_refl h4)
   ·intro fw5 w5 hR hv hap
    clear hap
    replace hR := rbX hR
    have f0 : fw5 0 = .pointer (some ⟨w.heap.size, 1, none⟩) := (hvc (hv 0 (by omega))).elim fun _ h => h
    have f1 : fw5 1 = .slice Ax1x1 nx1x1 cx1x1 := (hvc (hv 1 (by omega))).elim fun _ h => h
    have f2 : fw5 2 = .pointer (some ⟨(w.heap.size + 1), 1, none⟩) := (hvc (hv 2 (by omega))).elim fun _ h => h
    have f3 : fw5 3 = .slice Ax2x1 nx2x1 cx2x1 := (hvc (hv 3 (by omega))).elim fun _ h => h
    obtain ⟨Ax3x5, nx3x5, cx3x5, f5, Tx3x5⟩ := (show IsTr w5 _ (Nat.gcd z2.natAbs z3.natAbs) (max k2 k3) from (hvc (hv 5 (by omega))).elim fun _ h => h)
    simp only [putFn, Act.put, List.setIfInBounds_toArray, List.set_cons_zero, List.set_cons_succ, f0, f1, f2, f3, f5]
    replace M2 := M2.below hR
    replace N2 := N2.below hR
    replace M3 := M3.below hR
    replace N3 := N3.below hR
    replace Vx1x1 := Vx1x1.below hR
    replace Nx1x1 := Nx1x1.below hR
    replace Tx1x1 := Tx1x1.below hR
    replace Vx2x1 := Vx2x1.below hR
    replace Nx2x1 := Nx2x1.below hR
    replace Tx2x1 := Tx2x1.below hR
    replace P2 := P2.below hR
    replace P3 := P3.below hR
    replace P4 := P4.below hR
    replace BB := bl_trans BB hR
    clear hR hv
    have Nx3x5 := Tx3x5.nm
    go_upto_region 4 with (fail)
    refine wp_seq 11 ?_
    simp only [List.take_succ_cons, List.take_zero, List.drop_succ_cons, List.drop_zero]
    refine wp_seq_list (Ext := RB) (Rel := RBu) [fun v _ _ => v = .pointer (some ⟨w.heap.size, 1, none⟩), fun v _ _ => v = .slice Ax1x1 nx1x1 cx1x1, fun v _ _ => v = .slice Ax3x5 nx3x5 cx3x5, fun v _ w => IsTD w v (z2.natAbs / (Nat.gcd z2.natAbs z3.natAbs)) k2 (z2.natAbs % (Nat.gcd z2.natAbs z3.natAbs)) (max k2 k3) 0, fun v _ w => IsTD w v (z2.natAbs / (Nat.gcd z2.natAbs z3.natAbs)) k2 (z2.natAbs % (Nat.gcd z2.natAbs z3.natAbs)) (max k2 k3) 0, fun v _ w => IsTr w v (z2.natAbs / (Nat.gcd z2.natAbs z3.natAbs)) k2, fun v _ w => IsTr w v (z2.natAbs % (Nat.gcd z2.natAbs z3.natAbs)) (max k2 k3), fun v _ _ => v = .int .i64 0, fun v _ w => IsTr w v (z2.natAbs / (Nat.gcd z2.natAbs z3.natAbs)) k2, fun v _ w => IsTr w v (z2.natAbs % (Nat.gcd z2.natAbs z3.natAbs)) (max k2 k3), fun v _ _ => v = .int .i64 0] (n := 11) (by kernel_rfl) (by kernel_rfl) (by kernel_rfl) (by kernel_rfl) (by kernel_rfl) (by kernel_rfl) (by kernel_rfl) rb_refl rb_trans ⟨sC, ⟨sC, ⟨sC, ⟨sTD, ⟨sTD, ⟨sTr, ⟨sTr, ⟨sC, ⟨sTr, ⟨sTr, ⟨sC, trivial⟩⟩⟩⟩⟩⟩⟩⟩⟩⟩⟩ ?_ ?_
    ·refine ⟨⟨⟨⟨⟨⟨⟨⟨⟨⟨⟨trivial, ?_⟩, ?_⟩, ?_⟩, ?_⟩, ?_⟩, ?_⟩, ?_⟩, ?_⟩, ?_⟩, ?_⟩, ?_⟩
     ·refine rs_plain rfl rfl fun a wr S => ?_
      have X := rbX S.ext
      exact wp_field1 (ev_of ((S.old 2 (by kernel_rfl)).trans rfl)) (done (by kernel_rfl) rbu_refl rfl)
     ·refine rs_plain rfl rfl fun a wr S => ?_
      have X := rbX S.ext
      obtain ⟨v0, e0, h0⟩ := S.got 0 (by kernel_rfl)
      exact wp_loadM ((ev_of (e0 22 (by kernel_rfl))).trans h0) (P2.below X) (done (by kernel_rfl) rbu_refl rfl)
     ·refine rs_plain rfl rfl fun a wr S => ?_
      have X := rbX S.ext
      exact wp_mv (ev_of ((S.old 5 (by kernel_rfl)).trans rfl)) (done (by kernel_rfl) rbu_refl rfl)
     ·refine rs_plain rfl rfl fun a wr S => ?_
      have X := rbX S.ext
      obtain ⟨v1, e1, h1⟩ := S.got 1 (by kernel_rfl)
      obtain ⟨v2, e2, h2⟩ := S.got 2 (by kernel_rfl)
      exact st_call cf_ref01_Div (args2 ((ev_of (e1 23 (by kernel_rfl))).trans h1) ((ev_of (e2 24 (by kernel_rfl))).trans h2)) (by kernel_rfl) rb (rDiv ⟨_, _, _, rfl, Nx1x1.below X⟩ ⟨_, _, _, rfl, Nx3x5.below X⟩ (by omega) (by omega) HG.out) (fun _ _ _ h => h)
     ·refine rs_plain rfl rfl fun a wr S => ?_
      have X := rbX S.ext
      obtain ⟨v3, e3, h3⟩ := S.got 3 (by kernel_rfl)
      exact wp_mv (ev_of (e3 25 (by kernel_rfl))) (done (by kernel_rfl) rbu_refl h3)
     ·refine rs_plain rfl rfl fun a wr S => ?_
      have X := rbX S.ext
      obtain ⟨v4, e4, h4⟩ := S.got 4 (by kernel_rfl)
      obtain ⟨AA, nn, cc, A', n', c', hvv, TT, UU⟩ := (show IsTD wr _ (z2.natAbs / (Nat.gcd z2.natAbs z3.natAbs)) k2 (z2.natAbs % (Nat.gcd z2.natAbs z3.natAbs)) (max k2 k3) 0 from h4)
      exact wp_x30 ((ev_of (e4 21 (by kernel_rfl))).trans hvv) (done (by kernel_rfl) rbu_refl ⟨_, _, _, rfl, TT⟩)
     ·refine rs_plain rfl rfl fun a wr S => ?_
      have X := rbX S.ext
      obtain ⟨v4, e4, h4⟩ := S.got 4 (by kernel_rfl)
      obtain ⟨AA, nn, cc, A', n', c', hvv, TT, UU⟩ := (show IsTD wr _ (z2.natAbs / (Nat.gcd z2.natAbs z3.natAbs)) k2 (z2.natAbs % (Nat.gcd z2.natAbs z3.natAbs)) (max k2 k3) 0 from h4)
      exact wp_x31 ((ev_of (e4 21 (by kernel_rfl))).trans hvv) (done (by kernel_rfl) rbu_refl ⟨_, _, _, rfl, UU⟩)
     ·refine rs_plain rfl rfl fun a wr S => ?_
      have X := rbX S.ext
      obtain ⟨v4, e4, h4⟩ := S.got 4 (by kernel_rfl)
      obtain ⟨AA, nn, cc, A', n', c', hvv, TT, UU⟩ := (show IsTD wr _ (z2.natAbs / (Nat.gcd z2.natAbs z3.natAbs)) k2 (z2.natAbs % (Nat.gcd z2.natAbs z3.natAbs)) (max k2 k3) 0 from h4)
      exact wp_x32 ((ev_of (e4 21 (by kernel_rfl))).trans hvv) (done (by kernel_rfl) rbu_refl rfl)
     ·refine rs_plain rfl rfl fun a wr S => ?_
      have X := rbX S.ext
      obtain ⟨v5, e5, h5⟩ := S.got 5 (by kernel_rfl)
      exact wp_as (ev_of (e5 26 (by kernel_rfl))) (done (by kernel_rfl) rbu_refl h5)
     ·refine rs_plain rfl rfl fun a wr S => ?_
      have X := rbX S.ext
      obtain ⟨v6, e6, h6⟩ := S.got 6 (by kernel_rfl)
      exact wp_as (ev_of (e6 27 (by kernel_rfl))) (done (by kernel_rfl) rbu_refl h6)
     ·refine rs_plain rfl rfl fun a wr S => ?_
      have X := rbX S.ext
      obtain ⟨v7, e7, h7⟩ := S.got 7 (by kernel_rfl)
      exact wp_as ((ev_of (e7 28 (by kernel_rfl))).trans h7) (done (by kernel_rfl) rbu_refl rfl)
    ·intro fw6 w6 hR hv hap
     clear hap
     replace hR := rbX hR
     have f0 : fw6 0 = .pointer (some ⟨w.heap.size, 1, none⟩) := (hvc (hv 0 (by omega))).elim fun _ h => h
     have f1 : fw6 1 = .slice Ax1x1 nx1x1 cx1x1 := (hvc (hv 1 (by omega))).elim fun _ h => h
     have f2 : fw6 2 = .slice Ax3x5 nx3x5 cx3x5 := (hvc (hv 2 (by omega))).elim fun _ h => h
     have f7 : fw6 7 = .int .i64 0 := (hvc (hv 7 (by omega))).elim fun _ h => h
     have f10 : fw6 10 = .int .i64 0 := (hvc (hv 10 (by omega))).elim fun _ h => h
     obtain ⟨Ax4x8, nx4x8, cx4x8, f8, Tx4x8⟩ := (show IsTr w6 _ (z2.natAbs / (Nat.gcd z2.natAbs z3.natAbs)) k2 from (hvc (hv 8 (by omega))).elim fun _ h => h)
     obtain ⟨Ax4x9, nx4x9, cx4x9, f9, Tx4x9⟩ := (show IsTr w6 _ (z2.natAbs % (Nat.gcd z2.natAbs z3.natAbs)) (max k2 k3) from (hvc (hv 9 (by omega))).elim fun _ h => h)
     simp only [putFn, Act.put, List.setIfInBounds_toArray, List.set_cons_zero, List.set_cons_succ, f0, f1, f2, f7, f10, f8, f9]
     replace M2 := M2.below hR
     replace N2 := N2.below hR
     replace M3 := M3.below hR
     replace N3 := N3.below hR
     replace Vx1x1 := Vx1x1.below hR
     replace Nx1x1 := Nx1x1.below hR
     replace Tx1x1 := Tx1x1.below hR
     replace Vx2x1 := Vx2x1.below hR
     replace Nx2x1 := Nx2x1.below hR
     replace Tx2x1 := Tx2x1.below hR
     replace Nx3x5 := Nx3x5.below hR
     replace Tx3x5 := Tx3x5.below hR
     replace P2 := P2.below hR
     replace P3 := P3.below hR
     replace P4 := P4.below hR
     replace BB := bl_trans BB hR
     clear hR hv
     have Nx4x8 := Tx4x8.nm
     have Nx4x9 := Tx4x9.nm
     go_upto_region 5 with (fail)
     refine wp_seq 11 ?_
     simp only [List.take_succ_cons, List.take_zero, List.drop_succ_cons, List.drop_zero]
     refine wp_seq_list (Ext := RB) (Rel := RBu) [fun v _ _ => v = .pointer (some ⟨(w.heap.size + 1), 1, none⟩), fun v _ _ => v = .slice Ax2x1 nx2x1 cx2x1, fun v _ _ => v = .slice Ax3x5 nx3x5 cx3x5, fun v _ w => IsTD w v (z3.natAbs / (Nat.gcd z2.natAbs z3.natAbs)) k3 (z3.natAbs % (Nat.gcd z2.natAbs z3.natAbs)) (max k2 k3) 0, fun v _ w => IsTD w v (z3.natAbs / (Nat.gcd z2.natAbs z3.natAbs)) k3 (z3.natAbs % (Nat.gcd z2.natAbs z3.natAbs)) (max k2 k3) 0, fun v _ w => IsTr w v (z3.natAbs / (Nat.gcd z2.natAbs z3.natAbs)) k3, fun v _ w => IsTr w v (z3.natAbs % (Nat.gcd z2.natAbs z3.natAbs)) (max k2 k3), fun v _ _ => v = .int .i64 0, fun v _ w => IsTr w v (z3.natAbs / (Nat.gcd z2.natAbs z3.natAbs)) k3, fun v _ w => IsTr w v (z3.natAbs % (Nat.gcd z2.natAbs z3.natAbs)) (max k2 k3), fun v _ _ => v = .int .i64 0] (n := 11) (by kernel_rfl) (by kernel_rfl) (by kernel_rfl) (by kernel_rfl) (by kernel_rfl) (by kernel_rfl) (by kernel_rfl) rb_refl rb_trans ⟨sC, ⟨sC, ⟨sC, ⟨sTD, ⟨sTD, ⟨sTr, ⟨sTr, ⟨sC, ⟨sTr, ⟨sTr, ⟨sC, trivial⟩⟩⟩⟩⟩⟩⟩⟩⟩⟩⟩ ?_ ?_
     ·refine ⟨⟨⟨⟨⟨⟨⟨⟨⟨⟨⟨trivial, ?_⟩, ?_⟩, ?_⟩, ?_⟩, ?_⟩, ?_⟩, ?_⟩, ?_⟩, ?_⟩, ?_⟩, ?_⟩
      ·refine rs_plain rfl rfl fun a wr S => ?_
       have X := rbX S.ext
       exact wp_field1 (ev_of ((S.old 3 (by kernel_rfl)).trans rfl)) (done (by kernel_rfl) rbu_refl rfl)
      ·refine rs_plain rfl rfl fun a wr S => ?_
       have X := rbX S.ext
       obtain ⟨v0, e0, h0⟩ := S.got 0 (by kernel_rfl)
       exact wp_loadM ((ev_of (e0 30 (by kernel_rfl))).trans h0) (P3.below X) (done (by kernel_rfl) rbu_refl rfl)
      ·refine rs_plain rfl rfl fun a wr S => ?_
       have X := rbX S.ext
       exact wp_mv (ev_of ((S.old 5 (by kernel_rfl)).trans rfl)) (done (by kernel_rfl) rbu_refl rfl)
      ·refine rs_plain rfl rfl fun a wr S => ?_
       have X := rbX S.ext
       obtain ⟨v1, e1, h1⟩ := S.got 1 (by kernel_rfl)
       obtain ⟨v2, e2, h2⟩ := S.got 2 (by kernel_rfl)
       exact st_call cf_ref01_Div (args2 ((ev_of (e1 31 (by kernel_rfl))).trans h1) ((ev_of (e2 32 (by kernel_rfl))).trans h2)) (by kernel_rfl) rb (rDiv ⟨_, _, _, rfl, Nx2x1.below X⟩ ⟨_, _, _, rfl, Nx3x5.below X⟩ (by omega) (by omega) HG.out) (fun _ _ _ h => h)
      ·refine rs_plain rfl rfl fun a wr S => ?_
       have X := rbX S.ext
       obtain ⟨v3, e3, h3⟩ := S.got 3 (by kernel_rfl)
       exact wp_mv (ev_of (e3 33 (by kernel_rfl))) (done (by kernel_rfl) rbu_refl h3)
      ·refine rs_plain rfl rfl fun a wr S => ?_
       have X := rbX S.ext
       obtain ⟨v4, e4, h4⟩ := S.got 4 (by kernel_rfl)
       obtain ⟨AA, nn, cc, A', n', c', hvv, TT, UU⟩ := (show IsTD wr _ (z3.natAbs / (Nat.gcd z2.natAbs z3.natAbs)) k3 (z3.natAbs % (Nat.gcd z2.natAbs z3.natAbs)) (max k2 k3) 0 from h4)
       exact wp_x30 ((ev_of (e4 29 (by kernel_rfl))).trans hvv) (done (by kernel_rfl) rbu_refl ⟨_, _, _, rfl, TT⟩)
      ·refine rs_plain rfl rfl fun a wr S => ?_
       have X := rbX S.ext
       obtain ⟨v4, e4, h4⟩ := S.got 4 (by kernel_rfl)
       obtain ⟨AA, nn, cc, A', n', c', hvv, TT, UU⟩ := (show IsTD wr _ (z3.natAbs / (Nat.gcd z2.natAbs z3.natAbs)) k3 (z3.natAbs % (Nat.gcd z2.natAbs z3.natAbs)) (max k2 k3) 0 from h4)
       exact wp_x31 ((ev_of (e4 29 (by kernel_rfl))).trans hvv) (done (by kernel_rfl) rbu_refl ⟨_, _, _, rfl, UU⟩)
      ·refine rs_plain rfl rfl fun a wr S => ?_
       have X := rbX S.ext
       obtain ⟨v4, e4, h4⟩ := S.got 4 (by kernel_rfl)
       obtain ⟨AA, nn, cc, A', n', c', hvv, TT, UU⟩ := (show IsTD wr _ (z3.natAbs / (Nat.gcd z2.natAbs z3.natAbs)) k3 (z3.natAbs % (Nat.gcd z2.natAbs z3.natAbs)) (max k2 k3) 0 from h4)
       exact wp_x32 ((ev_of (e4 29 (by kernel_rfl))).trans hvv) (done (by kernel_rfl) rbu_refl rfl)
      ·refine rs_plain rfl rfl fun a wr S => ?_
       have X := rbX S.ext
       obtain ⟨v5, e5, h5⟩ := S.got 5 (by kernel_rfl)
       exact wp_as (ev_of (e5 34 (by kernel_rfl))) (done (by kernel_rfl) rbu_refl h5)
      ·refine rs_plain rfl rfl fun a wr S => ?_
       have X := rbX S.ext
       obtain ⟨v6, e6, h6⟩ := S.got 6 (by kernel_rfl)
       exact wp_as (ev_of (e6 35 (by kernel_rfl))) (done (by kernel_rfl) rbu_refl h6)
      ·refine rs_plain rfl rfl fun a wr S => ?_
       have X := rbX S.ext
       obtain ⟨v7, e7, h7⟩ := S.got 7 (by kernel_rfl)
       exact wp_as ((ev_of (e7 36 (by kernel_rfl))).trans h7) (done (by kernel_rfl) rbu_refl rfl)
     ·intro fw7 w7 hR hv hap
      clear hap
      replace hR := rbX hR
      have f0 : fw7 0 = .pointer (some ⟨(w.heap.size + 1), 1, none⟩) := (hvc (hv 0 (by omega))).elim fun _ h => h
      have f1 : fw7 1 = .slice Ax2x1 nx2x1 cx2x1 := (hvc (hv 1 (by omega))).elim fun _ h => h
      have f2 : fw7 2 = .slice Ax3x5 nx3x5 cx3x5 := (hvc (hv 2 (by omega))).elim fun _ h => h
      have f7 : fw7 7 = .int .i64 0 := (hvc (hv 7 (by omega))).elim fun _ h => h
      have f10 : fw7 10 = .int .i64 0 := (hvc (hv 10 (by omega))).elim fun _ h => h
      obtain ⟨Ax5x8, nx5x8, cx5x8, f8, Tx5x8⟩ := (show IsTr w7 _ (z3.natAbs / (Nat.gcd z2.natAbs z3.natAbs)) k3 from (hvc (hv 8 (by omega))).elim fun _ h => h)
      obtain ⟨Ax5x9, nx5x9, cx5x9, f9, Tx5x9⟩ := (show IsTr w7 _ (z3.natAbs % (Nat.gcd z2.natAbs z3.natAbs)) (max k2 k3) from (hvc (hv 9 (by omega))).elim fun _ h => h)
      simp only [putFn, Act.put, List.setIfInBounds_toArray, List.set_cons_zero, List.set_cons_succ, f0, f1, f2, f7, f10, f8, f9]
      replace M2 := M2.below hR
      replace N2 := N2.below hR
      replace M3 := M3.below hR
      replace N3 := N3.below hR
      replace Vx1x1 := Vx1x1.below hR
      replace Nx1x1 := Nx1x1.below hR
      replace Tx1x1 := Tx1x1.below hR
      replace Vx2x1 := Vx2x1.below hR
      replace Nx2x1 := Nx2x1.below hR
      replace Tx2x1 := Tx2x1.below hR
      replace Nx3x5 := Nx3x5.below hR
      replace Tx3x5 := Tx3x5.below hR
      replace Nx4x8 := Nx4x8.below hR
      replace Tx4x8 := Tx4x8.below hR
      replace Nx4x9 := Nx4x9.below hR
      replace Tx4x9 := Tx4x9.below hR
      replace P2 := P2.below hR
      replace P3 := P3.below hR
      replace P4 := P4.below hR
      replace BB := bl_trans BB hR
      clear hR hv
      have Nx5x8 := Tx5x8.nm
      have Nx5x9 := Tx5x9.nm
      go_upto_region 6 with (fail)
      have HN := Lib.hid (of_num Sx1x1.out Sx2x1.out HY.out)
      have HD := Lib.hid (of_den Sx1x1.out Sx2x1.out HY.out)
      refine wp_seq 10 ?_
      simp only [List.take_succ_cons, List.take_zero, List.drop_succ_cons, List.drop_zero]
      refine wp_seq_list (Ext := RB) (Rel := RBu) [fun v _ _ => v = .pointer (some ⟨w.heap.size, 0, none⟩), fun v _ _ => v = .bool bx1x1, fun v _ _ => v = .pointer (some ⟨(w.heap.size + 1), 0, none⟩), fun v _ _ => v = .bool bx2x1, fun v _ _ => v = .bool (bx1x1 != bx2x1), fun v _ _ => v = .slice Ax4x8 nx4x8 cx4x8, fun v _ w => IsM w v (zv ((bx1x1 != bx2x1)) (z2.natAbs / (Nat.gcd z2.natAbs z3.natAbs))) k2, fun v _ w => IsT w v (zv ((bx1x1 != bx2x1)) (z2.natAbs / (Nat.gcd z2.natAbs z3.natAbs))) k2, fun v _ _ => v = .slice Ax5x8 nx5x8 cx5x8, fun v _ w => IsQt w v (Rat.divInt z2 z3) (max k2 k3)] (n := 10) (by kernel_rfl) (by kernel_rfl) (by kernel_rfl) (by kernel_rfl) (by kernel_rfl) (by kernel_rfl) (by kernel_rfl) rb_refl rb_trans ⟨sC, ⟨sC, ⟨sC, ⟨sC, ⟨sC, ⟨sC, ⟨sM, ⟨sT, ⟨sC, ⟨sQt, trivial⟩⟩⟩⟩⟩⟩⟩⟩⟩⟩ ?_ ?_
      ·refine ⟨⟨⟨⟨⟨⟨⟨⟨⟨⟨trivial, ?_⟩, ?_⟩, ?_⟩, ?_⟩, ?_⟩, ?_⟩, ?_⟩, ?_⟩, ?_⟩, ?_⟩
       ·refine rs_plain rfl rfl fun a wr S => ?_
        have X := rbX S.ext
        exact wp_field0 (ev_of ((S.old 2 (by kernel_rfl)).trans rfl)) (done (by kernel_rfl) rbu_refl rfl)
       ·refine rs_plain rfl rfl fun a wr S => ?_
        have X := rbX S.ext
        obtain ⟨v0, e0, h0⟩ := S.got 0 (by kernel_rfl)
        exact wp_loadB ((ev_of (e0 37 (by kernel_rfl))).trans h0) (P2.below X) (done (by kernel_rfl) rbu_refl rfl)
       ·refine rs_plain rfl rfl fun a wr S => ?_
        have X := rbX S.ext
        exact wp_field0 (ev_of ((S.old 3 (by kernel_rfl)).trans rfl)) (done (by kernel_rfl) rbu_refl rfl)
       ·refine rs_plain rfl rfl fun a wr S => ?_
        have X := rbX S.ext
        obtain ⟨v2, e2, h2⟩ := S.got 2 (by kernel_rfl)
        exact wp_loadB ((ev_of (e2 39 (by kernel_rfl))).trans h2) (P3.below X) (done (by kernel_rfl) rbu_refl rfl)
       ·refine rs_plain rfl rfl fun a wr S => ?_
        have X := rbX S.ext
        obtain ⟨v1, e1, h1⟩ := S.got 1 (by kernel_rfl)
        obtain ⟨v3, e3, h3⟩ := S.got 3 (by kernel_rfl)
        exact wp_neB ((ev_of (e1 38 (by kernel_rfl))).trans h1) ((ev_of (e3 40 (by kernel_rfl))).trans h3) (done (by kernel_rfl) rbu_refl rfl)
       ·refine rs_plain rfl rfl fun a wr S => ?_
        have X := rbX S.ext
        exact wp_mv (ev_of ((S.old 6 (by kernel_rfl)).trans rfl)) (done (by kernel_rfl) rbu_refl rfl)
       ·refine rs_plain rfl rfl fun a wr S => ?_
        have X := rbX S.ext
        obtain ⟨v4, e4, h4⟩ := S.got 4 (by kernel_rfl)
        obtain ⟨v5, e5, h5⟩ := S.got 5 (by kernel_rfl)
        exact wp_bZ ((ev_of (e4 41 (by kernel_rfl))).trans h4) ((ev_of (e5 42 (by kernel_rfl))).trans h5) (done (by kernel_rfl) rbu_refl ⟨_, _, _, _, rfl, ⟨⟨_, Nx4x8.below X, rfl⟩⟩⟩)
       ·refine rs_plain rfl rfl fun a wr S => ?_
        have X := rbX S.ext
        obtain ⟨v6, e6, h6⟩ := S.got 6 (by kernel_rfl)
        exact st_call cf_ref03_whole (args1 (ev_of (e6 43 (by kernel_rfl)))) (by kernel_rfl) rb (cWhole3 (show IsM _ _ _ _ from h6) (by omega)) (fun _ _ _ h => h)
       ·refine rs_plain rfl rfl fun a wr S => ?_
        have X := rbX S.ext
        exact wp_mv (ev_of ((S.old 9 (by kernel_rfl)).trans rfl)) (done (by kernel_rfl) rbu_refl rfl)
       ·refine rs_plain rfl rfl fun a wr S => ?_
        have X := rbX S.ext
        obtain ⟨v7, e7, h7⟩ := S.got 7 (by kernel_rfl)
        obtain ⟨v8, e8, h8⟩ := S.got 8 (by kernel_rfl)
        obtain ⟨bb, AA, nn, cc, hvv, TT, ss⟩ := (show IsT wr _ (zv ((bx1x1 != bx2x1)) (z2.natAbs / (Nat.gcd z2.natAbs z3.natAbs))) k2 from h7)
        exact wp_bQ ((ev_of (e7 44 (by kernel_rfl))).trans hvv) ((ev_of (e8 45 (by kernel_rfl))).trans h8) (done (by kernel_rfl) rbu_refl ⟨_, _, _, _, _, _, _, rfl, by rw [← HN.out]; exact ⟨TT.rd, by have := TT.le; omega⟩, by rw [← HN.out]; exact ss, by rw [← HD.out]; exact ⟨(Tx5x8.below X).rd, by have := Tx5x8.le; omega⟩⟩)
      ·intro fw8 w8 hR hv hap
       clear hap
       replace hR := rbX hR
       have f0 : fw8 0 = .pointer (some ⟨w.heap.size, 0, none⟩) := (hvc (hv 0 (by omega))).elim fun _ h => h
       have f1 : fw8 1 = .bool bx1x1 := (hvc (hv 1 (by omega))).elim fun _ h => h
       have f2 : fw8 2 = .pointer (some ⟨(w.heap.size + 1), 0, none⟩) := (hvc (hv 2 (by omega))).elim fun _ h => h
       have f3 : fw8 3 = .bool bx2x1 := (hvc (hv 3 (by omega))).elim fun _ h => h
       have f4 : fw8 4 = .bool (bx1x1 != bx2x1) := (hvc (hv 4 (by omega))).elim fun _ h => h
       have f5 : fw8 5 = .slice Ax4x8 nx4x8 cx4x8 := (hvc (hv 5 (by omega))).elim fun _ h => h
       have f8 : fw8 8 = .slice Ax5x8 nx5x8 cx5x8 := (hvc (hv 8 (by omega))).elim fun _ h => h
       obtain ⟨bx6x9, Ax6x9, nx6x9, cx6x9, Bx6x9, mx6x9, dx6x9, f9, Tx6x9⟩ := (show IsQt w8 _ (Rat.divInt z2 z3) (max k2 k3) from (hvc (hv 9 (by omega))).elim fun _ h => h).opened
       simp only [putFn, Act.put, List.setIfInBounds_toArray, List.set_cons_zero, List.set_cons_succ, f0, f1, f2, f3, f4, f5, f8, f9]
       replace M2 := M2.below hR
       replace N2 := N2.below hR
       replace M3 := M3.below hR
       replace N3 := N3.below hR
       replace Vx1x1 := Vx1x1.below hR
       replace Nx1x1 := Nx1x1.below hR
       replace Tx1x1 := Tx1x1.below hR
       replace Vx2x1 := Vx2x1.below hR
       replace Nx2x1 := Nx2x1.below hR
       replace Tx2x1 := Tx2x1.below hR
       replace Nx3x5 := Nx3x5.below hR
       replace Tx3x5 := Tx3x5.below hR
       replace Nx4x8 := Nx4x8.below hR
       replace Tx4x8 := Tx4x8.below hR
       replace Nx4x9 := Nx4x9.below hR
       replace Tx4x9 := Tx4x9.below hR
       replace Nx5x8 := Nx5x8.below hR
       replace Tx5x8 := Tx5x8.below hR
       replace Nx5x9 := Nx5x9.below hR
       replace Tx5x9 := Tx5x9.below hR
       replace P2 := P2.below hR
       replace P3 := P3.below hR
       replace P4 := P4.below hR
       replace BB := bl_trans BB hR
       clear hR hv
       have r40 := P4.c0
       have t40 := P4.f 0
       have r41 := P4.c1
       have t41 := P4.f 1
       have r42 := P4.c2
       have t42 := P4.f 2
       go_wp2_with fail
       clear r40 t40 r41 t41 r42 t42
       have KR := kr_put3 (b' := bx6x9) (A' := Ax6x9) (n' := nx6x9) (c' := cx6x9) (B' := Bx6x9) (m' := mx6x9) (d' := dx6x9) P4
       replace M2 := M2.kr KR
       replace N2 := N2.kr KR
       replace M3 := M3.kr KR
       replace N3 := N3.kr KR
       replace Vx1x1 := Vx1x1.kr KR
       replace Nx1x1 := Nx1x1.kr KR
       replace Tx1x1 := Tx1x1.kr KR
       replace Vx2x1 := Vx2x1.kr KR
       replace Nx2x1 := Nx2x1.kr KR
       replace Tx2x1 := Tx2x1.kr KR
       replace Nx3x5 := Nx3x5.kr KR
       replace Tx3x5 := Tx3x5.kr KR
       replace Nx4x8 := Nx4x8.kr KR
       replace Tx4x8 := Tx4x8.kr KR
       replace Nx4x9 := Nx4x9.kr KR
       replace Tx4x9 := Tx4x9.kr KR
       replace Nx5x8 := Nx5x8.kr KR
       replace Tx5x8 := Tx5x8.kr KR
       replace Nx5x9 := Nx5x9.kr KR
       replace Tx5x9 := Tx5x9.kr KR
       replace Tx6x9 := Tx6x9.kr KR
       replace P2 := P2.put3 (g := (w.heap.size + 1 + 1)) (b' := bx6x9) (A' := Ax6x9) (n' := nx6x9) (c' := cx6x9) (B' := Bx6x9) (m' := mx6x9) (d' := dx6x9) (by omega)
       replace P3 := P3.put3 (g := (w.heap.size + 1 + 1)) (b' := bx6x9) (A' := Ax6x9) (n' := nx6x9) (c' := cx6x9) (B' := Bx6x9) (m' := mx6x9) (d' := dx6x9) (by omega)
       replace BB := Below.put3 (g := (w.heap.size + 1 + 1)) (b' := bx6x9) (A' := Ax6x9) (n' := nx6x9) (c' := cx6x9) (B' := Bx6x9) (m' := mx6x9) (d' := dx6x9) BB (by omega)
       replace P4 := P4.set3 (b' := bx6x9) (A' := Ax6x9) (n' := nx6x9) (c' := cx6x9) (B' := Bx6x9) (m' := mx6x9) (d' := dx6x9)
       clear KR
       generalize World.setCell _ ⟨w.heap.size + 1 + 1, 2, none⟩ _ = w9 at M2 N2 M3 N3 Vx1x1 Nx1x1 Tx1x1 Vx2x1 Nx2x1 Tx2x1 Nx3x5 Tx3x5 Nx4x8 Tx4x8 Nx4x9 Tx4x9 Nx5x8 Tx5x8 Nx5x9 Tx5x9 Tx6x9 P2 P3 P4 BB ⊢
       have rc0 := P4.c0
       have rc1 := P4.c1
       have rc2 := P4.c2
       exact bodyPost_ret (v := .agg #[.bool bx6x9, .slice Ax6x9 nx6x9 cx6x9, .slice Bx6x9 mx6x9 dx6x9]) (by simp [results, Tryz.results41, go_sem, rc0, rc1, rc2]) rfl ⟨_, rfl, BB, Tx6x9⟩
end
end Go.Proofs.YtbhgbilhoonopaaGreat
