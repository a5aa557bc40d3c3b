/- nat.product where both rows have 40 limbs; nat.Mul of numbers of at most 40 limbs; in numbers alone. -/
import Derived.Test.YthjgonfohjgfaaaWConcat
import Derived.Test.YthjgonfohjgfaaaMI
namespace Go.Proofs.Ythjgonfohjgfaaa
open Go.RowKit
set_option linter.unusedVariables false
set_option maxRecDepth 100000

section
variable {w w' : World} {A B C : Option Addr} {n c m d p q x y z k j i : Nat}
theorem sumN2 (h : Nm w A n c x k) (g : Nm w B m d y j) (hk : k ≤ 1000) (hj : j ≤ 1000) :
    Calls Try.prog 85 #[.slice (some ⟨w.heap.size, 0, none⟩) 2 2] (w.alloc (.cells #[.slice A n c, .slice B m d] 25)) (GivN (w.alloc (.cells #[.slice A n c, .slice B m d] 25)) (x + y) (max k j + 1)) := by
  have h1 := h.lt
  have g1 := g.lt
  have hl := h.le
  have gl := g.le
  obtain ⟨xs, hx, rfl⟩ := h.row
  obtain ⟨ys, hy, rfl⟩ := g.row
  have e : M.val xs + M.val ys = M.vals (xss [⟨A, n, c, xs⟩, ⟨B, m, d, ys⟩]) := by simp [M.vals, xss]
  refine (sum_any _ _ 2 _ (rws2 hx hy (by omega) (by omega)) rfl (by omega) (by omega)).mono fun e' w' r => ?_
  rw [← e] at r
  exact givN (add_lt_pow h1 g1) r
theorem sumN3 (h : Nm w A n c x k) (g : Nm w B m d y j) (l : Nm w C p q z i) (hk : k ≤ 1000) (hj : j ≤ 1000) (hi : i ≤ 1000) :
    Calls Try.prog 85 #[.slice (some ⟨w.heap.size, 0, none⟩) 3 3] (w.alloc (.cells #[.slice A n c, .slice B m d, .slice C p q] 25)) (Gives (w.alloc (.cells #[.slice A n c, .slice B m d, .slice C p q] 25)) (M.lims (x + y + z))) := by
  have hl := h.le
  have gl := g.le
  have ll := l.le
  obtain ⟨xs, hx, rfl⟩ := h.row
  obtain ⟨ys, hy, rfl⟩ := g.row
  obtain ⟨zs, hz, rfl⟩ := l.row
  have e : M.val xs + M.val ys + M.val zs = M.vals (xss [⟨A, n, c, xs⟩, ⟨B, m, d, ys⟩, ⟨C, p, q, zs⟩]) := by simp [M.vals, xss]; omega
  refine (sum_any _ _ 3 _ (rws3 hx hy hz (by omega) (by omega) (by omega)) rfl (by omega) (by omega)).mono fun e' w' r => ?_
  rw [← e] at r
  exact r
theorem raisedN (h : Nm w A n c x k) (hk : k ≤ 1000) (by_ : Nat) (h0 : 0 < by_) (hb : by_ ≤ 1000) :
    Calls Try.prog 106 #[.slice A n c, .int .i64 (by_ : Int)] w fun e w' => ∃ A n c, e = .returned (.slice A n c) ∧ Nm w' A n c (M.R ^ by_ * x) (by_ + k) ∧ Below w.heap.size w w' := by
  have hl := h.le
  obtain ⟨xs, hx, rfl⟩ := h.row
  refine (raised_any _ _ _ by_ _ _ hx (by omega) h0 (by omega)).mono ?_
  rintro e w' ⟨A', c', rfl, ho, hb⟩
  exact ⟨A', _, c', rfl, ⟨⟨_, ho.rd, concat_val _ _⟩, by rw [List.length_append, List.length_replicate, hx.len]; omega⟩, hb⟩
theorem productN (h : Nm w A n c x k) (g : Nm w B m d y j) (hk : k ≤ 1000) (hj : j ≤ 1000) (hm : min k j < 40) : Calls Try.prog 86 #[.slice A n c, .slice B m d] w (GivN w (x * y) (k + j)) := by
  have h1 := h.lt
  have g1 := g.lt
  have hl := h.le
  have gl := g.le
  obtain ⟨xs, hx, rfl⟩ := h.row
  obtain ⟨ys, hy, rfl⟩ := g.row
  exact (product_few _ _ _ _ _ _ _ _ _ hx hy (by omega) (by omega) (by omega)).mono fun e w' r => givN (mul_lt_pow h1 g1) r
end

/-- short in a world that has drawn. -/
theorem short_q {A : Option Addr} {n c : Nat} {xs : List Nat} {w : World} (k : Nat) (h : Rd w A n c xs) (hm : n ≤ 4194304) :
    Calls Try.prog 81 #[.slice A n c] (w.drewN k) fun e w'' => e = .returned (.slice A (M.tr xs).length c) ∧ ∃ m, w'' = w.drewN m :=
  (short_any A n c xs (w.drewN k) (h.drewN k) hm).mono fun _ _ ⟨he, hw⟩ => ⟨he, k, hw.symm⟩

/-- A piece of a row. -/
theorem RdK.cut {w : World} {b o n c : Nat} {xs : List Nat} (h : Rd w (some ⟨b, o, none⟩) n c xs) {m : Nat} (hm : m < n) : Rd w (some ⟨b, o + m, none⟩) (n - m) (c - m) (xs.drop m) := by
  have hc := h.cap
  refine ⟨by rw [List.length_drop, h.len], by omega, (fun e => by cases e), fun x hx => h.lim x (List.mem_of_mem_drop hx), fun _ => ?_⟩
  obtain ⟨b', o', hA, hcell⟩ := h.cells (by omega)
  cases hA
  refine ⟨b, o + m, rfl, fun i x hi => ?_⟩
  rw [List.getElem?_drop] at hi
  have := hcell (m + i) x hi
  rw [← Nat.add_assoc] at this
  exact this

namespace M
theorem kara {x0 x1 y0 y1 P : Nat} : x0 * y0 + P * ((x0 + x1) * (y0 + y1) - (x0 * y0 + x1 * y1)) + P * P * (x1 * y1) = (x0 + P * x1) * (y0 + P * y1) := by
  have e1 : (x0 + x1) * (y0 + y1) - (x0 * y0 + x1 * y1) = x0 * y1 + x1 * y0 := by
    rw [Nat.add_mul, Nat.mul_add, Nat.mul_add]
    omega
  rw [e1, Nat.add_mul, Nat.mul_add, Nat.mul_add, Nat.mul_add]
  have e2 : x0 * (P * y1) = P * (x0 * y1) := by rw [Nat.mul_left_comm]
  have e3 : P * x1 * y0 = P * (x1 * y0) := Nat.mul_assoc _ _ _
  have e4 : P * x1 * (P * y1) = P * P * (x1 * y1) := by simp only [Nat.mul_assoc, Nat.mul_left_comm]
  omega
theorem kara_le {x0 x1 y0 y1 : Nat} : x0 * y0 + x1 * y1 ≤ (x0 + x1) * (y0 + y1) := by
  rw [Nat.add_mul, Nat.mul_add, Nat.mul_add]
  omega
theorem val_parts (xs : List Nat) (m : Nat) (h : m ≤ xs.length) : val xs = val (xs.take m) + R ^ m * val (xs.drop m) := by
  have := val_append (xs.take m) (xs.drop m)
  rw [List.take_append_drop, List.length_take, Nat.min_eq_left h] at this
  exact this
end M

set_option maxRecDepth 100000 in
set_option maxHeartbeats 4000000 in
theorem product_40 (A : Option Addr) (c : Nat) (xs : List Nat) (B : Option Addr) (d : Nat) (ys : List Nat) (w : World) (h : Rd w A 40 c xs) (k : Rd w B 40 d ys) :
    Calls Try.prog 86 #[.slice A 40 c, .slice B 40 d] w (Gives w (M.lims (M.val xs * M.val ys))) := by
  obtain ⟨b, o, _, hA, _, _, _⟩ := h.at32 (i := 0) (by omega)
  obtain ⟨b', o', _, hB, _, _, _⟩ := k.at32 (i := 0) (by omega)
  subst hA hB
  have hcc := h.cap
  have hdc := k.cap
  have hne : ¬ c = 20 := by omega
  have hne' : ¬ d = 20 := by omega
  have a0 := h.take (m := 20) (by omega)
  have b0 := k.take (m := 20) (by omega)
  have a1 := h.cut (m := 20) (by omega)
  have b1 := k.cut (m := 20) (by omega)
  have eX := M.val_parts xs 20 (by rw [h.len]; omega)
  have eY := M.val_parts ys 20 (by rw [k.len]; omega)
  have A0 := Lib.hid a0
  have B0 := Lib.hid b0
  have A0s := a0.short
  have B0s := b0.short
  have ha0 := M.tr_length_le (xs.take 20)
  have hb0 := M.tr_length_le (ys.take 20)
  rw [a0.len] at ha0
  rw [b0.len] at hb0
  have NA0 : Nm w (some ⟨b, o, none⟩) (M.tr (xs.take 20)).length c (M.val (xs.take 20)) 20 := ⟨⟨_, A0s, M.val_tr _⟩, ha0⟩
  have NB0 : Nm w (some ⟨b', o', none⟩) (M.tr (ys.take 20)).length d (M.val (ys.take 20)) 20 := ⟨⟨_, B0s, M.val_tr _⟩, hb0⟩
  have NA1 : Nm w (some ⟨b, o + 20, none⟩) 20 (c - 20) (M.val (xs.drop 20)) 20 := ⟨⟨_, a1, rfl⟩, Nat.le_refl _⟩
  have NB1 : Nm w (some ⟨b', o' + 20, none⟩) 20 (d - 20) (M.val (ys.drop 20)) 20 := ⟨⟨_, b1, rfl⟩, Nat.le_refl _⟩
  rw [eX, eY]
  clear a0 b0 a1 b1 A0s B0s ha0 hb0 h k eX eY
  generalize M.val (xs.drop 20) = X1 at *
  generalize M.val (ys.drop 20) = Y1 at *
  obtain ⟨X0, hX0⟩ : ∃ X0, X0 = M.val (xs.take 20) := ⟨_, rfl⟩
  obtain ⟨Y0, hY0⟩ : ∃ Y0, Y0 = M.val (ys.take 20) := ⟨_, rfl⟩
  rw [← hX0] at NA0 ⊢
  rw [← hY0] at NB0 ⊢
  clear hX0 hY0
  obtain ⟨na, hna⟩ : ∃ na, na = (M.tr (xs.take 20)).length := ⟨_, rfl⟩
  obtain ⟨nb, hnb⟩ : ∃ nb, nb = (M.tr (ys.take 20)).length := ⟨_, rfl⟩
  rw [← hna] at NA0
  rw [← hnb] at NB0
  have HNA := Lib.hid hna
  have HNB := Lib.hid hnb
  clear hna hnb
  go_enter Try.func86, Try.ntmps86
  go_wp2
  go_quiet ((go_at_call 81; exact short_q _ A0.out (by omega)))
  rw [← HNA.out]
  go_wp2
  generalize hwq : World.drewN w _ = wq
  have BB : Below w.heap.size w wq := by rw [← hwq]; exact below_drewN (Below.refl _ _) _
  replace NA0 : Nm wq _ _ _ _ _ := NA0.below BB
  replace NA1 : Nm wq _ _ _ _ _ := NA1.below BB
  replace NB0 : Nm wq _ _ _ _ _ := NB0.below BB
  replace NB1 : Nm wq _ _ _ _ _ := NB1.below BB
  replace B0 := Lib.hid (B0.out.below BB)
  clear hwq A0 HNA
  go_quiet ((go_at_call 81; exact short_q _ B0.out (by omega)))
  rw [← HNB.out]
  generalize hwq : World.drewN wq _ = w0
  have hb0 : Below wq.heap.size wq w0 := by rw [← hwq]; exact below_drewN (Below.refl _ _) _
  replace NA0 := NA0.below hb0
  replace NA1 := NA1.below hb0
  replace NB0 := NB0.below hb0
  replace NB1 := NB1.below hb0
  replace BB := bl_trans BB hb0
  clear hb0 hwq B0 HNB
  go_wp2_with fail
  refine (productN NA0 NB0 (by omega) (by omega) (by omega)).mono ?_
  rintro e w1 ⟨A1, n1, c1, rfl, L, hb1⟩
  replace NA0 := NA0.below hb1
  replace NA1 := NA1.below hb1
  replace NB0 := NB0.below hb1
  replace NB1 := NB1.below hb1
  replace BB := bl_trans BB hb1
  clear hb1
  go_wp2_with fail
  refine (productN NA1 NB1 (by omega) (by omega) (by omega)).mono ?_
  rintro e w2 ⟨A2, n2, c2, rfl, H, hb2⟩
  replace NA0 := NA0.below hb2
  replace NA1 := NA1.below hb2
  replace NB0 := NB0.below hb2
  replace NB1 := NB1.below hb2
  replace L := L.below hb2
  replace BB := bl_trans BB hb2
  clear hb2
  go_wp2_with fail
  refine (sumN2 NA0 NA1 (by omega) (by omega)).mono ?_
  rintro e w3 ⟨A3, n3, c3, rfl, SA, hb3⟩
  replace hb3 := bl_trans (bl_alloc _ _) hb3
  replace NA0 := NA0.below hb3
  replace NA1 := NA1.below hb3
  replace NB0 := NB0.below hb3
  replace NB1 := NB1.below hb3
  replace L := L.below hb3
  replace H := H.below hb3
  replace BB := bl_trans BB hb3
  clear hb3
  clear NA0 NA1
  go_wp2_with fail
  refine (sumN2 NB0 NB1 (by omega) (by omega)).mono ?_
  rintro e w4 ⟨A4, n4, c4, rfl, SB, hb4⟩
  replace hb4 := bl_trans (bl_alloc _ _) hb4
  replace NB0 := NB0.below hb4
  replace NB1 := NB1.below hb4
  replace L := L.below hb4
  replace H := H.below hb4
  replace SA := SA.below hb4
  replace BB := bl_trans BB hb4
  clear hb4
  clear NB0 NB1
  go_wp2_with fail
  refine (productN SA.nm SB.nm (by omega) (by omega) (by omega)).mono ?_
  rintro e w5 ⟨A5, n5, c5, rfl, P, hb5⟩
  replace L := L.below hb5
  replace H := H.below hb5
  replace SA := SA.below hb5
  replace SB := SB.below hb5
  replace BB := bl_trans BB hb5
  clear hb5
  clear SA SB
  go_wp2_with fail
  refine (sumN2 L.nm H.nm (by omega) (by omega)).mono ?_
  rintro e w6 ⟨A6, n6, c6, rfl, Q, hb6⟩
  replace hb6 := bl_trans (bl_alloc _ _) hb6
  replace L := L.below hb6
  replace H := H.below hb6
  replace P := P.below hb6
  replace BB := bl_trans BB hb6
  clear hb6
  go_wp2_with fail
  refine (subN_yes P.nm Q.nm (by omega) (by omega) M.kara_le).mono ?_
  rintro e w7 ⟨A7, n7, c7, rfl, S, hb7⟩
  replace L := L.below hb7
  replace H := H.below hb7
  replace P := P.below hb7
  replace Q := Q.below hb7
  replace BB := bl_trans BB hb7
  clear hb7
  clear P Q
  go_wp2_with fail
  refine (raisedN S.nm (by omega) 20 (by omega) (by omega)).mono ?_
  rintro e w8 ⟨A8, n8, c8, rfl, RS, hb8⟩
  replace L := L.below hb8
  replace H := H.below hb8
  replace S := S.below hb8
  replace BB := bl_trans BB hb8
  clear hb8
  clear S
  go_wp2_with fail
  refine (raisedN H.nm (by omega) 40 (by omega) (by omega)).mono ?_
  rintro e w9 ⟨A9, n9, c9, rfl, RH, hb9⟩
  replace L := L.below hb9
  replace H := H.below hb9
  replace RS := RS.below hb9
  replace BB := bl_trans BB hb9
  clear hb9
  clear H
  go_wp2_with fail
  refine (sumN3 L.nm RS RH (by omega) (by omega) (by omega)).mono ?_
  rw [show M.R ^ 40 = M.R ^ 20 * M.R ^ 20 from Nat.pow_add M.R 20 20, M.kara]
  rintro e wz ⟨Az, cz, rfl, hoz, hbz⟩
  replace hbz := bl_trans (bl_alloc _ _) hbz
  have BZ := bl_trans BB hbz
  have hsz := BB.size
  have hoz' := hoz.mono (base' := w.heap.size) (by simp; omega)
  have HOZ := Lib.hid hoz'
  have HBZ := Lib.hid BZ
  clear hoz hoz' hbz BZ hsz L RS RH BB
  go_wp2_with fail
  go_ret
  exact ⟨Az, cz, rfl, HOZ.out, HBZ.out⟩

/-- Mul of numbers of at most 40 limbs. -/
theorem product_le40 (A : Option Addr) (n c : Nat) (xs : List Nat) (B : Option Addr) (m d : Nat) (ys : List Nat) (w : World) (h : Rd w A n c xs) (k : Rd w B m d ys) (hn : n ≤ 40) (hm : m ≤ 40) :
    Calls Try.prog 86 #[.slice A n c, .slice B m d] w (Gives w (M.lims (M.val xs * M.val ys))) := by
  by_cases hc : min n m < 40
  · exact product_few _ _ _ _ _ _ _ _ _ h k (by omega) (by omega) hc
  · obtain rfl : n = 40 := by omega
    obtain rfl : m = 40 := by omega
    exact product_40 _ _ _ _ _ _ _ h k

set_option maxHeartbeats 1000000 in
theorem mul_le40 (A : Option Addr) (n c : Nat) (xs : List Nat) (B : Option Addr) (m d : Nat) (ys : List Nat) (w : World) (h : Rd w A n c xs) (k : Rd w B m d ys) (hn : n ≤ 40) (hm : m ≤ 40) :
    Calls Try.prog 55 #[.slice A n c, .slice B m d] w (Gives w (M.lims (M.val xs * M.val ys))) := by
  have h1 := M.tr_length_le xs
  have h2 := M.tr_length_le ys
  rw [h.len] at h1
  rw [k.len] at h2
  have hs := h.short
  have ks := k.short
  rw [← M.val_tr xs, ← M.val_tr ys]
  have H := Lib.hid h
  have K := Lib.hid k
  have HS := Lib.hid hs
  have KS := Lib.hid ks
  clear h k hs ks
  go_enter Try.func55, Try.ntmps55
  go_wp2_with fail
  refine (short_any _ _ _ _ _ H.out (by omega)).mono ?_
  rintro e w' ⟨rfl, rfl⟩
  go_wp2_with fail
  refine (short_any _ _ _ _ _ K.out (by omega)).mono ?_
  rintro e w' ⟨rfl, rfl⟩
  go_wp2_with fail
  refine (product_le40 _ _ _ _ _ _ _ _ _ HS.out KS.out (by omega) (by omega)).mono ?_
  rintro e w1 ⟨A1, c1, rfl, ho1, hb1⟩
  go_wp2
  go_ret
  exact ⟨A1, c1, rfl, ho1, hb1⟩

theorem mulN40 {w : World} {A B : Option Addr} {n c m d x y k j : Nat} (h : Nm w A n c x k) (g : Nm w B m d y j) (hk : k ≤ 40) (hj : j ≤ 40) : Calls Try.prog 55 #[.slice A n c, .slice B m d] w (GivN w (x * y) (k + j)) := by
  have h1 := h.lt
  have g1 := g.lt
  have hl := h.le
  have gl := g.le
  obtain ⟨xs, hx, rfl⟩ := h.row
  obtain ⟨ys, hy, rfl⟩ := g.row
  exact (mul_le40 _ _ _ _ _ _ _ _ _ hx hy (by omega) (by omega)).mono fun e w' r => givN (mul_lt_pow h1 g1) r

end Go.Proofs.Ythjgonfohjgfaaa
