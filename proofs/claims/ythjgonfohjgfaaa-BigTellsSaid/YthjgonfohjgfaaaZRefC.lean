/- litmusref02.Add. -/
import Derived.Test.YthjgonfohjgfaaaZRefA
namespace Go.Proofs.Ythjgonfohjgfaaa
open Go.RowKit
set_option linter.unusedVariables false
set_option maxRecDepth 100000

section
variable {w w' : World} {v v' : Value} {s t b : Bool} {A B : Option Addr} {n c m d x y k j g : Nat} {z u : Int}
set_option maxHeartbeats 2000000

theorem cRefAdd_pp (h : IsM w v z k) (g : IsM w v' u j) (hk : k ≤ 500) (hj : j ≤ 500) (hz : 0 ≤ z) (hu : 0 ≤ u) : Calls Try.prog 17 #[v, v'] w (Ans w fun w' v => IsT w' v (z + u) (max k j + 1)) := by
  obtain ⟨s, A, n, c, rfl, Z⟩ := h
  obtain ⟨t, B, m, d, rfl, Z'⟩ := g
  have X : IsM (((w.alloc (.cells #[.bool s, .slice A n c] 32)).alloc (.cells #[.bool t, .slice B m d] 32)).alloc (.cells #[.bool false, .slice none 0 0] 32)) (.agg #[.bool s, .slice A n c]) z k := ⟨_, _, _, _, rfl, ((Z.alloc _).alloc _).alloc _⟩
  have Y : IsM (((w.alloc (.cells #[.bool s, .slice A n c] 32)).alloc (.cells #[.bool t, .slice B m d] 32)).alloc (.cells #[.bool false, .slice none 0 0] 32)) (.agg #[.bool t, .slice B m d]) u j := ⟨_, _, _, _, rfl, ((Z'.alloc _).alloc _).alloc _⟩
  have PA := ((Bz.new w s A n c).alloc (.cells #[.bool t, .slice B m d] 32)).alloc (.cells #[.bool false, .slice none 0 0] 32)
  have PB := (Bz.new2 w (.cells #[.bool s, .slice A n c] 32) t B m d).alloc (.cells #[.bool false, .slice none 0 0] 32)
  have PR := Bz.new3 w (.cells #[.bool s, .slice A n c] 32) (.cells #[.bool t, .slice B m d] 32) false none 0 0
  have BB := bl_trans (bl_trans (bl_alloc w (.cells #[.bool s, .slice A n c] 32)) (bl_alloc _ (.cells #[.bool t, .slice B m d] 32))) (bl_alloc _ (.cells #[.bool false, .slice none 0 0] 32))
  clear Z Z'
  go_enter Try.func17, Try.ntmps17
  go_wp2_with fail
  refine (cRefMade X (by omega)).mono ?_
  rintro e w1 ⟨_, rfl, hb1, b1, A1, n1, c1, rfl, T1, hn1⟩
  obtain rfl : b1 = false := hn1.trans (decide_eq_false (by omega))
  replace PA := PA.below hb1
  replace PB := PB.below hb1
  replace PR := PR.below hb1
  replace Y := st_M (t := false) (B := A1) (m := n1) (d := c1) PA (Y.below hb1)
  have Q1 : IsT _ (.agg #[.bool false, .slice A1 n1 c1]) z k := st_T (t := false) (B := A1) (m := n1) (d := c1) PA ⟨_, _, _, _, rfl, T1, hn1⟩
  replace BB := st_B (bl_trans BB hb1) (Nat.le_refl _) (.bool false) (.slice A1 n1 c1)
  have r0 := PA.c0
  have r1 := PA.c1
  have f0 := PA.f 0
  have f1 := PA.f 1
  replace PB := PB.st2 (g' := w.heap.size) (x := .bool false) (y := .slice A1 n1 c1) (by omega)
  replace PR := PR.st2 (g' := w.heap.size) (x := .bool false) (y := .slice A1 n1 c1) (by omega)
  replace PA := st_P (t := false) (B := A1) (m := n1) (d := c1) PA
  have q0 := PB.c0
  have q1 := PB.c1
  clear hb1 X T1 hn1
  go_wp2_with fail
  refine (cRefMade Y (by omega)).mono ?_
  rintro e w2 ⟨_, rfl, hb2, b2, A2, n2, c2, rfl, T2, hn2⟩
  obtain rfl : b2 = false := hn2.trans (decide_eq_false (by omega))
  clear r0 r1 f0 f1 q0 q1
  replace PA := PA.below hb2
  replace PB := PB.below hb2
  replace PR := PR.below hb2
  replace Q1 := st_T (t := false) (B := A2) (m := n2) (d := c2) PB (Q1.below hb2)
  have Q2 : IsT _ (.agg #[.bool false, .slice A2 n2 c2]) u j := st_T (t := false) (B := A2) (m := n2) (d := c2) PB ⟨_, _, _, _, rfl, T2, hn2⟩
  replace BB := st_B (bl_trans BB hb2) (show w.heap.size ≤ w.heap.size + 1 by omega) (.bool false) (.slice A2 n2 c2)
  have r0 := PB.c0
  have r1 := PB.c1
  have f0 := PB.f 0
  have f1 := PB.f 1
  replace PA := PA.st2 (g' := w.heap.size + 1) (x := .bool false) (y := .slice A2 n2 c2) (by omega)
  replace PR := PR.st2 (g' := w.heap.size + 1) (x := .bool false) (y := .slice A2 n2 c2) (by omega)
  replace PB := st_P (t := false) (B := A2) (m := n2) (d := c2) PB
  have a0 := PA.c0
  have a1 := PA.c1
  have q0 := PB.c0
  have q1 := PB.c1
  replace Q1 := Q1.nm
  replace Q2 := Q2.nm
  clear hb2 Y T2 hn2
  go_wp2_with fail
  clear r0 r1 f0 f1 a0 a1 q0 q1
  generalize hW : World.setCell (World.setCell w2 _ _) _ _ = W at *
  clear hW
  replace Q1 := Q1.below (Below.drew (Below.refl _ _))
  replace Q2 := Q2.below (Below.drew (Below.refl _ _))
  replace PA := PA.drew
  replace PB := PB.drew
  replace PR := PR.drew
  replace BB := Below.drew BB
  go_region_held3 (fun w' => w'.cell? ⟨w.heap.size, 0, none⟩ = some (.bool false) ∧ w'.cell? ⟨w.heap.size, 1, none⟩ = some (.slice A1 n1 c1) ∧ w'.cell? ⟨w.heap.size + 1, 0, none⟩ = some (.bool false) ∧ w'.cell? ⟨w.heap.size + 1, 1, none⟩ = some (.slice A2 n2 c2))
    (first | exact ⟨(PA.st2 (by omega)).c0, (PA.st2 (by omega)).c1, (PB.st2 (by omega)).c0, (PB.st2 (by omega)).c1⟩ | exact ⟨PA.c0, PA.c1, PB.c0, PB.c1⟩)
    (first
      | (go_at_call 61; refine (addRN Q1 Q2 (by omega) (by omega)).mono ?_; rintro e w3 ⟨A3, n3, c3, rfl, T3, hb3⟩; replace PA := PA.below hb3; replace PB := PB.below hb3; replace PR := PR.below hb3; replace BB := bl_trans BB hb3; clear hb3)
      | (go_at_call 58; refine (cRefOf false T3.nm (by omega)).mono ?_; rintro e w4 ⟨_, rfl, hb4, b4, A4, n4, c4, rfl, T4, hn⟩; replace PA := PA.below hb4; replace PB := PB.below hb4; replace PR := PR.below hb4; replace BB := bl_trans BB hb4; have r0 := PR.c0; have r1 := PR.c1; have f0 := PR.f 0; have f1 := PR.f 1; have HN := Lib.hid hn; clear hb4 hn))
  go_wp2_with fail
  refine bodyPost_ret (v := .agg #[.bool b4, .slice A4 n4 c4]) (by simp [results, Try.results17, go_sem, *]) rfl ?_
  have hv : zv false (z.natAbs + u.natAbs) = z + u := by rw [zv_false]; omega
  have hq : IsT w4 (.agg #[.bool b4, .slice A4 n4 c4]) (z + u) (max k j + 1) := by rw [← hv]; exact IsT.mono ⟨_, _, _, _, rfl, T4, HN.out⟩ (by omega)
  exact IsT.fin hq PR BB (by omega)

theorem cRefAdd_nn (h : IsM w v z k) (g : IsM w v' u j) (hk : k ≤ 500) (hj : j ≤ 500) (hz : z < 0) (hu : u < 0) : Calls Try.prog 17 #[v, v'] w (Ans w fun w' v => IsT w' v (z + u) (max k j + 1)) := by
  obtain ⟨s, A, n, c, rfl, Z⟩ := h
  obtain ⟨t, B, m, d, rfl, Z'⟩ := g
  have X : IsM (((w.alloc (.cells #[.bool s, .slice A n c] 32)).alloc (.cells #[.bool t, .slice B m d] 32)).alloc (.cells #[.bool false, .slice none 0 0] 32)) (.agg #[.bool s, .slice A n c]) z k := ⟨_, _, _, _, rfl, ((Z.alloc _).alloc _).alloc _⟩
  have Y : IsM (((w.alloc (.cells #[.bool s, .slice A n c] 32)).alloc (.cells #[.bool t, .slice B m d] 32)).alloc (.cells #[.bool false, .slice none 0 0] 32)) (.agg #[.bool t, .slice B m d]) u j := ⟨_, _, _, _, rfl, ((Z'.alloc _).alloc _).alloc _⟩
  have PA := ((Bz.new w s A n c).alloc (.cells #[.bool t, .slice B m d] 32)).alloc (.cells #[.bool false, .slice none 0 0] 32)
  have PB := (Bz.new2 w (.cells #[.bool s, .slice A n c] 32) t B m d).alloc (.cells #[.bool false, .slice none 0 0] 32)
  have PR := Bz.new3 w (.cells #[.bool s, .slice A n c] 32) (.cells #[.bool t, .slice B m d] 32) false none 0 0
  have BB := bl_trans (bl_trans (bl_alloc w (.cells #[.bool s, .slice A n c] 32)) (bl_alloc _ (.cells #[.bool t, .slice B m d] 32))) (bl_alloc _ (.cells #[.bool false, .slice none 0 0] 32))
  clear Z Z'
  go_enter Try.func17, Try.ntmps17
  go_wp2_with fail
  refine (cRefMade X (by omega)).mono ?_
  rintro e w1 ⟨_, rfl, hb1, b1, A1, n1, c1, rfl, T1, hn1⟩
  obtain rfl : b1 = true := hn1.trans (decide_eq_true hz)
  replace PA := PA.below hb1
  replace PB := PB.below hb1
  replace PR := PR.below hb1
  replace Y := st_M (t := true) (B := A1) (m := n1) (d := c1) PA (Y.below hb1)
  have Q1 : IsT _ (.agg #[.bool true, .slice A1 n1 c1]) z k := st_T (t := true) (B := A1) (m := n1) (d := c1) PA ⟨_, _, _, _, rfl, T1, hn1⟩
  replace BB := st_B (bl_trans BB hb1) (Nat.le_refl _) (.bool true) (.slice A1 n1 c1)
  have r0 := PA.c0
  have r1 := PA.c1
  have f0 := PA.f 0
  have f1 := PA.f 1
  replace PB := PB.st2 (g' := w.heap.size) (x := .bool true) (y := .slice A1 n1 c1) (by omega)
  replace PR := PR.st2 (g' := w.heap.size) (x := .bool true) (y := .slice A1 n1 c1) (by omega)
  replace PA := st_P (t := true) (B := A1) (m := n1) (d := c1) PA
  have q0 := PB.c0
  have q1 := PB.c1
  clear hb1 X T1 hn1
  go_wp2_with fail
  refine (cRefMade Y (by omega)).mono ?_
  rintro e w2 ⟨_, rfl, hb2, b2, A2, n2, c2, rfl, T2, hn2⟩
  obtain rfl : b2 = true := hn2.trans (decide_eq_true hu)
  clear r0 r1 f0 f1 q0 q1
  replace PA := PA.below hb2
  replace PB := PB.below hb2
  replace PR := PR.below hb2
  replace Q1 := st_T (t := true) (B := A2) (m := n2) (d := c2) PB (Q1.below hb2)
  have Q2 : IsT _ (.agg #[.bool true, .slice A2 n2 c2]) u j := st_T (t := true) (B := A2) (m := n2) (d := c2) PB ⟨_, _, _, _, rfl, T2, hn2⟩
  replace BB := st_B (bl_trans BB hb2) (show w.heap.size ≤ w.heap.size + 1 by omega) (.bool true) (.slice A2 n2 c2)
  have r0 := PB.c0
  have r1 := PB.c1
  have f0 := PB.f 0
  have f1 := PB.f 1
  replace PA := PA.st2 (g' := w.heap.size + 1) (x := .bool true) (y := .slice A2 n2 c2) (by omega)
  replace PR := PR.st2 (g' := w.heap.size + 1) (x := .bool true) (y := .slice A2 n2 c2) (by omega)
  replace PB := st_P (t := true) (B := A2) (m := n2) (d := c2) PB
  have a0 := PA.c0
  have a1 := PA.c1
  have q0 := PB.c0
  have q1 := PB.c1
  replace Q1 := Q1.nm
  replace Q2 := Q2.nm
  clear hb2 Y T2 hn2
  go_wp2_with fail
  clear r0 r1 f0 f1 a0 a1 q0 q1
  generalize hW : World.setCell (World.setCell w2 _ _) _ _ = W at *
  clear hW
  replace Q1 := Q1.below (Below.drew (Below.refl _ _))
  replace Q2 := Q2.below (Below.drew (Below.refl _ _))
  replace PA := PA.drew
  replace PB := PB.drew
  replace PR := PR.drew
  replace BB := Below.drew BB
  go_region_held3 (fun w' => w'.cell? ⟨w.heap.size, 0, none⟩ = some (.bool true) ∧ w'.cell? ⟨w.heap.size, 1, none⟩ = some (.slice A1 n1 c1) ∧ w'.cell? ⟨w.heap.size + 1, 0, none⟩ = some (.bool true) ∧ w'.cell? ⟨w.heap.size + 1, 1, none⟩ = some (.slice A2 n2 c2))
    (first | exact ⟨(PA.st2 (by omega)).c0, (PA.st2 (by omega)).c1, (PB.st2 (by omega)).c0, (PB.st2 (by omega)).c1⟩ | exact ⟨PA.c0, PA.c1, PB.c0, PB.c1⟩)
    (first
      | (go_at_call 61; refine (addRN Q1 Q2 (by omega) (by omega)).mono ?_; rintro e w3 ⟨A3, n3, c3, rfl, T3, hb3⟩; replace PA := PA.below hb3; replace PB := PB.below hb3; replace PR := PR.below hb3; replace BB := bl_trans BB hb3; clear hb3)
      | (go_at_call 58; refine (cRefOf true T3.nm (by omega)).mono ?_; rintro e w4 ⟨_, rfl, hb4, b4, A4, n4, c4, rfl, T4, hn⟩; replace PA := PA.below hb4; replace PB := PB.below hb4; replace PR := PR.below hb4; replace BB := bl_trans BB hb4; have r0 := PR.c0; have r1 := PR.c1; have f0 := PR.f 0; have f1 := PR.f 1; have HN := Lib.hid hn; clear hb4 hn))
  go_wp2_with fail
  refine bodyPost_ret (v := .agg #[.bool b4, .slice A4 n4 c4]) (by simp [results, Try.results17, go_sem, *]) rfl ?_
  have hv : zv true (z.natAbs + u.natAbs) = z + u := by rw [zv_true]; omega
  have hq : IsT w4 (.agg #[.bool b4, .slice A4 n4 c4]) (z + u) (max k j + 1) := by rw [← hv]; exact IsT.mono ⟨_, _, _, _, rfl, T4, HN.out⟩ (by omega)
  exact IsT.fin hq PR BB (by omega)

theorem cRefAdd_pn1 (h : IsM w v z k) (g : IsM w v' u j) (hk : k ≤ 500) (hj : j ≤ 500) (hz : 0 ≤ z) (hu : u < 0) (hle : u.natAbs ≤ z.natAbs) : Calls Try.prog 17 #[v, v'] w (Ans w fun w' v => IsT w' v (z + u) (max k j + 1)) := by
  obtain ⟨s, A, n, c, rfl, Z⟩ := h
  obtain ⟨t, B, m, d, rfl, Z'⟩ := g
  have X : IsM (((w.alloc (.cells #[.bool s, .slice A n c] 32)).alloc (.cells #[.bool t, .slice B m d] 32)).alloc (.cells #[.bool false, .slice none 0 0] 32)) (.agg #[.bool s, .slice A n c]) z k := ⟨_, _, _, _, rfl, ((Z.alloc _).alloc _).alloc _⟩
  have Y : IsM (((w.alloc (.cells #[.bool s, .slice A n c] 32)).alloc (.cells #[.bool t, .slice B m d] 32)).alloc (.cells #[.bool false, .slice none 0 0] 32)) (.agg #[.bool t, .slice B m d]) u j := ⟨_, _, _, _, rfl, ((Z'.alloc _).alloc _).alloc _⟩
  have PA := ((Bz.new w s A n c).alloc (.cells #[.bool t, .slice B m d] 32)).alloc (.cells #[.bool false, .slice none 0 0] 32)
  have PB := (Bz.new2 w (.cells #[.bool s, .slice A n c] 32) t B m d).alloc (.cells #[.bool false, .slice none 0 0] 32)
  have PR := Bz.new3 w (.cells #[.bool s, .slice A n c] 32) (.cells #[.bool t, .slice B m d] 32) false none 0 0
  have BB := bl_trans (bl_trans (bl_alloc w (.cells #[.bool s, .slice A n c] 32)) (bl_alloc _ (.cells #[.bool t, .slice B m d] 32))) (bl_alloc _ (.cells #[.bool false, .slice none 0 0] 32))
  clear Z Z'
  go_enter Try.func17, Try.ntmps17
  go_wp2_with fail
  refine (cRefMade X (by omega)).mono ?_
  rintro e w1 ⟨_, rfl, hb1, b1, A1, n1, c1, rfl, T1, hn1⟩
  obtain rfl : b1 = false := hn1.trans (decide_eq_false (by omega))
  replace PA := PA.below hb1
  replace PB := PB.below hb1
  replace PR := PR.below hb1
  replace Y := st_M (t := false) (B := A1) (m := n1) (d := c1) PA (Y.below hb1)
  have Q1 : IsT _ (.agg #[.bool false, .slice A1 n1 c1]) z k := st_T (t := false) (B := A1) (m := n1) (d := c1) PA ⟨_, _, _, _, rfl, T1, hn1⟩
  replace BB := st_B (bl_trans BB hb1) (Nat.le_refl _) (.bool false) (.slice A1 n1 c1)
  have r0 := PA.c0
  have r1 := PA.c1
  have f0 := PA.f 0
  have f1 := PA.f 1
  replace PB := PB.st2 (g' := w.heap.size) (x := .bool false) (y := .slice A1 n1 c1) (by omega)
  replace PR := PR.st2 (g' := w.heap.size) (x := .bool false) (y := .slice A1 n1 c1) (by omega)
  replace PA := st_P (t := false) (B := A1) (m := n1) (d := c1) PA
  have q0 := PB.c0
  have q1 := PB.c1
  clear hb1 X T1 hn1
  go_wp2_with fail
  refine (cRefMade Y (by omega)).mono ?_
  rintro e w2 ⟨_, rfl, hb2, b2, A2, n2, c2, rfl, T2, hn2⟩
  obtain rfl : b2 = true := hn2.trans (decide_eq_true hu)
  clear r0 r1 f0 f1 q0 q1
  replace PA := PA.below hb2
  replace PB := PB.below hb2
  replace PR := PR.below hb2
  replace Q1 := st_T (t := true) (B := A2) (m := n2) (d := c2) PB (Q1.below hb2)
  have Q2 : IsT _ (.agg #[.bool true, .slice A2 n2 c2]) u j := st_T (t := true) (B := A2) (m := n2) (d := c2) PB ⟨_, _, _, _, rfl, T2, hn2⟩
  replace BB := st_B (bl_trans BB hb2) (show w.heap.size ≤ w.heap.size + 1 by omega) (.bool true) (.slice A2 n2 c2)
  have r0 := PB.c0
  have r1 := PB.c1
  have f0 := PB.f 0
  have f1 := PB.f 1
  replace PA := PA.st2 (g' := w.heap.size + 1) (x := .bool true) (y := .slice A2 n2 c2) (by omega)
  replace PR := PR.st2 (g' := w.heap.size + 1) (x := .bool true) (y := .slice A2 n2 c2) (by omega)
  replace PB := st_P (t := true) (B := A2) (m := n2) (d := c2) PB
  have a0 := PA.c0
  have a1 := PA.c1
  have q0 := PB.c0
  have q1 := PB.c1
  replace Q1 := Q1.nm
  replace Q2 := Q2.nm
  clear hb2 Y T2 hn2
  go_wp2_with fail
  refine (subRN_yes Q1 Q2 (by omega) (by omega) hle).mono ?_
  rintro e w3 ⟨A3, n3, c3, rfl, T3, hb3⟩
  clear r0 r1 f0 f1 a0 a1 q0 q1
  replace PA := PA.below hb3
  replace PR := PR.below hb3
  replace BB := bl_trans BB hb3
  have a0 := PA.c0
  clear hb3 PB Q1 Q2
  go_wp2_with fail
  refine (cRefOf false T3.nm (by omega)).mono ?_
  rintro e w4 ⟨_, rfl, hb4, b4, A4, n4, c4, rfl, T4, hn⟩
  replace PR := PR.below hb4
  replace BB := bl_trans BB hb4
  have r0 := PR.c0
  have r1 := PR.c1
  have f0 := PR.f 0
  have f1 := PR.f 1
  have HN := Lib.hid hn
  clear hb4 hn
  go_wp2_with fail
  refine bodyPost_ret (v := .agg #[.bool b4, .slice A4 n4 c4]) (by simp [results, Try.results17, go_sem, *]) rfl ?_
  have hv : zv false (z.natAbs - u.natAbs) = z + u := by rw [zv_false]; omega
  have hq : IsT w4 (.agg #[.bool b4, .slice A4 n4 c4]) (z + u) (max k j + 1) := by rw [← hv]; exact IsT.mono ⟨_, _, _, _, rfl, T4, HN.out⟩ (by omega)
  exact IsT.fin hq PR BB (by omega)

theorem cRefAdd_np1 (h : IsM w v z k) (g : IsM w v' u j) (hk : k ≤ 500) (hj : j ≤ 500) (hz : z < 0) (hu : 0 ≤ u) (hle : u.natAbs ≤ z.natAbs) : Calls Try.prog 17 #[v, v'] w (Ans w fun w' v => IsT w' v (z + u) (max k j + 1)) := by
  obtain ⟨s, A, n, c, rfl, Z⟩ := h
  obtain ⟨t, B, m, d, rfl, Z'⟩ := g
  have X : IsM (((w.alloc (.cells #[.bool s, .slice A n c] 32)).alloc (.cells #[.bool t, .slice B m d] 32)).alloc (.cells #[.bool false, .slice none 0 0] 32)) (.agg #[.bool s, .slice A n c]) z k := ⟨_, _, _, _, rfl, ((Z.alloc _).alloc _).alloc _⟩
  have Y : IsM (((w.alloc (.cells #[.bool s, .slice A n c] 32)).alloc (.cells #[.bool t, .slice B m d] 32)).alloc (.cells #[.bool false, .slice none 0 0] 32)) (.agg #[.bool t, .slice B m d]) u j := ⟨_, _, _, _, rfl, ((Z'.alloc _).alloc _).alloc _⟩
  have PA := ((Bz.new w s A n c).alloc (.cells #[.bool t, .slice B m d] 32)).alloc (.cells #[.bool false, .slice none 0 0] 32)
  have PB := (Bz.new2 w (.cells #[.bool s, .slice A n c] 32) t B m d).alloc (.cells #[.bool false, .slice none 0 0] 32)
  have PR := Bz.new3 w (.cells #[.bool s, .slice A n c] 32) (.cells #[.bool t, .slice B m d] 32) false none 0 0
  have BB := bl_trans (bl_trans (bl_alloc w (.cells #[.bool s, .slice A n c] 32)) (bl_alloc _ (.cells #[.bool t, .slice B m d] 32))) (bl_alloc _ (.cells #[.bool false, .slice none 0 0] 32))
  clear Z Z'
  go_enter Try.func17, Try.ntmps17
  go_wp2_with fail
  refine (cRefMade X (by omega)).mono ?_
  rintro e w1 ⟨_, rfl, hb1, b1, A1, n1, c1, rfl, T1, hn1⟩
  obtain rfl : b1 = true := hn1.trans (decide_eq_true hz)
  replace PA := PA.below hb1
  replace PB := PB.below hb1
  replace PR := PR.below hb1
  replace Y := st_M (t := true) (B := A1) (m := n1) (d := c1) PA (Y.below hb1)
  have Q1 : IsT _ (.agg #[.bool true, .slice A1 n1 c1]) z k := st_T (t := true) (B := A1) (m := n1) (d := c1) PA ⟨_, _, _, _, rfl, T1, hn1⟩
  replace BB := st_B (bl_trans BB hb1) (Nat.le_refl _) (.bool true) (.slice A1 n1 c1)
  have r0 := PA.c0
  have r1 := PA.c1
  have f0 := PA.f 0
  have f1 := PA.f 1
  replace PB := PB.st2 (g' := w.heap.size) (x := .bool true) (y := .slice A1 n1 c1) (by omega)
  replace PR := PR.st2 (g' := w.heap.size) (x := .bool true) (y := .slice A1 n1 c1) (by omega)
  replace PA := st_P (t := true) (B := A1) (m := n1) (d := c1) PA
  have q0 := PB.c0
  have q1 := PB.c1
  clear hb1 X T1 hn1
  go_wp2_with fail
  refine (cRefMade Y (by omega)).mono ?_
  rintro e w2 ⟨_, rfl, hb2, b2, A2, n2, c2, rfl, T2, hn2⟩
  obtain rfl : b2 = false := hn2.trans (decide_eq_false (by omega))
  clear r0 r1 f0 f1 q0 q1
  replace PA := PA.below hb2
  replace PB := PB.below hb2
  replace PR := PR.below hb2
  replace Q1 := st_T (t := false) (B := A2) (m := n2) (d := c2) PB (Q1.below hb2)
  have Q2 : IsT _ (.agg #[.bool false, .slice A2 n2 c2]) u j := st_T (t := false) (B := A2) (m := n2) (d := c2) PB ⟨_, _, _, _, rfl, T2, hn2⟩
  replace BB := st_B (bl_trans BB hb2) (show w.heap.size ≤ w.heap.size + 1 by omega) (.bool false) (.slice A2 n2 c2)
  have r0 := PB.c0
  have r1 := PB.c1
  have f0 := PB.f 0
  have f1 := PB.f 1
  replace PA := PA.st2 (g' := w.heap.size + 1) (x := .bool false) (y := .slice A2 n2 c2) (by omega)
  replace PR := PR.st2 (g' := w.heap.size + 1) (x := .bool false) (y := .slice A2 n2 c2) (by omega)
  replace PB := st_P (t := false) (B := A2) (m := n2) (d := c2) PB
  have a0 := PA.c0
  have a1 := PA.c1
  have q0 := PB.c0
  have q1 := PB.c1
  replace Q1 := Q1.nm
  replace Q2 := Q2.nm
  clear hb2 Y T2 hn2
  go_wp2_with fail
  refine (subRN_yes Q1 Q2 (by omega) (by omega) hle).mono ?_
  rintro e w3 ⟨A3, n3, c3, rfl, T3, hb3⟩
  clear r0 r1 f0 f1 a0 a1 q0 q1
  replace PA := PA.below hb3
  replace PR := PR.below hb3
  replace BB := bl_trans BB hb3
  have a0 := PA.c0
  clear hb3 PB Q1 Q2
  go_wp2_with fail
  refine (cRefOf true T3.nm (by omega)).mono ?_
  rintro e w4 ⟨_, rfl, hb4, b4, A4, n4, c4, rfl, T4, hn⟩
  replace PR := PR.below hb4
  replace BB := bl_trans BB hb4
  have r0 := PR.c0
  have r1 := PR.c1
  have f0 := PR.f 0
  have f1 := PR.f 1
  have HN := Lib.hid hn
  clear hb4 hn
  go_wp2_with fail
  refine bodyPost_ret (v := .agg #[.bool b4, .slice A4 n4 c4]) (by simp [results, Try.results17, go_sem, *]) rfl ?_
  have hv : zv true (z.natAbs - u.natAbs) = z + u := by rw [zv_true]; omega
  have hq : IsT w4 (.agg #[.bool b4, .slice A4 n4 c4]) (z + u) (max k j + 1) := by rw [← hv]; exact IsT.mono ⟨_, _, _, _, rfl, T4, HN.out⟩ (by omega)
  exact IsT.fin hq PR BB (by omega)

theorem cRefAdd_pn2 (h : IsM w v z k) (g : IsM w v' u j) (hk : k ≤ 500) (hj : j ≤ 500) (hz : 0 ≤ z) (hu : u < 0) (hlt : z.natAbs < u.natAbs) : Calls Try.prog 17 #[v, v'] w (Ans w fun w' v => IsT w' v (z + u) (max k j + 1)) := by
  obtain ⟨s, A, n, c, rfl, Z⟩ := h
  obtain ⟨t, B, m, d, rfl, Z'⟩ := g
  have X : IsM (((w.alloc (.cells #[.bool s, .slice A n c] 32)).alloc (.cells #[.bool t, .slice B m d] 32)).alloc (.cells #[.bool false, .slice none 0 0] 32)) (.agg #[.bool s, .slice A n c]) z k := ⟨_, _, _, _, rfl, ((Z.alloc _).alloc _).alloc _⟩
  have Y : IsM (((w.alloc (.cells #[.bool s, .slice A n c] 32)).alloc (.cells #[.bool t, .slice B m d] 32)).alloc (.cells #[.bool false, .slice none 0 0] 32)) (.agg #[.bool t, .slice B m d]) u j := ⟨_, _, _, _, rfl, ((Z'.alloc _).alloc _).alloc _⟩
  have PA := ((Bz.new w s A n c).alloc (.cells #[.bool t, .slice B m d] 32)).alloc (.cells #[.bool false, .slice none 0 0] 32)
  have PB := (Bz.new2 w (.cells #[.bool s, .slice A n c] 32) t B m d).alloc (.cells #[.bool false, .slice none 0 0] 32)
  have PR := Bz.new3 w (.cells #[.bool s, .slice A n c] 32) (.cells #[.bool t, .slice B m d] 32) false none 0 0
  have BB := bl_trans (bl_trans (bl_alloc w (.cells #[.bool s, .slice A n c] 32)) (bl_alloc _ (.cells #[.bool t, .slice B m d] 32))) (bl_alloc _ (.cells #[.bool false, .slice none 0 0] 32))
  clear Z Z'
  go_enter Try.func17, Try.ntmps17
  go_wp2_with fail
  refine (cRefMade X (by omega)).mono ?_
  rintro e w1 ⟨_, rfl, hb1, b1, A1, n1, c1, rfl, T1, hn1⟩
  obtain rfl : b1 = false := hn1.trans (decide_eq_false (by omega))
  replace PA := PA.below hb1
  replace PB := PB.below hb1
  replace PR := PR.below hb1
  replace Y := st_M (t := false) (B := A1) (m := n1) (d := c1) PA (Y.below hb1)
  have Q1 : IsT _ (.agg #[.bool false, .slice A1 n1 c1]) z k := st_T (t := false) (B := A1) (m := n1) (d := c1) PA ⟨_, _, _, _, rfl, T1, hn1⟩
  replace BB := st_B (bl_trans BB hb1) (Nat.le_refl _) (.bool false) (.slice A1 n1 c1)
  have r0 := PA.c0
  have r1 := PA.c1
  have f0 := PA.f 0
  have f1 := PA.f 1
  replace PB := PB.st2 (g' := w.heap.size) (x := .bool false) (y := .slice A1 n1 c1) (by omega)
  replace PR := PR.st2 (g' := w.heap.size) (x := .bool false) (y := .slice A1 n1 c1) (by omega)
  replace PA := st_P (t := false) (B := A1) (m := n1) (d := c1) PA
  have q0 := PB.c0
  have q1 := PB.c1
  clear hb1 X T1 hn1
  go_wp2_with fail
  refine (cRefMade Y (by omega)).mono ?_
  rintro e w2 ⟨_, rfl, hb2, b2, A2, n2, c2, rfl, T2, hn2⟩
  obtain rfl : b2 = true := hn2.trans (decide_eq_true hu)
  clear r0 r1 f0 f1 q0 q1
  replace PA := PA.below hb2
  replace PB := PB.below hb2
  replace PR := PR.below hb2
  replace Q1 := st_T (t := true) (B := A2) (m := n2) (d := c2) PB (Q1.below hb2)
  have Q2 : IsT _ (.agg #[.bool true, .slice A2 n2 c2]) u j := st_T (t := true) (B := A2) (m := n2) (d := c2) PB ⟨_, _, _, _, rfl, T2, hn2⟩
  replace BB := st_B (bl_trans BB hb2) (show w.heap.size ≤ w.heap.size + 1 by omega) (.bool true) (.slice A2 n2 c2)
  have r0 := PB.c0
  have r1 := PB.c1
  have f0 := PB.f 0
  have f1 := PB.f 1
  replace PA := PA.st2 (g' := w.heap.size + 1) (x := .bool true) (y := .slice A2 n2 c2) (by omega)
  replace PR := PR.st2 (g' := w.heap.size + 1) (x := .bool true) (y := .slice A2 n2 c2) (by omega)
  replace PB := st_P (t := true) (B := A2) (m := n2) (d := c2) PB
  have a0 := PA.c0
  have a1 := PA.c1
  have q0 := PB.c0
  have q1 := PB.c1
  replace Q1 := Q1.nm
  replace Q2 := Q2.nm
  clear hb2 Y T2 hn2
  go_wp2_with fail
  refine (subRN_no Q1 Q2 (by omega) (by omega) hlt).mono ?_
  rintro e w3 ⟨A3, n3, c3, rfl, T3, hb3⟩
  clear r0 r1 f0 f1 a0 a1 q0 q1
  replace PA := PA.below hb3
  replace PB := PB.below hb3
  replace PR := PR.below hb3
  replace Q1 := Q1.below hb3
  replace Q2 := Q2.below hb3
  replace BB := bl_trans BB hb3
  have a0 := PA.c0
  have a1 := PA.c1
  have q0 := PB.c0
  have q1 := PB.c1
  clear hb3 T3
  go_wp2_with fail
  refine (subRN_yes Q2 Q1 (by omega) (by omega) (Nat.le_of_lt hlt)).mono ?_
  rintro e w5 ⟨A5, n5, c5, rfl, T5, hb5⟩
  clear a0 a1 q0 q1
  replace PB := PB.below hb5
  replace PR := PR.below hb5
  replace BB := bl_trans BB hb5
  have q0 := PB.c0
  clear hb5 PA Q1 Q2
  go_wp2_with fail
  refine (cRefOf true T5.nm (by omega)).mono ?_
  rintro e w4 ⟨_, rfl, hb4, b4, A4, n4, c4, rfl, T4, hn⟩
  replace PR := PR.below hb4
  replace BB := bl_trans BB hb4
  have r0 := PR.c0
  have r1 := PR.c1
  have f0 := PR.f 0
  have f1 := PR.f 1
  have HN := Lib.hid hn
  clear hb4 hn q0
  go_wp2_with fail
  refine bodyPost_ret (v := .agg #[.bool b4, .slice A4 n4 c4]) (by simp [results, Try.results17, go_sem, *]) rfl ?_
  have hv : zv true (u.natAbs - z.natAbs) = z + u := by rw [zv_true]; omega
  have hq : IsT w4 (.agg #[.bool b4, .slice A4 n4 c4]) (z + u) (max k j + 1) := by rw [← hv]; exact IsT.mono ⟨_, _, _, _, rfl, T4, HN.out⟩ (by omega)
  exact IsT.fin hq PR BB (by omega)

theorem cRefAdd_np2 (h : IsM w v z k) (g : IsM w v' u j) (hk : k ≤ 500) (hj : j ≤ 500) (hz : z < 0) (hu : 0 ≤ u) (hlt : z.natAbs < u.natAbs) : Calls Try.prog 17 #[v, v'] w (Ans w fun w' v => IsT w' v (z + u) (max k j + 1)) := by
  obtain ⟨s, A, n, c, rfl, Z⟩ := h
  obtain ⟨t, B, m, d, rfl, Z'⟩ := g
  have X : IsM (((w.alloc (.cells #[.bool s, .slice A n c] 32)).alloc (.cells #[.bool t, .slice B m d] 32)).alloc (.cells #[.bool false, .slice none 0 0] 32)) (.agg #[.bool s, .slice A n c]) z k := ⟨_, _, _, _, rfl, ((Z.alloc _).alloc _).alloc _⟩
  have Y : IsM (((w.alloc (.cells #[.bool s, .slice A n c] 32)).alloc (.cells #[.bool t, .slice B m d] 32)).alloc (.cells #[.bool false, .slice none 0 0] 32)) (.agg #[.bool t, .slice B m d]) u j := ⟨_, _, _, _, rfl, ((Z'.alloc _).alloc _).alloc _⟩
  have PA := ((Bz.new w s A n c).alloc (.cells #[.bool t, .slice B m d] 32)).alloc (.cells #[.bool false, .slice none 0 0] 32)
  have PB := (Bz.new2 w (.cells #[.bool s, .slice A n c] 32) t B m d).alloc (.cells #[.bool false, .slice none 0 0] 32)
  have PR := Bz.new3 w (.cells #[.bool s, .slice A n c] 32) (.cells #[.bool t, .slice B m d] 32) false none 0 0
  have BB := bl_trans (bl_trans (bl_alloc w (.cells #[.bool s, .slice A n c] 32)) (bl_alloc _ (.cells #[.bool t, .slice B m d] 32))) (bl_alloc _ (.cells #[.bool false, .slice none 0 0] 32))
  clear Z Z'
  go_enter Try.func17, Try.ntmps17
  go_wp2_with fail
  refine (cRefMade X (by omega)).mono ?_
  rintro e w1 ⟨_, rfl, hb1, b1, A1, n1, c1, rfl, T1, hn1⟩
  obtain rfl : b1 = true := hn1.trans (decide_eq_true hz)
  replace PA := PA.below hb1
  replace PB := PB.below hb1
  replace PR := PR.below hb1
  replace Y := st_M (t := true) (B := A1) (m := n1) (d := c1) PA (Y.below hb1)
  have Q1 : IsT _ (.agg #[.bool true, .slice A1 n1 c1]) z k := st_T (t := true) (B := A1) (m := n1) (d := c1) PA ⟨_, _, _, _, rfl, T1, hn1⟩
  replace BB := st_B (bl_trans BB hb1) (Nat.le_refl _) (.bool true) (.slice A1 n1 c1)
  have r0 := PA.c0
  have r1 := PA.c1
  have f0 := PA.f 0
  have f1 := PA.f 1
  replace PB := PB.st2 (g' := w.heap.size) (x := .bool true) (y := .slice A1 n1 c1) (by omega)
  replace PR := PR.st2 (g' := w.heap.size) (x := .bool true) (y := .slice A1 n1 c1) (by omega)
  replace PA := st_P (t := true) (B := A1) (m := n1) (d := c1) PA
  have q0 := PB.c0
  have q1 := PB.c1
  clear hb1 X T1 hn1
  go_wp2_with fail
  refine (cRefMade Y (by omega)).mono ?_
  rintro e w2 ⟨_, rfl, hb2, b2, A2, n2, c2, rfl, T2, hn2⟩
  obtain rfl : b2 = false := hn2.trans (decide_eq_false (by omega))
  clear r0 r1 f0 f1 q0 q1
  replace PA := PA.below hb2
  replace PB := PB.below hb2
  replace PR := PR.below hb2
  replace Q1 := st_T (t := false) (B := A2) (m := n2) (d := c2) PB (Q1.below hb2)
  have Q2 : IsT _ (.agg #[.bool false, .slice A2 n2 c2]) u j := st_T (t := false) (B := A2) (m := n2) (d := c2) PB ⟨_, _, _, _, rfl, T2, hn2⟩
  replace BB := st_B (bl_trans BB hb2) (show w.heap.size ≤ w.heap.size + 1 by omega) (.bool false) (.slice A2 n2 c2)
  have r0 := PB.c0
  have r1 := PB.c1
  have f0 := PB.f 0
  have f1 := PB.f 1
  replace PA := PA.st2 (g' := w.heap.size + 1) (x := .bool false) (y := .slice A2 n2 c2) (by omega)
  replace PR := PR.st2 (g' := w.heap.size + 1) (x := .bool false) (y := .slice A2 n2 c2) (by omega)
  replace PB := st_P (t := false) (B := A2) (m := n2) (d := c2) PB
  have a0 := PA.c0
  have a1 := PA.c1
  have q0 := PB.c0
  have q1 := PB.c1
  replace Q1 := Q1.nm
  replace Q2 := Q2.nm
  clear hb2 Y T2 hn2
  go_wp2_with fail
  refine (subRN_no Q1 Q2 (by omega) (by omega) hlt).mono ?_
  rintro e w3 ⟨A3, n3, c3, rfl, T3, hb3⟩
  clear r0 r1 f0 f1 a0 a1 q0 q1
  replace PA := PA.below hb3
  replace PB := PB.below hb3
  replace PR := PR.below hb3
  replace Q1 := Q1.below hb3
  replace Q2 := Q2.below hb3
  replace BB := bl_trans BB hb3
  have a0 := PA.c0
  have a1 := PA.c1
  have q0 := PB.c0
  have q1 := PB.c1
  clear hb3 T3
  go_wp2_with fail
  refine (subRN_yes Q2 Q1 (by omega) (by omega) (Nat.le_of_lt hlt)).mono ?_
  rintro e w5 ⟨A5, n5, c5, rfl, T5, hb5⟩
  clear a0 a1 q0 q1
  replace PB := PB.below hb5
  replace PR := PR.below hb5
  replace BB := bl_trans BB hb5
  have q0 := PB.c0
  clear hb5 PA Q1 Q2
  go_wp2_with fail
  refine (cRefOf false T5.nm (by omega)).mono ?_
  rintro e w4 ⟨_, rfl, hb4, b4, A4, n4, c4, rfl, T4, hn⟩
  replace PR := PR.below hb4
  replace BB := bl_trans BB hb4
  have r0 := PR.c0
  have r1 := PR.c1
  have f0 := PR.f 0
  have f1 := PR.f 1
  have HN := Lib.hid hn
  clear hb4 hn q0
  go_wp2_with fail
  refine bodyPost_ret (v := .agg #[.bool b4, .slice A4 n4 c4]) (by simp [results, Try.results17, go_sem, *]) rfl ?_
  have hv : zv false (u.natAbs - z.natAbs) = z + u := by rw [zv_false]; omega
  have hq : IsT w4 (.agg #[.bool b4, .slice A4 n4 c4]) (z + u) (max k j + 1) := by rw [← hv]; exact IsT.mono ⟨_, _, _, _, rfl, T4, HN.out⟩ (by omega)
  exact IsT.fin hq PR BB (by omega)

theorem cRefAdd (h : IsM w v z k) (g : IsM w v' u j) (hk : k ≤ 500) (hj : j ≤ 500) : Calls Try.prog 17 #[v, v'] w (Ans w fun w' v => IsT w' v (z + u) (max k j + 1)) := by
  by_cases hz : z < 0 <;> by_cases hu : u < 0
  · exact cRefAdd_nn h g hk hj hz hu
  · by_cases hc : u.natAbs ≤ z.natAbs
    · exact cRefAdd_np1 h g hk hj hz (by omega) hc
    · exact cRefAdd_np2 h g hk hj hz (by omega) (by omega)
  · by_cases hc : u.natAbs ≤ z.natAbs
    · exact cRefAdd_pn1 h g hk hj (by omega) hu hc
    · exact cRefAdd_pn2 h g hk hj (by omega) hu (by omega)
  · exact cRefAdd_pp h g hk hj (by omega) (by omega)
end

end Go.Proofs.Ythjgonfohjgfaaa
