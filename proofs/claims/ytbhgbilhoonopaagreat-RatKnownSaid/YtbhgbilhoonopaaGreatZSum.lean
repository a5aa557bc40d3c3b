/- big.Of, Neg, plus, Sub, times: sums and products of two. -/
import Derived.Test.YtbhgbilhoonopaaGreatZBase
namespace Go.Proofs.YtbhgbilhoonopaaGreat
open Go.RowKit
set_option linter.unusedVariables false
set_option maxRecDepth 100000

section
variable {w : World} {s t : Bool} {A B : Option Addr} {n c m d x y k j : Nat} {z u : Int}

set_option maxHeartbeats 400000 in
theorem ofZ (s : Bool) (h : Nm w A n c x k) (hk : k ≤ 1000) : Calls Tryz.prog 89 #[.bool s, .slice A n c] w (GivZ w (zv s x) k) := by
  have h1 := h.lt
  have hl := h.le
  obtain ⟨xs, hx, rfl⟩ := h.row
  go_enter Tryz.func89, Tryz.ntmps89
  go_wp2_with fail
  refine (trim_any _ _ _ _ _ (hx.alloc _) (by omega)).mono ?_
  rintro e w1 ⟨A1, c1, rfl, ho, hb1⟩
  go_wp2_with fail
  refine (signed_any _ _ _ _ _).mono ?_
  rintro e w2 ⟨rfl, hb2⟩
  have R := ((Bz.new w false none 0 0).below hb1).below hb2
  have Z := (zt_signed (s := s) ho (M.lims_length_le.2 h1)).below hb2
  have BB := bl_trans (bl_trans (bl_alloc w _) hb1) hb2
  have c0 := R.c0
  have c1' := R.c1
  have f0 := R.f 0
  have f1 := R.f 1
  clear R hb1 hb2
  go_wp2_with fail
  exact bodyPost_ret (v := .agg #[.bool (s && decide (0 < (M.lims (M.val xs)).length)), .slice A1 (M.lims (M.val xs)).length c1]) (by simp [results, Tryz.results89, go_sem, *]) rfl ⟨_, _, _, _, rfl, fin_z Z BB (Nat.le_refl _) (by simp) _ _⟩

set_option maxHeartbeats 1000000 in
theorem plus_false (h : Nm w A n c x k) (g : Nm w B m d y j) (hk : k ≤ 1000) (hj : j ≤ 1000) : Calls Tryz.prog 138 #[.agg #[.bool false, .slice A n c], .agg #[.bool false, .slice B m d]] w (GivZ w (zv false (x + y)) (max k j + 1)) := by
  have h1 := h.lt
  have g1 := g.lt
  have hl := h.le
  have gl := g.le
  obtain ⟨xs, hx, rfl⟩ := h.row
  obtain ⟨ys, hy, rfl⟩ := g.row
  have PA := (((Bz.new w false A n c).alloc (.cells #[.bool false, .slice B m d] 24)).alloc (.cells #[.bool false, .slice none 0 0] 24)).drew
  have PB := ((Bz.new2 w (.cells #[.bool false, .slice A n c] 24) false B m d).alloc (.cells #[.bool false, .slice none 0 0] 24)).drew
  have PR := (Bz.new3 w (.cells #[.bool false, .slice A n c] 24) (.cells #[.bool false, .slice B m d] 24) false none 0 0).drew
  have BB := Below.drew (bl_trans (bl_trans (bl_alloc w (.cells #[.bool false, .slice A n c] 24)) (bl_alloc _ (.cells #[.bool false, .slice B m d] 24))) (bl_alloc _ (.cells #[.bool false, .slice none 0 0] 24)))
  go_enter Tryz.func138, Tryz.ntmps138
  go_wp2_with fail
  go_region_held3 (fun w' => w'.cell? ⟨w.heap.size, 0, none⟩ = some (.bool false) ∧ w'.cell? ⟨w.heap.size, 1, none⟩ = some (.slice A n c) ∧ w'.cell? ⟨w.heap.size + 1, 0, none⟩ = some (.bool false) ∧ w'.cell? ⟨w.heap.size + 1, 1, none⟩ = some (.slice B m d))
    (first | exact ⟨(Q2A.st2 (by omega)).c0, (Q2A.st2 (by omega)).c1, (Q2B.st2 (by omega)).c0, (Q2B.st2 (by omega)).c1⟩ | exact ⟨Q2A.c0, Q2A.c1, Q2B.c0, Q2B.c1⟩ | exact ⟨QA.c0, QA.c1, QB.c0, QB.c1⟩ | exact ⟨PA.c0, PA.c1, PB.c0, PB.c1⟩)
    (first
      | (go_at_call 118; refine (add_any _ _ _ _ _ _ _ _ _ ((((hx.alloc _).alloc _).alloc _).drew) ((((hy.alloc _).alloc _).alloc _).drew) (by omega) (by omega)).mono ?_; rintro e w1 ⟨A1, c1, rfl, ho, hb1⟩; have QA := PA.below hb1; have QB := PB.below hb1; have QR := PR.below hb1; replace BB := bl_trans BB hb1)
      | (go_at_call 119; refine (signed_any _ _ _ _ _).mono ?_; rintro e w2 ⟨rfl, hb2⟩; have Q2A := QA.below hb2; have Q2B := QB.below hb2; have Q2R := QR.below hb2; have r0 := Q2R.c0; have r1 := Q2R.c1; have f0 := Q2R.f 0; have f1 := Q2R.f 1; have Z := (zt_signed (s := false) ho (M.lims_length_le.2 (add_lt_pow h1 g1))).below hb2; replace BB := bl_trans BB hb2))
  go_wp2_with fail
  exact bodyPost_ret (v := .agg #[.bool (false && decide (0 < (M.lims (M.val xs + M.val ys)).length)), .slice A1 (M.lims (M.val xs + M.val ys)).length c1]) (by simp [results, Tryz.results138, go_sem, *]) rfl ⟨_, _, _, _, rfl, fin_z Z BB (by omega) (by simp) _ _⟩

set_option maxHeartbeats 1000000 in
theorem plus_true (h : Nm w A n c x k) (g : Nm w B m d y j) (hk : k ≤ 1000) (hj : j ≤ 1000) : Calls Tryz.prog 138 #[.agg #[.bool true, .slice A n c], .agg #[.bool true, .slice B m d]] w (GivZ w (zv true (x + y)) (max k j + 1)) := by
  have h1 := h.lt
  have g1 := g.lt
  have hl := h.le
  have gl := g.le
  obtain ⟨xs, hx, rfl⟩ := h.row
  obtain ⟨ys, hy, rfl⟩ := g.row
  have PA := (((Bz.new w true A n c).alloc (.cells #[.bool true, .slice B m d] 24)).alloc (.cells #[.bool false, .slice none 0 0] 24)).drew
  have PB := ((Bz.new2 w (.cells #[.bool true, .slice A n c] 24) true B m d).alloc (.cells #[.bool false, .slice none 0 0] 24)).drew
  have PR := (Bz.new3 w (.cells #[.bool true, .slice A n c] 24) (.cells #[.bool true, .slice B m d] 24) false none 0 0).drew
  have BB := Below.drew (bl_trans (bl_trans (bl_alloc w (.cells #[.bool true, .slice A n c] 24)) (bl_alloc _ (.cells #[.bool true, .slice B m d] 24))) (bl_alloc _ (.cells #[.bool false, .slice none 0 0] 24)))
  go_enter Tryz.func138, Tryz.ntmps138
  go_wp2_with fail
  go_region_held3 (fun w' => w'.cell? ⟨w.heap.size, 0, none⟩ = some (.bool true) ∧ w'.cell? ⟨w.heap.size, 1, none⟩ = some (.slice A n c) ∧ w'.cell? ⟨w.heap.size + 1, 0, none⟩ = some (.bool true) ∧ w'.cell? ⟨w.heap.size + 1, 1, none⟩ = some (.slice B m d))
    (first | exact ⟨(Q2A.st2 (by omega)).c0, (Q2A.st2 (by omega)).c1, (Q2B.st2 (by omega)).c0, (Q2B.st2 (by omega)).c1⟩ | exact ⟨Q2A.c0, Q2A.c1, Q2B.c0, Q2B.c1⟩ | exact ⟨QA.c0, QA.c1, QB.c0, QB.c1⟩ | exact ⟨PA.c0, PA.c1, PB.c0, PB.c1⟩)
    (first
      | (go_at_call 118; refine (add_any _ _ _ _ _ _ _ _ _ ((((hx.alloc _).alloc _).alloc _).drew) ((((hy.alloc _).alloc _).alloc _).drew) (by omega) (by omega)).mono ?_; rintro e w1 ⟨A1, c1, rfl, ho, hb1⟩; have QA := PA.below hb1; have QB := PB.below hb1; have QR := PR.below hb1; replace BB := bl_trans BB hb1)
      | (go_at_call 119; refine (signed_any _ _ _ _ _).mono ?_; rintro e w2 ⟨rfl, hb2⟩; have Q2A := QA.below hb2; have Q2B := QB.below hb2; have Q2R := QR.below hb2; have r0 := Q2R.c0; have r1 := Q2R.c1; have f0 := Q2R.f 0; have f1 := Q2R.f 1; have Z := (zt_signed (s := true) ho (M.lims_length_le.2 (add_lt_pow h1 g1))).below hb2; replace BB := bl_trans BB hb2))
  go_wp2_with fail
  exact bodyPost_ret (v := .agg #[.bool (true && decide (0 < (M.lims (M.val xs + M.val ys)).length)), .slice A1 (M.lims (M.val xs + M.val ys)).length c1]) (by simp [results, Tryz.results138, go_sem, *]) rfl ⟨_, _, _, _, rfl, fin_z Z BB (by omega) (by simp) _ _⟩

set_option maxHeartbeats 1000000 in
theorem times_false_false (h : Nm w A n c x k) (g : Nm w B m d y j) (hk : k ≤ 1000) (hj : j ≤ 1000) (hm : min k j < 40) : Calls Tryz.prog 109 #[.agg #[.bool false, .slice A n c], .agg #[.bool false, .slice B m d]] w (GivZ w (zv false (x * y)) (k + j)) := by
  have h1 := h.lt
  have g1 := g.lt
  have hl := h.le
  have gl := g.le
  obtain ⟨xs, hx, rfl⟩ := h.row
  obtain ⟨ys, hy, rfl⟩ := g.row
  have e1 := M.lims_length_le.2 h1
  have e2 := M.lims_length_le.2 g1
  have PA := (((Bz.new w false A n c).alloc (.cells #[.bool false, .slice B m d] 24)).alloc (.cells #[.bool false, .slice none 0 0] 24)).drew
  have PB := ((Bz.new2 w (.cells #[.bool false, .slice A n c] 24) false B m d).alloc (.cells #[.bool false, .slice none 0 0] 24)).drew
  have PR := (Bz.new3 w (.cells #[.bool false, .slice A n c] 24) (.cells #[.bool false, .slice B m d] 24) false none 0 0).drew
  have BB := Below.drew (bl_trans (bl_trans (bl_alloc w (.cells #[.bool false, .slice A n c] 24)) (bl_alloc _ (.cells #[.bool false, .slice B m d] 24))) (bl_alloc _ (.cells #[.bool false, .slice none 0 0] 24)))
  go_enter Tryz.func109, Tryz.ntmps109
  go_wp2_with fail
  go_region_held3 (fun w' => w'.cell? ⟨w.heap.size, 0, none⟩ = some (.bool false) ∧ w'.cell? ⟨w.heap.size, 1, none⟩ = some (.slice A n c) ∧ w'.cell? ⟨w.heap.size + 1, 0, none⟩ = some (.bool false) ∧ w'.cell? ⟨w.heap.size + 1, 1, none⟩ = some (.slice B m d))
    (first | exact ⟨(Q2A.st2 (by omega)).c0, (Q2A.st2 (by omega)).c1, (Q2B.st2 (by omega)).c0, (Q2B.st2 (by omega)).c1⟩ | exact ⟨Q2A.c0, Q2A.c1, Q2B.c0, Q2B.c1⟩ | exact ⟨QA.c0, QA.c1, QB.c0, QB.c1⟩ | exact ⟨PA.c0, PA.c1, PB.c0, PB.c1⟩)
    (first
      | (go_at_call 68; refine (mul_few _ _ _ _ _ _ _ _ _ ((((hx.alloc _).alloc _).alloc _).drew) ((((hy.alloc _).alloc _).alloc _).drew) (by omega) (by omega) (by omega)).mono ?_; rintro e w1 ⟨A1, c1, rfl, ho, hb1⟩; have QA := PA.below hb1; have QB := PB.below hb1; have QR := PR.below hb1; replace BB := bl_trans BB hb1)
      | (go_at_call 119; refine (signed_any _ _ _ _ _).mono ?_; rintro e w2 ⟨rfl, hb2⟩; have Q2A := QA.below hb2; have Q2B := QB.below hb2; have Q2R := QR.below hb2; have r0 := Q2R.c0; have r1 := Q2R.c1; have f0 := Q2R.f 0; have f1 := Q2R.f 1; have Z := (zt_signed (s := false) ho (M.lims_length_le.2 (mul_lt_pow h1 g1))).below hb2; replace BB := bl_trans BB hb2))
  go_wp2_with fail
  exact bodyPost_ret (v := .agg #[.bool (false && decide (0 < (M.lims (M.val xs * M.val ys)).length)), .slice A1 (M.lims (M.val xs * M.val ys)).length c1]) (by simp [results, Tryz.results109, go_sem, *]) rfl ⟨_, _, _, _, rfl, fin_z Z BB (by omega) (by simp) _ _⟩

set_option maxHeartbeats 1000000 in
theorem times_false_true (h : Nm w A n c x k) (g : Nm w B m d y j) (hk : k ≤ 1000) (hj : j ≤ 1000) (hm : min k j < 40) : Calls Tryz.prog 109 #[.agg #[.bool false, .slice A n c], .agg #[.bool true, .slice B m d]] w (GivZ w (zv true (x * y)) (k + j)) := by
  have h1 := h.lt
  have g1 := g.lt
  have hl := h.le
  have gl := g.le
  obtain ⟨xs, hx, rfl⟩ := h.row
  obtain ⟨ys, hy, rfl⟩ := g.row
  have e1 := M.lims_length_le.2 h1
  have e2 := M.lims_length_le.2 g1
  have PA := (((Bz.new w false A n c).alloc (.cells #[.bool true, .slice B m d] 24)).alloc (.cells #[.bool false, .slice none 0 0] 24)).drew
  have PB := ((Bz.new2 w (.cells #[.bool false, .slice A n c] 24) true B m d).alloc (.cells #[.bool false, .slice none 0 0] 24)).drew
  have PR := (Bz.new3 w (.cells #[.bool false, .slice A n c] 24) (.cells #[.bool true, .slice B m d] 24) false none 0 0).drew
  have BB := Below.drew (bl_trans (bl_trans (bl_alloc w (.cells #[.bool false, .slice A n c] 24)) (bl_alloc _ (.cells #[.bool true, .slice B m d] 24))) (bl_alloc _ (.cells #[.bool false, .slice none 0 0] 24)))
  go_enter Tryz.func109, Tryz.ntmps109
  go_wp2_with fail
  go_region_held3 (fun w' => w'.cell? ⟨w.heap.size, 0, none⟩ = some (.bool false) ∧ w'.cell? ⟨w.heap.size, 1, none⟩ = some (.slice A n c) ∧ w'.cell? ⟨w.heap.size + 1, 0, none⟩ = some (.bool true) ∧ w'.cell? ⟨w.heap.size + 1, 1, none⟩ = some (.slice B m d))
    (first | exact ⟨(Q2A.st2 (by omega)).c0, (Q2A.st2 (by omega)).c1, (Q2B.st2 (by omega)).c0, (Q2B.st2 (by omega)).c1⟩ | exact ⟨Q2A.c0, Q2A.c1, Q2B.c0, Q2B.c1⟩ | exact ⟨QA.c0, QA.c1, QB.c0, QB.c1⟩ | exact ⟨PA.c0, PA.c1, PB.c0, PB.c1⟩)
    (first
      | (go_at_call 68; refine (mul_few _ _ _ _ _ _ _ _ _ ((((hx.alloc _).alloc _).alloc _).drew) ((((hy.alloc _).alloc _).alloc _).drew) (by omega) (by omega) (by omega)).mono ?_; rintro e w1 ⟨A1, c1, rfl, ho, hb1⟩; have QA := PA.below hb1; have QB := PB.below hb1; have QR := PR.below hb1; replace BB := bl_trans BB hb1)
      | (go_at_call 119; refine (signed_any _ _ _ _ _).mono ?_; rintro e w2 ⟨rfl, hb2⟩; have Q2A := QA.below hb2; have Q2B := QB.below hb2; have Q2R := QR.below hb2; have r0 := Q2R.c0; have r1 := Q2R.c1; have f0 := Q2R.f 0; have f1 := Q2R.f 1; have Z := (zt_signed (s := true) ho (M.lims_length_le.2 (mul_lt_pow h1 g1))).below hb2; replace BB := bl_trans BB hb2))
  go_wp2_with fail
  exact bodyPost_ret (v := .agg #[.bool (true && decide (0 < (M.lims (M.val xs * M.val ys)).length)), .slice A1 (M.lims (M.val xs * M.val ys)).length c1]) (by simp [results, Tryz.results109, go_sem, *]) rfl ⟨_, _, _, _, rfl, fin_z Z BB (by omega) (by simp) _ _⟩

set_option maxHeartbeats 1000000 in
theorem times_true_false (h : Nm w A n c x k) (g : Nm w B m d y j) (hk : k ≤ 1000) (hj : j ≤ 1000) (hm : min k j < 40) : Calls Tryz.prog 109 #[.agg #[.bool true, .slice A n c], .agg #[.bool false, .slice B m d]] w (GivZ w (zv true (x * y)) (k + j)) := by
  have h1 := h.lt
  have g1 := g.lt
  have hl := h.le
  have gl := g.le
  obtain ⟨xs, hx, rfl⟩ := h.row
  obtain ⟨ys, hy, rfl⟩ := g.row
  have e1 := M.lims_length_le.2 h1
  have e2 := M.lims_length_le.2 g1
  have PA := (((Bz.new w true A n c).alloc (.cells #[.bool false, .slice B m d] 24)).alloc (.cells #[.bool false, .slice none 0 0] 24)).drew
  have PB := ((Bz.new2 w (.cells #[.bool true, .slice A n c] 24) false B m d).alloc (.cells #[.bool false, .slice none 0 0] 24)).drew
  have PR := (Bz.new3 w (.cells #[.bool true, .slice A n c] 24) (.cells #[.bool false, .slice B m d] 24) false none 0 0).drew
  have BB := Below.drew (bl_trans (bl_trans (bl_alloc w (.cells #[.bool true, .slice A n c] 24)) (bl_alloc _ (.cells #[.bool false, .slice B m d] 24))) (bl_alloc _ (.cells #[.bool false, .slice none 0 0] 24)))
  go_enter Tryz.func109, Tryz.ntmps109
  go_wp2_with fail
  go_region_held3 (fun w' => w'.cell? ⟨w.heap.size, 0, none⟩ = some (.bool true) ∧ w'.cell? ⟨w.heap.size, 1, none⟩ = some (.slice A n c) ∧ w'.cell? ⟨w.heap.size + 1, 0, none⟩ = some (.bool false) ∧ w'.cell? ⟨w.heap.size + 1, 1, none⟩ = some (.slice B m d))
    (first | exact ⟨(Q2A.st2 (by omega)).c0, (Q2A.st2 (by omega)).c1, (Q2B.st2 (by omega)).c0, (Q2B.st2 (by omega)).c1⟩ | exact ⟨Q2A.c0, Q2A.c1, Q2B.c0, Q2B.c1⟩ | exact ⟨QA.c0, QA.c1, QB.c0, QB.c1⟩ | exact ⟨PA.c0, PA.c1, PB.c0, PB.c1⟩)
    (first
      | (go_at_call 68; refine (mul_few _ _ _ _ _ _ _ _ _ ((((hx.alloc _).alloc _).alloc _).drew) ((((hy.alloc _).alloc _).alloc _).drew) (by omega) (by omega) (by omega)).mono ?_; rintro e w1 ⟨A1, c1, rfl, ho, hb1⟩; have QA := PA.below hb1; have QB := PB.below hb1; have QR := PR.below hb1; replace BB := bl_trans BB hb1)
      | (go_at_call 119; refine (signed_any _ _ _ _ _).mono ?_; rintro e w2 ⟨rfl, hb2⟩; have Q2A := QA.below hb2; have Q2B := QB.below hb2; have Q2R := QR.below hb2; have r0 := Q2R.c0; have r1 := Q2R.c1; have f0 := Q2R.f 0; have f1 := Q2R.f 1; have Z := (zt_signed (s := true) ho (M.lims_length_le.2 (mul_lt_pow h1 g1))).below hb2; replace BB := bl_trans BB hb2))
  go_wp2_with fail
  exact bodyPost_ret (v := .agg #[.bool (true && decide (0 < (M.lims (M.val xs * M.val ys)).length)), .slice A1 (M.lims (M.val xs * M.val ys)).length c1]) (by simp [results, Tryz.results109, go_sem, *]) rfl ⟨_, _, _, _, rfl, fin_z Z BB (by omega) (by simp) _ _⟩

set_option maxHeartbeats 1000000 in
theorem times_true_true (h : Nm w A n c x k) (g : Nm w B m d y j) (hk : k ≤ 1000) (hj : j ≤ 1000) (hm : min k j < 40) : Calls Tryz.prog 109 #[.agg #[.bool true, .slice A n c], .agg #[.bool true, .slice B m d]] w (GivZ w (zv false (x * y)) (k + j)) := by
  have h1 := h.lt
  have g1 := g.lt
  have hl := h.le
  have gl := g.le
  obtain ⟨xs, hx, rfl⟩ := h.row
  obtain ⟨ys, hy, rfl⟩ := g.row
  have e1 := M.lims_length_le.2 h1
  have e2 := M.lims_length_le.2 g1
  have PA := (((Bz.new w true A n c).alloc (.cells #[.bool true, .slice B m d] 24)).alloc (.cells #[.bool false, .slice none 0 0] 24)).drew
  have PB := ((Bz.new2 w (.cells #[.bool true, .slice A n c] 24) true B m d).alloc (.cells #[.bool false, .slice none 0 0] 24)).drew
  have PR := (Bz.new3 w (.cells #[.bool true, .slice A n c] 24) (.cells #[.bool true, .slice B m d] 24) false none 0 0).drew
  have BB := Below.drew (bl_trans (bl_trans (bl_alloc w (.cells #[.bool true, .slice A n c] 24)) (bl_alloc _ (.cells #[.bool true, .slice B m d] 24))) (bl_alloc _ (.cells #[.bool false, .slice none 0 0] 24)))
  go_enter Tryz.func109, Tryz.ntmps109
  go_wp2_with fail
  go_region_held3 (fun w' => w'.cell? ⟨w.heap.size, 0, none⟩ = some (.bool true) ∧ w'.cell? ⟨w.heap.size, 1, none⟩ = some (.slice A n c) ∧ w'.cell? ⟨w.heap.size + 1, 0, none⟩ = some (.bool true) ∧ w'.cell? ⟨w.heap.size + 1, 1, none⟩ = some (.slice B m d))
    (first | exact ⟨(Q2A.st2 (by omega)).c0, (Q2A.st2 (by omega)).c1, (Q2B.st2 (by omega)).c0, (Q2B.st2 (by omega)).c1⟩ | exact ⟨Q2A.c0, Q2A.c1, Q2B.c0, Q2B.c1⟩ | exact ⟨QA.c0, QA.c1, QB.c0, QB.c1⟩ | exact ⟨PA.c0, PA.c1, PB.c0, PB.c1⟩)
    (first
      | (go_at_call 68; refine (mul_few _ _ _ _ _ _ _ _ _ ((((hx.alloc _).alloc _).alloc _).drew) ((((hy.alloc _).alloc _).alloc _).drew) (by omega) (by omega) (by omega)).mono ?_; rintro e w1 ⟨A1, c1, rfl, ho, hb1⟩; have QA := PA.below hb1; have QB := PB.below hb1; have QR := PR.below hb1; replace BB := bl_trans BB hb1)
      | (go_at_call 119; refine (signed_any _ _ _ _ _).mono ?_; rintro e w2 ⟨rfl, hb2⟩; have Q2A := QA.below hb2; have Q2B := QB.below hb2; have Q2R := QR.below hb2; have r0 := Q2R.c0; have r1 := Q2R.c1; have f0 := Q2R.f 0; have f1 := Q2R.f 1; have Z := (zt_signed (s := false) ho (M.lims_length_le.2 (mul_lt_pow h1 g1))).below hb2; replace BB := bl_trans BB hb2))
  go_wp2_with fail
  exact bodyPost_ret (v := .agg #[.bool (false && decide (0 < (M.lims (M.val xs * M.val ys)).length)), .slice A1 (M.lims (M.val xs * M.val ys)).length c1]) (by simp [results, Tryz.results109, go_sem, *]) rfl ⟨_, _, _, _, rfl, fin_z Z BB (by omega) (by simp) _ _⟩

set_option maxHeartbeats 1000000 in
theorem minus_false (h : Nm w A n c x k) (g : Nm w B m d y j) (hk : k ≤ 1000) (hj : j ≤ 1000) (hle : y ≤ x) : Calls Tryz.prog 138 #[.agg #[.bool false, .slice A n c], .agg #[.bool true, .slice B m d]] w (GivZ w (zv false (x - y)) (max k j + 1)) := by
  have h1 := h.lt
  have g1 := g.lt
  have hl := h.le
  have gl := g.le
  obtain ⟨xs, hx, rfl⟩ := h.row
  obtain ⟨ys, hy, rfl⟩ := g.row
  have PA := (((Bz.new w false A n c).alloc (.cells #[.bool true, .slice B m d] 24)).alloc (.cells #[.bool false, .slice none 0 0] 24))
  have PB := ((Bz.new2 w (.cells #[.bool false, .slice A n c] 24) true B m d).alloc (.cells #[.bool false, .slice none 0 0] 24))
  have PR := (Bz.new3 w (.cells #[.bool false, .slice A n c] 24) (.cells #[.bool true, .slice B m d] 24) false none 0 0)
  have BB := (bl_trans (bl_trans (bl_alloc w (.cells #[.bool false, .slice A n c] 24)) (bl_alloc _ (.cells #[.bool true, .slice B m d] 24))) (bl_alloc _ (.cells #[.bool false, .slice none 0 0] 24)))
  go_enter Tryz.func138, Tryz.ntmps138
  go_wp2_with fail
  refine (sub_any _ _ _ _ _ _ _ _ _ (((hx.alloc _).alloc _).alloc _) (((hy.alloc _).alloc _).alloc _) (by omega) (by omega)).mono fun e w1 r => ?_
  rcases r with ⟨_, r⟩ | ⟨h0, r⟩
  · obtain ⟨A1, c1, rfl, ho, hb1⟩ := r
    have a0 := (PA.below hb1).c0
    replace PR := PR.below hb1
    replace BB := bl_trans BB hb1
    clear PA PB hb1
    go_wp2_with fail
    refine (signed_any _ _ _ _ _).mono ?_
    rintro e w2 ⟨rfl, hb2⟩
    have Z := (zt_signed (s := false) (k := max k j + 1) ho (Nat.le_trans (M.lims_length_le.2 (Nat.lt_of_le_of_lt (Nat.sub_le _ _) h1)) (by omega))).below hb2
    replace PR := PR.below hb2
    replace BB := bl_trans BB hb2
    have r0 := PR.c0
    have r1 := PR.c1
    have f0 := PR.f 0
    have f1 := PR.f 1
    clear a0 hb2
    go_wp2_with fail
    exact bodyPost_ret (v := .agg #[.bool (false && decide (0 < (M.lims (M.val xs - M.val ys)).length)), .slice A1 (M.lims (M.val xs - M.val ys)).length c1]) (by simp [results, Tryz.results138, go_sem, *]) rfl ⟨_, _, _, _, rfl, fin_z Z BB (by omega) (by simp) _ _⟩
  · omega

set_option maxHeartbeats 1000000 in
theorem under_false (h : Nm w A n c x k) (g : Nm w B m d y j) (hk : k ≤ 1000) (hj : j ≤ 1000) (hlt : x < y) : Calls Tryz.prog 138 #[.agg #[.bool false, .slice A n c], .agg #[.bool true, .slice B m d]] w (GivZ w (zv true (y - x)) (max k j + 1)) := by
  have h1 := h.lt
  have g1 := g.lt
  have hl := h.le
  have gl := g.le
  obtain ⟨xs, hx, rfl⟩ := h.row
  obtain ⟨ys, hy, rfl⟩ := g.row
  have PA := (((Bz.new w false A n c).alloc (.cells #[.bool true, .slice B m d] 24)).alloc (.cells #[.bool false, .slice none 0 0] 24))
  have PB := ((Bz.new2 w (.cells #[.bool false, .slice A n c] 24) true B m d).alloc (.cells #[.bool false, .slice none 0 0] 24))
  have PR := (Bz.new3 w (.cells #[.bool false, .slice A n c] 24) (.cells #[.bool true, .slice B m d] 24) false none 0 0)
  have BB := (bl_trans (bl_trans (bl_alloc w (.cells #[.bool false, .slice A n c] 24)) (bl_alloc _ (.cells #[.bool true, .slice B m d] 24))) (bl_alloc _ (.cells #[.bool false, .slice none 0 0] 24)))
  go_enter Tryz.func138, Tryz.ntmps138
  go_wp2_with fail
  refine (sub_any _ _ _ _ _ _ _ _ _ (((hx.alloc _).alloc _).alloc _) (((hy.alloc _).alloc _).alloc _) (by omega) (by omega)).mono fun e w1 r => ?_
  rcases r with ⟨h0, r⟩ | ⟨_, r⟩
  · omega
  · obtain ⟨A0, c0, rfl, _, hb1⟩ := r
    replace PA := PA.below hb1
    replace PB := PB.below hb1
    have HX := ((((hx.alloc _).alloc _).alloc _).below hb1)
    have HY := ((((hy.alloc _).alloc _).alloc _).below hb1)
    have a1 := PA.c1
    have b1 := PB.c1
    replace PR := PR.below hb1
    have hs := PR.lt
    replace BB := bl_trans BB hb1
    clear hb1
    go_wp2_with fail
    refine (sub_any _ _ _ _ _ _ _ _ _ HY HX (by omega) (by omega)).mono fun e w3 r => ?_
    rcases r with ⟨_, r⟩ | ⟨h0, r⟩
    · obtain ⟨A1, c1, rfl, ho, hb1⟩ := r
      have b0 := (PB.below hb1).c0
      replace PR := PR.below hb1
      replace BB := bl_trans BB hb1
      clear PA PB hb1 a1 b1 HX HY
      go_wp2_with fail
      refine (signed_any _ _ _ _ _).mono ?_
      rintro e w2 ⟨rfl, hb2⟩
      have Z := (zt_signed (s := true) (k := max k j + 1) ho (Nat.le_trans (M.lims_length_le.2 (Nat.lt_of_le_of_lt (Nat.sub_le _ _) g1)) (by omega))).below hb2
      replace BB' := bl_trans BB hb2
      replace PR := PR.below hb2
      have r0 := PR.c0
      have r1 := PR.c1
      have f0 := PR.f 0
      have f1 := PR.f 1
      clear b0 hb2
      go_wp2_with fail
      exact bodyPost_ret (v := .agg #[.bool (true && decide (0 < (M.lims (M.val ys - M.val xs)).length)), .slice A1 (M.lims (M.val ys - M.val xs)).length c1]) (by simp [results, Tryz.results138, go_sem, *]) rfl ⟨_, _, _, _, rfl, fin_z Z BB' (by omega) (by omega) _ _⟩
    · omega

set_option maxHeartbeats 1000000 in
theorem minus_true (h : Nm w A n c x k) (g : Nm w B m d y j) (hk : k ≤ 1000) (hj : j ≤ 1000) (hle : y ≤ x) : Calls Tryz.prog 138 #[.agg #[.bool true, .slice A n c], .agg #[.bool false, .slice B m d]] w (GivZ w (zv true (x - y)) (max k j + 1)) := by
  have h1 := h.lt
  have g1 := g.lt
  have hl := h.le
  have gl := g.le
  obtain ⟨xs, hx, rfl⟩ := h.row
  obtain ⟨ys, hy, rfl⟩ := g.row
  have PA := (((Bz.new w true A n c).alloc (.cells #[.bool false, .slice B m d] 24)).alloc (.cells #[.bool false, .slice none 0 0] 24))
  have PB := ((Bz.new2 w (.cells #[.bool true, .slice A n c] 24) false B m d).alloc (.cells #[.bool false, .slice none 0 0] 24))
  have PR := (Bz.new3 w (.cells #[.bool true, .slice A n c] 24) (.cells #[.bool false, .slice B m d] 24) false none 0 0)
  have BB := (bl_trans (bl_trans (bl_alloc w (.cells #[.bool true, .slice A n c] 24)) (bl_alloc _ (.cells #[.bool false, .slice B m d] 24))) (bl_alloc _ (.cells #[.bool false, .slice none 0 0] 24)))
  go_enter Tryz.func138, Tryz.ntmps138
  go_wp2_with fail
  refine (sub_any _ _ _ _ _ _ _ _ _ (((hx.alloc _).alloc _).alloc _) (((hy.alloc _).alloc _).alloc _) (by omega) (by omega)).mono fun e w1 r => ?_
  rcases r with ⟨_, r⟩ | ⟨h0, r⟩
  · obtain ⟨A1, c1, rfl, ho, hb1⟩ := r
    have a0 := (PA.below hb1).c0
    replace PR := PR.below hb1
    replace BB := bl_trans BB hb1
    clear PA PB hb1
    go_wp2_with fail
    refine (signed_any _ _ _ _ _).mono ?_
    rintro e w2 ⟨rfl, hb2⟩
    have Z := (zt_signed (s := true) (k := max k j + 1) ho (Nat.le_trans (M.lims_length_le.2 (Nat.lt_of_le_of_lt (Nat.sub_le _ _) h1)) (by omega))).below hb2
    replace PR := PR.below hb2
    replace BB := bl_trans BB hb2
    have r0 := PR.c0
    have r1 := PR.c1
    have f0 := PR.f 0
    have f1 := PR.f 1
    clear a0 hb2
    go_wp2_with fail
    exact bodyPost_ret (v := .agg #[.bool (true && decide (0 < (M.lims (M.val xs - M.val ys)).length)), .slice A1 (M.lims (M.val xs - M.val ys)).length c1]) (by simp [results, Tryz.results138, go_sem, *]) rfl ⟨_, _, _, _, rfl, fin_z Z BB (by omega) (by simp) _ _⟩
  · omega

set_option maxHeartbeats 1000000 in
theorem under_true (h : Nm w A n c x k) (g : Nm w B m d y j) (hk : k ≤ 1000) (hj : j ≤ 1000) (hlt : x < y) : Calls Tryz.prog 138 #[.agg #[.bool true, .slice A n c], .agg #[.bool false, .slice B m d]] w (GivZ w (zv false (y - x)) (max k j + 1)) := by
  have h1 := h.lt
  have g1 := g.lt
  have hl := h.le
  have gl := g.le
  obtain ⟨xs, hx, rfl⟩ := h.row
  obtain ⟨ys, hy, rfl⟩ := g.row
  have PA := (((Bz.new w true A n c).alloc (.cells #[.bool false, .slice B m d] 24)).alloc (.cells #[.bool false, .slice none 0 0] 24))
  have PB := ((Bz.new2 w (.cells #[.bool true, .slice A n c] 24) false B m d).alloc (.cells #[.bool false, .slice none 0 0] 24))
  have PR := (Bz.new3 w (.cells #[.bool true, .slice A n c] 24) (.cells #[.bool false, .slice B m d] 24) false none 0 0)
  have BB := (bl_trans (bl_trans (bl_alloc w (.cells #[.bool true, .slice A n c] 24)) (bl_alloc _ (.cells #[.bool false, .slice B m d] 24))) (bl_alloc _ (.cells #[.bool false, .slice none 0 0] 24)))
  go_enter Tryz.func138, Tryz.ntmps138
  go_wp2_with fail
  refine (sub_any _ _ _ _ _ _ _ _ _ (((hx.alloc _).alloc _).alloc _) (((hy.alloc _).alloc _).alloc _) (by omega) (by omega)).mono fun e w1 r => ?_
  rcases r with ⟨h0, r⟩ | ⟨_, r⟩
  · omega
  · obtain ⟨A0, c0, rfl, _, hb1⟩ := r
    replace PA := PA.below hb1
    replace PB := PB.below hb1
    have HX := ((((hx.alloc _).alloc _).alloc _).below hb1)
    have HY := ((((hy.alloc _).alloc _).alloc _).below hb1)
    have a1 := PA.c1
    have b1 := PB.c1
    replace PR := PR.below hb1
    have hs := PR.lt
    replace BB := bl_trans BB hb1
    clear hb1
    go_wp2_with fail
    refine (sub_any _ _ _ _ _ _ _ _ _ HY HX (by omega) (by omega)).mono fun e w3 r => ?_
    rcases r with ⟨_, r⟩ | ⟨h0, r⟩
    · obtain ⟨A1, c1, rfl, ho, hb1⟩ := r
      have b0 := (PB.below hb1).c0
      replace PR := PR.below hb1
      replace BB := bl_trans BB hb1
      clear PA PB hb1 a1 b1 HX HY
      go_wp2_with fail
      refine (signed_any _ _ _ _ _).mono ?_
      rintro e w2 ⟨rfl, hb2⟩
      have Z := (zt_signed (s := false) (k := max k j + 1) ho (Nat.le_trans (M.lims_length_le.2 (Nat.lt_of_le_of_lt (Nat.sub_le _ _) g1)) (by omega))).below hb2
      replace BB' := bl_trans BB hb2
      replace PR := PR.below hb2
      have r0 := PR.c0
      have r1 := PR.c1
      have f0 := PR.f 0
      have f1 := PR.f 1
      clear b0 hb2
      go_wp2_with fail
      exact bodyPost_ret (v := .agg #[.bool (false && decide (0 < (M.lims (M.val ys - M.val xs)).length)), .slice A1 (M.lims (M.val ys - M.val xs)).length c1]) (by simp [results, Tryz.results138, go_sem, *]) rfl ⟨_, _, _, _, rfl, fin_z Z BB' (by omega) (by omega) _ _⟩
    · omega

end

end Go.Proofs.YtbhgbilhoonopaaGreat
