/- big.fold, Add, Mul: rows of numbers. -/
import Derived.Test.YtbhgbilhoonopaaGreatZB
namespace Go.Proofs.YtbhgbilhoonopaaGreat
open Go.RowKit
set_option linter.unusedVariables false
set_option maxRecDepth 100000

/-- A number in a row. -/
structure ZE where
  b : Bool
  A : Option Addr
  n : Nat
  c : Nat
  z : Int
/-- A row of numbers in memory, from place o of block g on; each has at most K limbs. -/
structure Zs (w : World) (g o : Nat) (ls : List ZE) (K : Nat) : Prop where
  cell : ∀ i e, ls[i]? = some e → w.cell? ⟨g, o + 2 * i, none⟩ = some (.bool e.b) ∧ w.cell? ⟨g, o + 2 * i + 1, none⟩ = some (.slice e.A e.n e.c)
  zm : ∀ e ∈ ls, Zm w e.b e.A e.n e.c e.z K
def sumZ : List ZE → Int
  | [] => 0
  | e :: l => e.z + sumZ l
def prodZ : List ZE → Int
  | [] => 1
  | e :: l => e.z * prodZ l
theorem sumZ_app (l l' : List ZE) : sumZ (l ++ l') = sumZ l + sumZ l' := by
  induction l with
  | nil => simp [sumZ]
  | cons e l ih => simp only [List.cons_append, sumZ, ih]; omega
theorem prodZ_app (l l' : List ZE) : prodZ (l ++ l') = prodZ l * prodZ l' := by
  induction l with
  | nil => simp [prodZ]
  | cons e l ih => simp only [List.cons_append, prodZ, ih, Int.mul_assoc]
theorem sumZ_cut (l : List ZE) (h : Nat) : sumZ (l.take h) + sumZ (l.drop h) = sumZ l := by rw [← sumZ_app, List.take_append_drop]
theorem prodZ_cut (l : List ZE) (h : Nat) : prodZ (l.take h) * prodZ (l.drop h) = prodZ l := by rw [← prodZ_app, List.take_append_drop]

section
variable {w w' : World} {s t : Bool} {A B : Option Addr} {n c m d x y k j g o K : Nat} {z u : Int} {ls : List ZE}
theorem Zm.mono (h : Zm w s A n c z k) (hk : k ≤ j) : Zm w s A n c z j := by
  obtain ⟨v, h1, h2⟩ := h.row
  exact ⟨⟨v, ⟨h1.row, Nat.le_trans h1.le hk⟩, h2⟩⟩
theorem Zt.monoK {base : Nat} (h : Zt w base s A n c z k) (hk : k ≤ j) : Zt w base s A n c z j := ⟨h.own, Nat.le_trans h.le hk, h.neg⟩
theorem Zs.below (h : Zs w g o ls K) (hb : Below w.heap.size w w') : Zs w' g o ls K := by
  refine ⟨fun i e hi => ?_, fun e he => (h.zm e he).below hb⟩
  obtain ⟨h1, h2⟩ := h.cell i e hi
  exact ⟨(hb.cell (World.block_lt_of_cell? w _ h1)).trans h1, (hb.cell (World.block_lt_of_cell? w _ h2)).trans h2⟩
theorem Zs.alloc (h : Zs w g o ls K) (ob : Obj) : Zs (w.alloc ob) g o ls K := h.below (bl_alloc w ob)
theorem Zs.take (h : Zs w g o ls K) (p : Nat) : Zs w g o (ls.take p) K := by
  refine ⟨fun i e hi => h.cell i e ?_, fun e he => h.zm e (List.mem_of_mem_take he)⟩
  rw [List.getElem?_take] at hi
  split at hi
  · exact hi
  · cases hi
theorem Zs.drop (h : Zs w g o ls K) (p : Nat) {q : Nat} (hq : q = o + 2 * p) : Zs w g q (ls.drop p) K := by
  refine ⟨fun i e hi => ?_, fun e he => h.zm e (List.mem_of_mem_drop he)⟩
  rw [List.getElem?_drop] at hi
  have := h.cell (p + i) e hi
  rw [show o + 2 * (p + i) = q + 2 * i by omega] at this
  exact this
end

section
variable {w : World} {b0 s t : Bool} {A0 A B : Option Addr} {n0 c0 n c m d k j g o : Nat} {z0 z u : Int} {ls : List ZE}
set_option maxHeartbeats 1000000

/-- Of no number: none. -/
theorem fold0 (A : Option Addr) (c : Nat) (f : Value) : Calls Tryz.prog 108 #[.slice A 0 c, .agg #[.bool b0, .slice A0 n0 c0], f] w fun e w' => e = .returned (.agg #[.bool b0, .slice A0 n0 c0]) ∧ Below w.heap.size w w' := by
  go_enter Tryz.func108, Tryz.ntmps108
  go_wp2_with fail
  exact bodyPost_ret (v := .agg #[.bool b0, .slice A0 n0 c0]) (by simp [results, Tryz.results108, go_sem]) rfl ⟨rfl, bl_trans (bl_alloc _ _) (bl_alloc _ _)⟩

theorem fold_plus1 (hN : Zm w b0 A0 n0 c0 z0 2) (h : Zm w s A n c z k) (hk : k ≤ 1000) (h0 : w.cell? ⟨g, o, none⟩ = some (.bool s)) (h1 : w.cell? ⟨g, o + 1, none⟩ = some (.slice A n c)) (q : Nat) :
    Calls Tryz.prog 108 #[.slice (some ⟨g, o, none⟩) 1 q, .agg #[.bool b0, .slice A0 n0 c0], .func (Fn.func 138) #[] #[]] w (GivZ w (z0 + z) (max 2 k + 1)) := by
  have X := ((hN.alloc (.cells #[.bool b0, .slice A0 n0 c0] 24)).alloc (.cells #[.bool false, .slice none 0 0] 24)).below (Below.drew (Below.refl _ _))
  have Y := ((h.alloc (.cells #[.bool b0, .slice A0 n0 c0] 24)).alloc (.cells #[.bool false, .slice none 0 0] 24)).below (Below.drew (Below.refl _ _))
  have hg := World.block_lt_of_cell? w _ h0
  have PN := ((Bz.new w b0 A0 n0 c0).alloc (.cells #[.bool false, .slice none 0 0] 24)).drew
  have PR := (Bz.new2 w (.cells #[.bool b0, .slice A0 n0 c0] 24) false none 0 0).drew
  have BB := Below.drew (bl_trans (bl_alloc w (.cells #[.bool b0, .slice A0 n0 c0] 24)) (bl_alloc _ (.cells #[.bool false, .slice none 0 0] 24)))
  have d0 := (((bl_alloc w (.cells #[.bool b0, .slice A0 n0 c0] 24)).drew.cell (p := ⟨g, o, none⟩) hg).trans h0)
  have E0 := (BB.cell (p := ⟨g, o, none⟩) hg).trans h0
  have E1 := (BB.cell (p := ⟨g, o + 1, none⟩) hg).trans h1
  clear d0 h0 h1
  go_enter Tryz.func108, Tryz.ntmps108
  go_wp2_with fail
  go_region_held3 (fun w' => w'.cell? ⟨w.heap.size, 0, none⟩ = some (.bool b0) ∧ w'.cell? ⟨w.heap.size, 1, none⟩ = some (.slice A0 n0 c0) ∧ w'.cell? ⟨g, o, none⟩ = some (.bool s) ∧ w'.cell? ⟨g, o + 1, none⟩ = some (.slice A n c))
    (first | exact ⟨(PN.st2 (by omega)).c0, (PN.st2 (by omega)).c1, (cell_st2 (by omega)).trans E0, (cell_st2 (by omega)).trans E1⟩ | exact ⟨PN.c0, PN.c1, E0, E1⟩)
    (first
      | (go_at_call 138; refine (plusZ X Y (by omega) hk).mono ?_; rintro e w1 ⟨b1, A1, n1, c1, rfl, Z, hb1⟩; replace E0 := (hb1.cell (World.block_lt_of_cell? _ _ E0)).trans E0; replace E1 := (hb1.cell (World.block_lt_of_cell? _ _ E1)).trans E1; replace PN := PN.below hb1; replace PR := PR.below hb1; replace BB := bl_trans BB hb1; have r0 := PR.c0; have r1 := PR.c1; have f0 := PR.f 0; have f1 := PR.f 1; clear hb1))
  go_wp2_with fail
  exact bodyPost_ret (v := .agg #[.bool b1, .slice A1 n1 c1]) (by simp [results, Tryz.results108, go_sem, *]) rfl ⟨_, _, _, _, rfl, fin_z Z BB (by omega) (by simp) _ _⟩

theorem fold_plus2 (h : Zm w s A n c z k) (h' : Zm w t B m d u j) (hk : k ≤ 1000) (hj : j ≤ 1000) (h0 : w.cell? ⟨g, o, none⟩ = some (.bool s)) (h1 : w.cell? ⟨g, o + 1, none⟩ = some (.slice A n c)) (h2 : w.cell? ⟨g, o + 2, none⟩ = some (.bool t)) (h3 : w.cell? ⟨g, o + 3, none⟩ = some (.slice B m d)) (q : Nat) :
    Calls Tryz.prog 108 #[.slice (some ⟨g, o, none⟩) 2 q, .agg #[.bool b0, .slice A0 n0 c0], .func (Fn.func 138) #[] #[]] w (GivZ w (z + u) (max k j + 1)) := by
  have X := ((h.alloc (.cells #[.bool b0, .slice A0 n0 c0] 24)).alloc (.cells #[.bool false, .slice none 0 0] 24)).below (Below.drew (Below.refl _ _))
  have Y := ((h'.alloc (.cells #[.bool b0, .slice A0 n0 c0] 24)).alloc (.cells #[.bool false, .slice none 0 0] 24)).below (Below.drew (Below.refl _ _))
  have hg := World.block_lt_of_cell? w _ h0
  have PN := ((Bz.new w b0 A0 n0 c0).alloc (.cells #[.bool false, .slice none 0 0] 24)).drew
  have PR := (Bz.new2 w (.cells #[.bool b0, .slice A0 n0 c0] 24) false none 0 0).drew
  have BB := Below.drew (bl_trans (bl_alloc w (.cells #[.bool b0, .slice A0 n0 c0] 24)) (bl_alloc _ (.cells #[.bool false, .slice none 0 0] 24)))
  have E0 := (BB.cell (p := ⟨g, o, none⟩) hg).trans h0
  have E1 := (BB.cell (p := ⟨g, o + 1, none⟩) hg).trans h1
  have E2 := (BB.cell (p := ⟨g, o + 2, none⟩) hg).trans h2
  have E3 := (BB.cell (p := ⟨g, o + 3, none⟩) hg).trans h3
  clear h0 h1 h2 h3
  go_enter Tryz.func108, Tryz.ntmps108
  go_wp2_with fail
  go_region_held3 (fun w' => w'.cell? ⟨g, o, none⟩ = some (.bool s) ∧ w'.cell? ⟨g, o + 1, none⟩ = some (.slice A n c) ∧ w'.cell? ⟨g, o + 2, none⟩ = some (.bool t) ∧ w'.cell? ⟨g, o + 3, none⟩ = some (.slice B m d))
    (first | exact ⟨(cell_st2 (by omega)).trans E0, (cell_st2 (by omega)).trans E1, (cell_st2 (by omega)).trans E2, (cell_st2 (by omega)).trans E3⟩ | exact ⟨E0, E1, E2, E3⟩)
    (first
      | (go_at_call 138; refine (plusZ X Y hk hj).mono ?_; rintro e w1 ⟨b1, A1, n1, c1, rfl, Z, hb1⟩; replace E0 := (hb1.cell (World.block_lt_of_cell? _ _ E0)).trans E0; replace E1 := (hb1.cell (World.block_lt_of_cell? _ _ E1)).trans E1; replace E2 := (hb1.cell (World.block_lt_of_cell? _ _ E2)).trans E2; replace E3 := (hb1.cell (World.block_lt_of_cell? _ _ E3)).trans E3; replace PR := PR.below hb1; replace BB := bl_trans BB hb1; have r0 := PR.c0; have r1 := PR.c1; have f0 := PR.f 0; have f1 := PR.f 1; clear hb1))
  go_wp2_with fail
  exact bodyPost_ret (v := .agg #[.bool b1, .slice A1 n1 c1]) (by simp [results, Tryz.results108, go_sem, *]) rfl ⟨_, _, _, _, rfl, fin_z Z BB (by omega) (by simp) _ _⟩

theorem fold_times1 (hN : Zm w b0 A0 n0 c0 z0 2) (h : Zm w s A n c z k) (hk : k ≤ 1000) (h0 : w.cell? ⟨g, o, none⟩ = some (.bool s)) (h1 : w.cell? ⟨g, o + 1, none⟩ = some (.slice A n c)) (q : Nat) :
    Calls Tryz.prog 108 #[.slice (some ⟨g, o, none⟩) 1 q, .agg #[.bool b0, .slice A0 n0 c0], .func (Fn.func 109) #[] #[]] w (GivZ w (z0 * z) (2 + k)) := by
  have X := ((hN.alloc (.cells #[.bool b0, .slice A0 n0 c0] 24)).alloc (.cells #[.bool false, .slice none 0 0] 24)).below (Below.drew (Below.refl _ _))
  have Y := ((h.alloc (.cells #[.bool b0, .slice A0 n0 c0] 24)).alloc (.cells #[.bool false, .slice none 0 0] 24)).below (Below.drew (Below.refl _ _))
  have hg := World.block_lt_of_cell? w _ h0
  have PN := ((Bz.new w b0 A0 n0 c0).alloc (.cells #[.bool false, .slice none 0 0] 24)).drew
  have PR := (Bz.new2 w (.cells #[.bool b0, .slice A0 n0 c0] 24) false none 0 0).drew
  have BB := Below.drew (bl_trans (bl_alloc w (.cells #[.bool b0, .slice A0 n0 c0] 24)) (bl_alloc _ (.cells #[.bool false, .slice none 0 0] 24)))
  have d0 := (((bl_alloc w (.cells #[.bool b0, .slice A0 n0 c0] 24)).drew.cell (p := ⟨g, o, none⟩) hg).trans h0)
  have E0 := (BB.cell (p := ⟨g, o, none⟩) hg).trans h0
  have E1 := (BB.cell (p := ⟨g, o + 1, none⟩) hg).trans h1
  clear d0 h0 h1
  go_enter Tryz.func108, Tryz.ntmps108
  go_wp2_with fail
  go_region_held3 (fun w' => w'.cell? ⟨w.heap.size, 0, none⟩ = some (.bool b0) ∧ w'.cell? ⟨w.heap.size, 1, none⟩ = some (.slice A0 n0 c0) ∧ w'.cell? ⟨g, o, none⟩ = some (.bool s) ∧ w'.cell? ⟨g, o + 1, none⟩ = some (.slice A n c))
    (first | exact ⟨(PN.st2 (by omega)).c0, (PN.st2 (by omega)).c1, (cell_st2 (by omega)).trans E0, (cell_st2 (by omega)).trans E1⟩ | exact ⟨PN.c0, PN.c1, E0, E1⟩)
    (first
      | (go_at_call 109; refine (timesZ X Y (by omega) hk (by omega)).mono ?_; rintro e w1 ⟨b1, A1, n1, c1, rfl, Z, hb1⟩; replace E0 := (hb1.cell (World.block_lt_of_cell? _ _ E0)).trans E0; replace E1 := (hb1.cell (World.block_lt_of_cell? _ _ E1)).trans E1; replace PN := PN.below hb1; replace PR := PR.below hb1; replace BB := bl_trans BB hb1; have r0 := PR.c0; have r1 := PR.c1; have f0 := PR.f 0; have f1 := PR.f 1; clear hb1))
  go_wp2_with fail
  exact bodyPost_ret (v := .agg #[.bool b1, .slice A1 n1 c1]) (by simp [results, Tryz.results108, go_sem, *]) rfl ⟨_, _, _, _, rfl, fin_z Z BB (by omega) (by simp) _ _⟩

theorem fold_times2 (h : Zm w s A n c z k) (h' : Zm w t B m d u j) (hk : k ≤ 1000) (hj : j ≤ 1000) (hm : min k j < 40) (h0 : w.cell? ⟨g, o, none⟩ = some (.bool s)) (h1 : w.cell? ⟨g, o + 1, none⟩ = some (.slice A n c)) (h2 : w.cell? ⟨g, o + 2, none⟩ = some (.bool t)) (h3 : w.cell? ⟨g, o + 3, none⟩ = some (.slice B m d)) (q : Nat) :
    Calls Tryz.prog 108 #[.slice (some ⟨g, o, none⟩) 2 q, .agg #[.bool b0, .slice A0 n0 c0], .func (Fn.func 109) #[] #[]] w (GivZ w (z * u) (k + j)) := by
  have X := ((h.alloc (.cells #[.bool b0, .slice A0 n0 c0] 24)).alloc (.cells #[.bool false, .slice none 0 0] 24)).below (Below.drew (Below.refl _ _))
  have Y := ((h'.alloc (.cells #[.bool b0, .slice A0 n0 c0] 24)).alloc (.cells #[.bool false, .slice none 0 0] 24)).below (Below.drew (Below.refl _ _))
  have hg := World.block_lt_of_cell? w _ h0
  have PN := ((Bz.new w b0 A0 n0 c0).alloc (.cells #[.bool false, .slice none 0 0] 24)).drew
  have PR := (Bz.new2 w (.cells #[.bool b0, .slice A0 n0 c0] 24) false none 0 0).drew
  have BB := Below.drew (bl_trans (bl_alloc w (.cells #[.bool b0, .slice A0 n0 c0] 24)) (bl_alloc _ (.cells #[.bool false, .slice none 0 0] 24)))
  have E0 := (BB.cell (p := ⟨g, o, none⟩) hg).trans h0
  have E1 := (BB.cell (p := ⟨g, o + 1, none⟩) hg).trans h1
  have E2 := (BB.cell (p := ⟨g, o + 2, none⟩) hg).trans h2
  have E3 := (BB.cell (p := ⟨g, o + 3, none⟩) hg).trans h3
  clear h0 h1 h2 h3
  go_enter Tryz.func108, Tryz.ntmps108
  go_wp2_with fail
  go_region_held3 (fun w' => w'.cell? ⟨g, o, none⟩ = some (.bool s) ∧ w'.cell? ⟨g, o + 1, none⟩ = some (.slice A n c) ∧ w'.cell? ⟨g, o + 2, none⟩ = some (.bool t) ∧ w'.cell? ⟨g, o + 3, none⟩ = some (.slice B m d))
    (first | exact ⟨(cell_st2 (by omega)).trans E0, (cell_st2 (by omega)).trans E1, (cell_st2 (by omega)).trans E2, (cell_st2 (by omega)).trans E3⟩ | exact ⟨E0, E1, E2, E3⟩)
    (first
      | (go_at_call 109; refine (timesZ X Y hk hj hm).mono ?_; rintro e w1 ⟨b1, A1, n1, c1, rfl, Z, hb1⟩; replace E0 := (hb1.cell (World.block_lt_of_cell? _ _ E0)).trans E0; replace E1 := (hb1.cell (World.block_lt_of_cell? _ _ E1)).trans E1; replace E2 := (hb1.cell (World.block_lt_of_cell? _ _ E2)).trans E2; replace E3 := (hb1.cell (World.block_lt_of_cell? _ _ E3)).trans E3; replace PR := PR.below hb1; replace BB := bl_trans BB hb1; have r0 := PR.c0; have r1 := PR.c1; have f0 := PR.f 0; have f1 := PR.f 1; clear hb1))
  go_wp2_with fail
  exact bodyPost_ret (v := .agg #[.bool b1, .slice A1 n1 c1]) (by simp [results, Tryz.results108, go_sem, *]) rfl ⟨_, _, _, _, rfl, fin_z Z BB (by omega) (by simp) _ _⟩
end

end Go.Proofs.YtbhgbilhoonopaaGreat
