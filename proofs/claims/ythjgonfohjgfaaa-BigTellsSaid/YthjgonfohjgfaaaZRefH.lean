/- litmusref02's Mod: of numbers of 24 limbs at most. -/
import Derived.Test.YthjgonfohjgfaaaZRefG
namespace Go.Proofs.Ythjgonfohjgfaaa
open Go.RowKit
set_option linter.unusedVariables false
set_option maxRecDepth 100000

section
variable {w w' : World} {v v' : Value} {s t : Bool} {A B : Option Addr} {n c m d x y k j N : Nat} {z u za ub : Int}
set_option maxHeartbeats 2000000

theorem cRefMod0 (h : IsM w v za 24) (g : IsM w v' ub 24) (hu : ub = 0) : Calls Try.prog 39 #[v, v'] w (Ans w fun w' v => IsTE w' v 0 0 3) := by
  obtain ⟨s, A, n, c, rfl, Z⟩ := h
  obtain ⟨t, B, m, d, rfl, Z'⟩ := g
  have XA : IsM (((w.alloc (.cells #[.bool s, .slice A n c] 32)).alloc (.cells #[.bool t, .slice B m d] 32)).alloc (.cells #[.bool false, .slice none 0 0] 32)) (.agg #[.bool s, .slice A n c]) za 24 := ⟨_, _, _, _, rfl, ((Z.alloc _).alloc _).alloc _⟩
  have YB : IsM (((w.alloc (.cells #[.bool s, .slice A n c] 32)).alloc (.cells #[.bool t, .slice B m d] 32)).alloc (.cells #[.bool false, .slice none 0 0] 32)) (.agg #[.bool t, .slice B m d]) ub 24 := ⟨_, _, _, _, rfl, ((Z'.alloc _).alloc _).alloc _⟩
  have X0 := ((Z.nm.alloc (.cells #[.bool s, .slice A n c] 32)).alloc (.cells #[.bool t, .slice B m d] 32)).alloc (.cells #[.bool false, .slice none 0 0] 32)
  have Y0 := ((Z'.nm.alloc (.cells #[.bool s, .slice A n c] 32)).alloc (.cells #[.bool t, .slice B m d] 32)).alloc (.cells #[.bool false, .slice none 0 0] 32)
  have PA := ((Bz.new w s A n c).alloc (.cells #[.bool t, .slice B m d] 32)).alloc (.cells #[.bool false, .slice none 0 0] 32)
  have PB := (Bz.new2 w (.cells #[.bool s, .slice A n c] 32) t B m d).alloc (.cells #[.bool false, .slice none 0 0] 32)
  have PR := Bz.new3 w (.cells #[.bool s, .slice A n c] 32) (.cells #[.bool t, .slice B m d] 32) false none 0 0
  have BB := bl_trans (bl_trans (bl_alloc w (.cells #[.bool s, .slice A n c] 32)) (bl_alloc _ (.cells #[.bool t, .slice B m d] 32))) (bl_alloc _ (.cells #[.bool false, .slice none 0 0] 32))
  clear Z Z'
  go_enter Try.func39, Try.ntmps39
  go_wp2_with fail
  refine (cRefDiv0 XA YB hu).mono ?_
  rintro e w1 ⟨_, rfl, hb1, b1, A1, n1, c1, rfl, q1⟩
  replace PR := (PR.below hb1).alloc (.cells #[.bool b1, .slice A1 n1 c1] 32)
  replace BB := bl_trans (bl_trans BB hb1) (bl_alloc _ (.cells #[.bool b1, .slice A1 n1 c1] 32))
  have r0 := PR.c0
  have r1 := PR.c1
  have f0 := PR.f 0
  have f1 := PR.f 1
  clear hb1 q1 XA YB X0 Y0 PA PB
  go_wp2_with fail
  exact bodyPost_ret (v := .tuple #[.agg #[.bool false, .slice none 0 0], .int .i64 3]) (by simp [results, Try.results39, go_sem, *]) rfl (IsTE.fin (IsT.zero _ 0) PR BB (by omega))

theorem cRefMod (h : IsM w v za 24) (g : IsM w v' ub 24) (hu : ub ≠ 0) : Calls Try.prog 39 #[v, v'] w (Ans w fun w' v => IsTE w' v (dr za ub) 50 0) := by
  obtain ⟨s, A, n, c, rfl, Z⟩ := h
  obtain ⟨t, B, m, d, rfl, Z'⟩ := g
  have XA : IsM (((w.alloc (.cells #[.bool s, .slice A n c] 32)).alloc (.cells #[.bool t, .slice B m d] 32)).alloc (.cells #[.bool false, .slice none 0 0] 32)) (.agg #[.bool s, .slice A n c]) za 24 := ⟨_, _, _, _, rfl, ((Z.alloc _).alloc _).alloc _⟩
  have YB : IsM (((w.alloc (.cells #[.bool s, .slice A n c] 32)).alloc (.cells #[.bool t, .slice B m d] 32)).alloc (.cells #[.bool false, .slice none 0 0] 32)) (.agg #[.bool t, .slice B m d]) ub 24 := ⟨_, _, _, _, rfl, ((Z'.alloc _).alloc _).alloc _⟩
  have X0 := ((Z.nm.alloc (.cells #[.bool s, .slice A n c] 32)).alloc (.cells #[.bool t, .slice B m d] 32)).alloc (.cells #[.bool false, .slice none 0 0] 32)
  have Y0 := ((Z'.nm.alloc (.cells #[.bool s, .slice A n c] 32)).alloc (.cells #[.bool t, .slice B m d] 32)).alloc (.cells #[.bool false, .slice none 0 0] 32)
  have PA := ((Bz.new w s A n c).alloc (.cells #[.bool t, .slice B m d] 32)).alloc (.cells #[.bool false, .slice none 0 0] 32)
  have PB := (Bz.new2 w (.cells #[.bool s, .slice A n c] 32) t B m d).alloc (.cells #[.bool false, .slice none 0 0] 32)
  have PR := Bz.new3 w (.cells #[.bool s, .slice A n c] 32) (.cells #[.bool t, .slice B m d] 32) false none 0 0
  have BB := bl_trans (bl_trans (bl_alloc w (.cells #[.bool s, .slice A n c] 32)) (bl_alloc _ (.cells #[.bool t, .slice B m d] 32))) (bl_alloc _ (.cells #[.bool false, .slice none 0 0] 32))
  clear Z Z'
  have HU := Lib.hid hu
  clear hu
  go_enter Try.func39, Try.ntmps39
  go_wp2_with fail
  refine (cRefDiv XA YB HU.out).mono ?_
  rintro e w1 ⟨_, rfl, hb1, b1, A1, n1, c1, rfl, q1⟩
  have hl1 := (PR.below hb1).lt
  have PQ := Bz.new w1 b1 A1 n1 c1
  have hb1' := bl_trans hb1 (bl_alloc _ (.cells #[.bool b1, .slice A1 n1 c1] 32))
  replace q1 := q1.below (bl_alloc _ (.cells #[.bool b1, .slice A1 n1 c1] 32))
  replace PA := PA.below hb1'
  replace PB := PB.below hb1'
  replace PR := PR.below hb1'
  replace XA := XA.below hb1'
  replace YB := YB.below hb1'
  replace BB := bl_trans BB hb1'
  clear hb1 hb1' X0 Y0
  go_wp2_with fail
  generalize w1.alloc (.cells #[.bool b1, .slice A1 n1 c1] 32) = W at PQ q1 PA PB PR XA YB BB ⊢
  replace PQ := PQ.drew
  replace PA := PA.drew
  replace PB := PB.drew
  replace PR := PR.drew
  replace XA := XA.below (Below.drew (Below.refl _ _))
  replace YB := YB.below (Below.drew (Below.refl _ _))
  replace q1 := q1.below (Below.drew (Below.refl _ _))
  replace BB := Below.drew BB
  obtain ⟨gq, hgq⟩ : ∃ gq, gq = w1.heap.size := ⟨_, rfl⟩
  rw [← hgq] at PQ hl1 ⊢
  clear hgq
  go_region_held3 (fun w' => w'.cell? ⟨w.heap.size, 0, none⟩ = some (.bool s) ∧ w'.cell? ⟨w.heap.size, 1, none⟩ = some (.slice A n c) ∧ w'.cell? ⟨w.heap.size + 1, 0, none⟩ = some (.bool t) ∧ w'.cell? ⟨w.heap.size + 1, 1, none⟩ = some (.slice B m d) ∧ w'.cell? ⟨gq, 0, none⟩ = some (.bool b1) ∧ w'.cell? ⟨gq, 1, none⟩ = some (.slice A1 n1 c1))
    (first | exact ⟨(PA.st2 (by omega)).c0, (PA.st2 (by omega)).c1, (PB.st2 (by omega)).c0, (PB.st2 (by omega)).c1, (PQ.st2 (by omega)).c0, (PQ.st2 (by omega)).c1⟩ | exact ⟨PA.c0, PA.c1, PB.c0, PB.c1, PQ.c0, PQ.c1⟩)
    (first
      | (go_at_call 21; refine (cRefMul YB q1.m (by omega) (by omega)).mono ?_; rintro e w2 ⟨_, rfl, hb2, q2⟩; replace PA := PA.below hb2; replace PB := PB.below hb2; replace PQ := PQ.below hb2; replace PR := PR.below hb2; replace XA := XA.below hb2; replace BB := bl_trans BB hb2; clear hb2)
      | (go_at_call 19; refine (cRefSub XA q2.m (by omega) (by omega)).mono ?_; rintro e w3 ⟨_, rfl, hb3, b3, A3, n3, c3, rfl, T3, hn3⟩; replace PA := PA.below hb3; replace PB := PB.below hb3; replace PQ := PQ.below hb3; replace PR := PR.below hb3; replace BB := bl_trans BB hb3; have r0 := PR.c0; have r1 := PR.c1; have f0 := PR.f 0; have f1 := PR.f 1; have HN := Lib.hid hn3; clear hb3 hn3))
  go_wp2_with fail
  have q3 : IsT w3 (.agg #[.bool b3, .slice A3 n3 c3]) (dr za ub) 50 := ⟨_, _, _, _, rfl, T3, HN.out⟩
  exact bodyPost_ret (v := .tuple #[.agg #[.bool b3, .slice A3 n3 c3], .int .i64 0]) (by simp [results, Try.results39, go_sem, *]) rfl (IsTE.fin q3 PR BB (by omega))
end

end Go.Proofs.Ythjgonfohjgfaaa
