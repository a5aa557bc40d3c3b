/- litmusref02's Sub, Cmp. -/
import Derived.Test.YthjgonfohjgfaaaZRefC
import Derived.Test.YthjgonfohjgfaaaZRefD
namespace Go.Proofs.Ythjgonfohjgfaaa
open Go.RowKit
set_option linter.unusedVariables false
set_option maxRecDepth 100000

section
variable {w w' : World} {v v' : Value} {s t : Bool} {A B : Option Addr} {n c m d x y k j : Nat} {z u : Int}
set_option maxHeartbeats 2000000

theorem cRefSub (h : IsM w v z k) (g : IsM w v' u j) (hk : k ≤ 500) (hj : j ≤ 500) : Calls Try.prog 19 #[v, v'] w (Ans w fun w' v => IsT w' v (z - u) (max k j + 1)) := by
  obtain ⟨s, A, n, c, rfl, Z⟩ := h
  obtain ⟨t, B, m, d, rfl, Z'⟩ := g
  have X : IsM (((w.alloc (.cells #[.bool s, .slice A n c] 32)).alloc (.cells #[.bool t, .slice B m d] 32)).alloc (.cells #[.bool false, .slice none 0 0] 32)).drew (.agg #[.bool s, .slice A n c]) z k := ⟨_, _, _, _, rfl, (((Z.alloc _).alloc _).alloc _).below (Below.drew (Below.refl _ _))⟩
  have Y : IsM (((w.alloc (.cells #[.bool s, .slice A n c] 32)).alloc (.cells #[.bool t, .slice B m d] 32)).alloc (.cells #[.bool false, .slice none 0 0] 32)).drew (.agg #[.bool t, .slice B m d]) u j := ⟨_, _, _, _, rfl, (((Z'.alloc _).alloc _).alloc _).below (Below.drew (Below.refl _ _))⟩
  have PA := (((Bz.new w s A n c).alloc (.cells #[.bool t, .slice B m d] 32)).alloc (.cells #[.bool false, .slice none 0 0] 32)).drew
  have PB := ((Bz.new2 w (.cells #[.bool s, .slice A n c] 32) t B m d).alloc (.cells #[.bool false, .slice none 0 0] 32)).drew
  have PR := (Bz.new3 w (.cells #[.bool s, .slice A n c] 32) (.cells #[.bool t, .slice B m d] 32) false none 0 0).drew
  have BB := Below.drew (bl_trans (bl_trans (bl_alloc w (.cells #[.bool s, .slice A n c] 32)) (bl_alloc _ (.cells #[.bool t, .slice B m d] 32))) (bl_alloc _ (.cells #[.bool false, .slice none 0 0] 32)))
  clear Z Z'
  go_enter Try.func19, Try.ntmps19
  go_wp2_with fail
  go_region_held3 (fun w' => w'.cell? ⟨w.heap.size, 0, none⟩ = some (.bool s) ∧ w'.cell? ⟨w.heap.size, 1, none⟩ = some (.slice A n c) ∧ w'.cell? ⟨w.heap.size + 1, 0, none⟩ = some (.bool t) ∧ w'.cell? ⟨w.heap.size + 1, 1, none⟩ = some (.slice B m d))
    (first | exact ⟨(PA.st2 (by omega)).c0, (PA.st2 (by omega)).c1, (PB.st2 (by omega)).c0, (PB.st2 (by omega)).c1⟩ | exact ⟨PA.c0, PA.c1, PB.c0, PB.c1⟩)
    (first
      | (go_at_call 31; refine (cRefNeg Y (by omega)).mono ?_; rintro e w1 ⟨_, rfl, hb1, b1, A1, n1, c1, rfl, T1, hn1⟩; replace PA := PA.below hb1; replace PB := PB.below hb1; replace PR := PR.below hb1; replace X := X.below hb1; replace BB := bl_trans BB hb1; have HN1 := Lib.hid hn1; clear hb1 hn1)
      | (go_at_call 17; refine (cRefAdd X (IsT.m ⟨_, _, _, _, rfl, T1, HN1.out⟩) hk hj).mono ?_; rintro e w2 ⟨_, rfl, hb2, b2, A2, n2, c2, rfl, T2, hn2⟩; replace PA := PA.below hb2; replace PB := PB.below hb2; replace PR := PR.below hb2; replace BB := bl_trans BB hb2; have r0 := PR.c0; have r1 := PR.c1; have f0 := PR.f 0; have f1 := PR.f 1; have HN := Lib.hid hn2; clear hb2 hn2))
  go_wp2_with fail
  have hv : z + -u = z - u := by omega
  have hq : IsT w2 (.agg #[.bool b2, .slice A2 n2 c2]) (z - u) (max k j + 1) := by rw [← hv]; exact ⟨_, _, _, _, rfl, T2, HN.out⟩
  exact bodyPost_ret (v := .agg #[.bool b2, .slice A2 n2 c2]) (by simp [results, Try.results19, go_sem, *]) rfl (IsT.fin hq PR BB (by omega))

theorem sgn_sub (z u : Int) : sgn (z - u) = cmpI z u := by
  unfold sgn cmpI
  by_cases h : z < u
  · rw [if_pos (by omega), if_pos h]
  · rw [if_neg (by omega), if_neg h]
    by_cases h2 : z = u
    · rw [if_pos (by omega), if_pos h2]
    · rw [if_neg (by omega), if_neg h2]

theorem cRefCmp {q : Int} (h : IsM w v z k) (g : IsM w v' u j) (hk : k ≤ 400) (hj : j ≤ 400) (hq : cmpI z u = q) : Calls Try.prog 23 #[v, v'] w (Ans w fun _ v => v = .int .i64 q) := by
  obtain ⟨s, A, n, c, rfl, Z⟩ := h
  obtain ⟨t, B, m, d, rfl, Z'⟩ := g
  have X : IsM ((w.alloc (.cells #[.bool s, .slice A n c] 32)).alloc (.cells #[.bool t, .slice B m d] 32)) (.agg #[.bool s, .slice A n c]) z k := ⟨_, _, _, _, rfl, (Z.alloc _).alloc _⟩
  have Y : IsM ((w.alloc (.cells #[.bool s, .slice A n c] 32)).alloc (.cells #[.bool t, .slice B m d] 32)) (.agg #[.bool t, .slice B m d]) u j := ⟨_, _, _, _, rfl, (Z'.alloc _).alloc _⟩
  have BB := bl_trans (bl_alloc w (.cells #[.bool s, .slice A n c] 32)) (bl_alloc _ (.cells #[.bool t, .slice B m d] 32))
  have HQ := Lib.hid ((sgn_sub z u).trans hq)
  clear Z Z' hq
  go_enter Try.func23, Try.ntmps23
  go_wp2_with fail
  refine (cRefSub X Y (by omega) (by omega)).mono ?_
  rintro e w1 ⟨_, rfl, hb1, b1, A1, n1, c1, rfl, T1, hn1⟩
  replace BB := bl_trans BB hb1
  have HN1 := Lib.hid hn1
  clear hb1 hn1 X Y
  go_wp2_with fail
  refine (cRefSign (IsT.m ⟨_, _, _, _, rfl, T1, HN1.out⟩) (by omega) HQ.out).mono ?_
  rintro e w2 ⟨_, rfl, hb2, rfl⟩
  replace BB := bl_trans BB hb2
  clear hb2 T1 HN1
  go_wp2_with fail
  go_ret
  exact ⟨_, rfl, BB, rfl⟩
end

end Go.Proofs.Ythjgonfohjgfaaa
