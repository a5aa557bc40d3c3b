/- litmuslaw02.BigSmall answers true at every input, and changes nothing that was there: its walk. -/
import Derived.Test.YtebchniiiccghaaZX
namespace Go.Proofs.Ytebchniiiccghaa
open Go.RowKit
set_option linter.unusedVariables false
set_option maxRecDepth 100000

theorem cSmall_yes {w : World} {v : Value} {z : Int} {k : Nat} (h : IsM w v z k) (hk : k ≤ 1000) (h0 : -9223372036854775808 ≤ z) (h1 : z < 9223372036854775808) : Calls Try.prog 29 #[v] w (Ans w fun _ v => v = .tuple #[.int .i64 z, .bool true]) := by
  have := cSmall h hk
  rw [smI_yes h0 h1, smB_yes h0 h1] at this
  exact this
theorem cSmall_no {w : World} {v : Value} {z : Int} {k : Nat} (h : IsM w v z k) (hk : k ≤ 1000) (h0 : z < -9223372036854775808 ∨ 9223372036854775808 ≤ z) : Calls Try.prog 29 #[v] w (Ans w fun _ v => v = .tuple #[.int .i64 0, .bool false]) := by
  have := cSmall h hk
  rw [smI_no h0, smB_no h0] at this
  exact this

set_option maxHeartbeats 4000000 in
theorem bigSmall_in1 (s : Bool) (A : Option Addr) (l c : Nat) (xs : List Nat) (z n m : Int) (w : World) (n0 : -9223372036854775808 ≤ n) (n1 : n < 9223372036854775808) (m0 : -9223372036854775808 ≤ m) (m1 : m < 9223372036854775808) (HR : Hid (Rd w A l c xs)) (HM : Hid (l ≤ maxLen)) (HZ : Hid (z = zv s (M.val (xs.take (min l 5))))) (r0 : -9223372036854775808 ≤ n + m) (r1 : n + m < 9223372036854775808) (S0 : -9223372036854775808 ≤ z) (S1 : z < 9223372036854775808) (sg : (0 < n ∧ 0 < m) ∨ (0 < n ∧ m ≤ 0) ∨ (n < 0 ∧ m < 0) ∨ (n < 0 ∧ 0 ≤ m) ∨ n = 0) : Calls Try.prog 11 #[.int .i64 n, .int .i64 m, .agg #[.bool s, .slice A l c]] w fun e w' => e = .returned (.bool true) ∧ Below w.heap.size w w' := by
  rcases sg with ⟨g0, g1⟩ | ⟨g0, g1⟩ | ⟨g0, g1⟩ | ⟨g0, g1⟩ | g0
  · have PA := Bz.new w s A l c
    have BB := bl_alloc w (.cells #[.bool s, .slice A l c] 32)
    go_enter Try.func11, Try.ntmps11
    go_wp2_with fail
    refine (cWorks _).mono ?_
    rintro e w1 ⟨_, rfl, hb1, rfl⟩
    replace PA := PA.below hb1
    replace BB := bl_trans BB hb1
    clear hb1
    have PA_0 := PA.c0
    have PA_1 := PA.c1
    go_wp2_with fail
    refine (cFew (HR.out.below BB) HM.out 5 _ rfl (by omega)).mono ?_
    rintro e w2 ⟨_, rfl, hb2, rfl⟩
    replace PA := PA.below hb2
    replace BB := bl_trans BB hb2
    clear hb2
    clear PA_0 PA_1
    have PA_0 := PA.c0
    have PA_1 := PA.c1
    have PA_2 := PA.f 0
    have PA_3 := PA.f 1
    have PB := (belU_store (N := w.heap.size) (t := s) (B := A) (m := min l 5) (d := c) PA (Nat.le_refl _)).2
    replace BB := (BB.setCell (p := ⟨w.heap.size, 0, none⟩) (Nat.le_refl _) (.bool s)).setCell (p := ⟨w.heap.size, 1, none⟩) (Nat.le_refl _) (.slice A (min l 5) c)
    have QA : IsM ((w2.setCell ⟨w.heap.size, 0, none⟩ (.bool s)).setCell ⟨w.heap.size, 1, none⟩ (.slice A (min l 5) c)) (.agg #[.bool s, .slice A (min l 5) c]) z 5 := ⟨_, _, _, _, rfl, by rw [HZ.out]; exact few_zm (HR.out.below BB) 5⟩
    clear PA HR HM HZ
    go_wp2_with fail
    refine (cFrom _ (by omega) (by omega) (Nat.le_refl _)).mono ?_
    rintro e w3 ⟨_, rfl, hb3, b3, A3, n3, c3, rfl, Z3⟩
    replace PB := PB.below hb3
    replace QA := QA.below hb3
    replace BB := bl_trans BB hb3
    clear hb3
    have q3 : IsZ _ w3 (.agg #[.bool b3, .slice A3 n3 c3]) (n) 2 := ⟨_, _, _, _, rfl, Z3⟩
    clear Z3
    go_wp2_with fail
    refine (cSmall_yes q3.m (by omega) (by omega) (by omega)).mono ?_
    rintro e w4 ⟨_, rfl, hb4, rfl⟩
    replace PB := PB.below hb4
    replace QA := QA.below hb4
    replace q3 := q3.below hb4
    replace BB := bl_trans BB hb4
    clear hb4
    clear PA_0 PA_1 PA_2 PA_3
    go_wp2_with fail
    refine (cFrom _ (by omega) (by omega) (Nat.le_refl _)).mono ?_
    rintro e w5 ⟨_, rfl, hb5, b5, A5, n5, c5, rfl, Z5⟩
    replace PB := PB.below hb5
    replace QA := QA.below hb5
    replace q3 := q3.below hb5
    replace BB := bl_trans BB hb5
    clear hb5
    have q5 : IsZ _ w5 (.agg #[.bool b5, .slice A5 n5 c5]) (n) 2 := ⟨_, _, _, _, rfl, Z5⟩
    clear Z5
    go_wp2_with fail
    refine (cFrom _ (by omega) (by omega) (Nat.le_refl _)).mono ?_
    rintro e w6 ⟨_, rfl, hb6, b6, A6, n6, c6, rfl, Z6⟩
    replace PB := PB.below hb6
    replace QA := QA.below hb6
    replace q3 := q3.below hb6
    replace q5 := q5.below hb6
    replace BB := bl_trans BB hb6
    clear hb6
    have q6 : IsZ _ w6 (.agg #[.bool b6, .slice A6 n6 c6]) (m) 2 := ⟨_, _, _, _, rfl, Z6⟩
    clear Z6
    obtain ⟨_, _, _, _, e0, y0⟩ := q5.m
    cases e0
    obtain ⟨_, _, _, _, e1, y1⟩ := q6.m
    cases e1
    have r6 := IsR2.new y0 y1
    clear y0 y1
    replace BB := bl_trans BB (bl_alloc w6 (.cells #[.bool b5, .slice A5 n5 c5, .bool b6, .slice A6 n6 c6] 32))
    replace PB := PB.below (bl_alloc _ (.cells #[.bool b5, .slice A5 n5 c5, .bool b6, .slice A6 n6 c6] 32))
    replace QA := QA.below (bl_alloc _ (.cells #[.bool b5, .slice A5 n5 c5, .bool b6, .slice A6 n6 c6] 32))
    replace q3 := q3.below (bl_alloc _ (.cells #[.bool b5, .slice A5 n5 c5, .bool b6, .slice A6 n6 c6] 32))
    replace q5 := q5.below (bl_alloc _ (.cells #[.bool b5, .slice A5 n5 c5, .bool b6, .slice A6 n6 c6] 32))
    replace q6 := q6.below (bl_alloc _ (.cells #[.bool b5, .slice A5 n5 c5, .bool b6, .slice A6 n6 c6] 32))
    go_wp2_with fail
    refine (cAdd2 (z := n) (u := m) r6 (by omega) (by omega) (Nat.le_refl _)).mono ?_
    rintro e w7 ⟨_, rfl, hb7, b7, A7, n7, c7, rfl, Z7⟩
    replace PB := PB.below hb7
    replace QA := QA.below hb7
    replace q3 := q3.below hb7
    replace q5 := q5.below hb7
    replace q6 := q6.below hb7
    replace BB := bl_trans BB hb7
    clear hb7
    have q7 : IsZ _ w7 (.agg #[.bool b7, .slice A7 n7 c7]) (n + m) 3 := ⟨_, _, _, _, rfl, Z7⟩
    clear Z7
    clear r6
    go_wp2_with fail
    refine (cSmall_yes q7.m (by omega) (by omega) (by omega)).mono ?_
    rintro e w8 ⟨_, rfl, hb8, rfl⟩
    replace PB := PB.below hb8
    replace QA := QA.below hb8
    replace q3 := q3.below hb8
    replace q5 := q5.below hb8
    replace q6 := q6.below hb8
    replace q7 := q7.below hb8
    replace BB := bl_trans BB hb8
    clear hb8
    have PB_0 := PB.c0
    have PB_1 := PB.c1
    go_wp2_with fail
    refine (cSmall_yes QA (by omega) S0 S1).mono ?_
    rintro e w9 ⟨_, rfl, hb9, rfl⟩
    clear PB_0 PB_1
    replace PB := PB.below hb9
    replace QA := QA.below hb9
    replace q3 := q3.below hb9
    replace q5 := q5.below hb9
    replace q6 := q6.below hb9
    replace q7 := q7.below hb9
    replace BB := bl_trans BB hb9
    clear hb9
    go_wp2_with fail
    refine wp_region_list (Ext := RB) (Rel := RBu) [fun v _ _ => v = .bool true, fun v _ _ => v = .bool false, fun v _ _ => v = .bool false, fun v _ _ => v = .int .i64 z, fun v _ w => IsZ (w9).heap.size w v (z) 2, fun v _ w => IsM w v (z) 5, fun v _ w => IsR1 w v (z) 5, fun v _ w => IsZ (w9).heap.size w v (z) 6, fun v _ _ => v = .bool true, fun v _ _ => v = .bool true, fun v _ _ => v = .bool true] (n := 11) (by kernel_rfl) rfl (by kernel_rfl) (by kernel_rfl) (by kernel_rfl) (by kernel_rfl) (by kernel_rfl) rb_refl rb_trans ⟨sC, ⟨sC, ⟨sC, ⟨sC, ⟨sZ, ⟨sM, ⟨sR1, ⟨sZ, ⟨sC, ⟨sC, ⟨sC, trivial⟩⟩⟩⟩⟩⟩⟩⟩⟩⟩⟩ ?_ ?_
    · refine ⟨⟨⟨⟨⟨⟨⟨⟨⟨⟨⟨trivial, ?_⟩, ?_⟩, ?_⟩, ?_⟩, ?_⟩, ?_⟩, ?_⟩, ?_⟩, ?_⟩, ?_⟩, ?_⟩
      · refine rs_plain rfl rfl fun a wr S => ?_
        have X := undrew S.ext
        exact wp_mv (ev_of ((S.old 13 (by kernel_rfl)).trans rfl)) (done (by kernel_rfl) rbu_refl rfl)
      · refine rs_plain rfl rfl fun a wr S => ?_
        have X := undrew S.ext
        obtain ⟨v0, e0, h0⟩ := S.got 0 (by kernel_rfl)
        exact wp_not ((ev_of (e0 95 (by kernel_rfl))).trans h0) (done (by kernel_rfl) rbu_refl rfl)
      · refine rs_plain rfl rfl fun a wr S => ?_
        have X := undrew S.ext
        obtain ⟨v1, e1, h1⟩ := S.got 1 (by kernel_rfl)
        exact wp_mv ((ev_of (e1 96 (by kernel_rfl))).trans h1) (done (by kernel_rfl) rbu_refl rfl)
      · refine rs_yes rfl rfl (by kernel_rfl) (by kernel_rfl : _ = some 97) (fun _ _ _ h => h) fun a wr S => ?_
        have X := undrew S.ext
        exact wp_mv (ev_of ((S.old 12 (by kernel_rfl)).trans rfl)) (done (by kernel_rfl) rbu_refl rfl)
      · refine rs_yes rfl rfl (by kernel_rfl) (by kernel_rfl : _ = some 97) (fun _ _ _ h => h) fun a wr S => ?_
        have X := undrew S.ext
        obtain ⟨v3, e3, h3⟩ := S.got 3 (by kernel_rfl)
        exact st_call cf_big_From (args1 ((ev_of (e3 98 (by kernel_rfl))).trans h3)) (by kernel_rfl) rb (cFrom _ (by omega) (by omega) X.size) (fun _ _ _ h => h)
      · refine rs_yes rfl rfl (by kernel_rfl) (by kernel_rfl : _ = some 97) (fun _ _ _ h => h) fun a wr S => ?_
        have X := undrew S.ext
        exact wp_load (ev_of ((S.old 5 (by kernel_rfl)).trans rfl)) (PB.below X) (done (by kernel_rfl) rbu_refl (QA.below X))
      · refine rs_yes rfl rfl (by kernel_rfl) (by kernel_rfl : _ = some 97) (fun _ _ _ h => h) fun a wr S => ?_
        have X := undrew S.ext
        obtain ⟨v5, e5, h5⟩ := S.got 5 (by kernel_rfl)
        obtain ⟨b0, A0, n0, c0, hv0, Z0⟩ := (show IsM wr _ _ _ from h5)
        exact wp_bs1 ((ev_of (e5 100 (by kernel_rfl))).trans hv0) (done' (by kernel_rfl) (rb _ _ _ (bl_alloc _ _)) (IsR1.new Z0))
      · refine rs_yes rfl rfl (by kernel_rfl) (by kernel_rfl : _ = some 97) (fun _ _ _ h => h) fun a wr S => ?_
        have X := undrew S.ext
        obtain ⟨v6, e6, h6⟩ := S.got 6 (by kernel_rfl)
        exact st_call cf_big_Add (args1 (ev_of (e6 101 (by kernel_rfl)))) (by kernel_rfl) rb (cAdd1 h6 (by omega) X.size) (fun _ _ _ h => h)
      · refine rs_yes rfl rfl (by kernel_rfl) (by kernel_rfl : _ = some 97) (fun _ _ _ h => h) fun a wr S => ?_
        have X := undrew S.ext
        obtain ⟨v4, e4, h4⟩ := S.got 4 (by kernel_rfl)
        obtain ⟨v7, e7, h7⟩ := S.got 7 (by kernel_rfl)
        exact st_call cf_law02_same (args2 (ev_of (e4 99 (by kernel_rfl))) (ev_of (e7 102 (by kernel_rfl)))) (by kernel_rfl) rb (cSame h4.t h7.t (by omega) (by omega) (decide_eq_true (rfl))) (fun _ _ _ h => h)
      · refine rs_plain rfl rfl fun a wr S => ?_
        have X := undrew S.ext
        obtain ⟨v2, e2, h2⟩ := S.got 2 (by kernel_rfl)
        obtain ⟨v8, e8, h8⟩ := S.got 8 (by kernel_rfl)
        exact wp_pickF ((ev_of (e2 97 (by kernel_rfl))).trans h2) ((ev_of (e8 103 (by kernel_rfl))).trans h8) (done (by kernel_rfl) rbu_refl rfl)
      · refine rs_plain rfl rfl fun a wr S => ?_
        have X := undrew S.ext
        obtain ⟨v9, e9, h9⟩ := S.got 9 (by kernel_rfl)
        exact wp_as ((ev_of (e9 104 (by kernel_rfl))).trans h9) (done (by kernel_rfl) rbu_refl rfl)
    · intro f10_ w10 hR hv
      replace hR := undrew hR
      have f0 : f10_ 0 = .bool true := (hvc (hv 0 (by omega))).elim fun _ h => h
      have f1 : f10_ 1 = .bool false := (hvc (hv 1 (by omega))).elim fun _ h => h
      have f2 : f10_ 2 = .bool false := (hvc (hv 2 (by omega))).elim fun _ h => h
      have f3 : f10_ 3 = .int .i64 z := (hvc (hv 3 (by omega))).elim fun _ h => h
      have f8 : f10_ 8 = .bool true := (hvc (hv 8 (by omega))).elim fun _ h => h
      have f9 : f10_ 9 = .bool true := (hvc (hv 9 (by omega))).elim fun _ h => h
      have f10 : f10_ 10 = .bool true := (hvc (hv 10 (by omega))).elim fun _ h => h
      simp only [putFn, Act.put, List.setIfInBounds_toArray, List.set_cons_zero, List.set_cons_succ, f0, f1, f2, f3, f8, f9, f10]
      replace PB := PB.below hR
      replace QA := QA.below hR
      replace q3 := q3.below hR
      replace q5 := q5.below hR
      replace q6 := q6.below hR
      replace q7 := q7.below hR
      replace BB := bl_trans BB hR
      clear hR
      clear hv
      go_wp2_with fail
      go_ret
      exact ⟨rfl, BB⟩
  · have PA := Bz.new w s A l c
    have BB := bl_alloc w (.cells #[.bool s, .slice A l c] 32)
    go_enter Try.func11, Try.ntmps11
    go_wp2_with fail
    refine (cWorks _).mono ?_
    rintro e w1 ⟨_, rfl, hb1, rfl⟩
    replace PA := PA.below hb1
    replace BB := bl_trans BB hb1
    clear hb1
    have PA_0 := PA.c0
    have PA_1 := PA.c1
    go_wp2_with fail
    refine (cFew (HR.out.below BB) HM.out 5 _ rfl (by omega)).mono ?_
    rintro e w2 ⟨_, rfl, hb2, rfl⟩
    replace PA := PA.below hb2
    replace BB := bl_trans BB hb2
    clear hb2
    clear PA_0 PA_1
    have PA_0 := PA.c0
    have PA_1 := PA.c1
    have PA_2 := PA.f 0
    have PA_3 := PA.f 1
    have PB := (belU_store (N := w.heap.size) (t := s) (B := A) (m := min l 5) (d := c) PA (Nat.le_refl _)).2
    replace BB := (BB.setCell (p := ⟨w.heap.size, 0, none⟩) (Nat.le_refl _) (.bool s)).setCell (p := ⟨w.heap.size, 1, none⟩) (Nat.le_refl _) (.slice A (min l 5) c)
    have QA : IsM ((w2.setCell ⟨w.heap.size, 0, none⟩ (.bool s)).setCell ⟨w.heap.size, 1, none⟩ (.slice A (min l 5) c)) (.agg #[.bool s, .slice A (min l 5) c]) z 5 := ⟨_, _, _, _, rfl, by rw [HZ.out]; exact few_zm (HR.out.below BB) 5⟩
    clear PA HR HM HZ
    go_wp2_with fail
    refine (cFrom _ (by omega) (by omega) (Nat.le_refl _)).mono ?_
    rintro e w3 ⟨_, rfl, hb3, b3, A3, n3, c3, rfl, Z3⟩
    replace PB := PB.below hb3
    replace QA := QA.below hb3
    replace BB := bl_trans BB hb3
    clear hb3
    have q3 : IsZ _ w3 (.agg #[.bool b3, .slice A3 n3 c3]) (n) 2 := ⟨_, _, _, _, rfl, Z3⟩
    clear Z3
    go_wp2_with fail
    refine (cSmall_yes q3.m (by omega) (by omega) (by omega)).mono ?_
    rintro e w4 ⟨_, rfl, hb4, rfl⟩
    replace PB := PB.below hb4
    replace QA := QA.below hb4
    replace q3 := q3.below hb4
    replace BB := bl_trans BB hb4
    clear hb4
    clear PA_0 PA_1 PA_2 PA_3
    go_wp2_with fail
    refine (cFrom _ (by omega) (by omega) (Nat.le_refl _)).mono ?_
    rintro e w5 ⟨_, rfl, hb5, b5, A5, n5, c5, rfl, Z5⟩
    replace PB := PB.below hb5
    replace QA := QA.below hb5
    replace q3 := q3.below hb5
    replace BB := bl_trans BB hb5
    clear hb5
    have q5 : IsZ _ w5 (.agg #[.bool b5, .slice A5 n5 c5]) (n) 2 := ⟨_, _, _, _, rfl, Z5⟩
    clear Z5
    go_wp2_with fail
    refine (cFrom _ (by omega) (by omega) (Nat.le_refl _)).mono ?_
    rintro e w6 ⟨_, rfl, hb6, b6, A6, n6, c6, rfl, Z6⟩
    replace PB := PB.below hb6
    replace QA := QA.below hb6
    replace q3 := q3.below hb6
    replace q5 := q5.below hb6
    replace BB := bl_trans BB hb6
    clear hb6
    have q6 : IsZ _ w6 (.agg #[.bool b6, .slice A6 n6 c6]) (m) 2 := ⟨_, _, _, _, rfl, Z6⟩
    clear Z6
    obtain ⟨_, _, _, _, e0, y0⟩ := q5.m
    cases e0
    obtain ⟨_, _, _, _, e1, y1⟩ := q6.m
    cases e1
    have r6 := IsR2.new y0 y1
    clear y0 y1
    replace BB := bl_trans BB (bl_alloc w6 (.cells #[.bool b5, .slice A5 n5 c5, .bool b6, .slice A6 n6 c6] 32))
    replace PB := PB.below (bl_alloc _ (.cells #[.bool b5, .slice A5 n5 c5, .bool b6, .slice A6 n6 c6] 32))
    replace QA := QA.below (bl_alloc _ (.cells #[.bool b5, .slice A5 n5 c5, .bool b6, .slice A6 n6 c6] 32))
    replace q3 := q3.below (bl_alloc _ (.cells #[.bool b5, .slice A5 n5 c5, .bool b6, .slice A6 n6 c6] 32))
    replace q5 := q5.below (bl_alloc _ (.cells #[.bool b5, .slice A5 n5 c5, .bool b6, .slice A6 n6 c6] 32))
    replace q6 := q6.below (bl_alloc _ (.cells #[.bool b5, .slice A5 n5 c5, .bool b6, .slice A6 n6 c6] 32))
    go_wp2_with fail
    refine (cAdd2 (z := n) (u := m) r6 (by omega) (by omega) (Nat.le_refl _)).mono ?_
    rintro e w7 ⟨_, rfl, hb7, b7, A7, n7, c7, rfl, Z7⟩
    replace PB := PB.below hb7
    replace QA := QA.below hb7
    replace q3 := q3.below hb7
    replace q5 := q5.below hb7
    replace q6 := q6.below hb7
    replace BB := bl_trans BB hb7
    clear hb7
    have q7 : IsZ _ w7 (.agg #[.bool b7, .slice A7 n7 c7]) (n + m) 3 := ⟨_, _, _, _, rfl, Z7⟩
    clear Z7
    clear r6
    go_wp2_with fail
    refine (cSmall_yes q7.m (by omega) (by omega) (by omega)).mono ?_
    rintro e w8 ⟨_, rfl, hb8, rfl⟩
    replace PB := PB.below hb8
    replace QA := QA.below hb8
    replace q3 := q3.below hb8
    replace q5 := q5.below hb8
    replace q6 := q6.below hb8
    replace q7 := q7.below hb8
    replace BB := bl_trans BB hb8
    clear hb8
    have PB_0 := PB.c0
    have PB_1 := PB.c1
    go_wp2_with fail
    refine (cSmall_yes QA (by omega) S0 S1).mono ?_
    rintro e w9 ⟨_, rfl, hb9, rfl⟩
    clear PB_0 PB_1
    replace PB := PB.below hb9
    replace QA := QA.below hb9
    replace q3 := q3.below hb9
    replace q5 := q5.below hb9
    replace q6 := q6.below hb9
    replace q7 := q7.below hb9
    replace BB := bl_trans BB hb9
    clear hb9
    go_wp2_with fail
    refine wp_region_list (Ext := RB) (Rel := RBu) [fun v _ _ => v = .bool true, fun v _ _ => v = .bool false, fun v _ _ => v = .bool false, fun v _ _ => v = .int .i64 z, fun v _ w => IsZ (w9).heap.size w v (z) 2, fun v _ w => IsM w v (z) 5, fun v _ w => IsR1 w v (z) 5, fun v _ w => IsZ (w9).heap.size w v (z) 6, fun v _ _ => v = .bool true, fun v _ _ => v = .bool true, fun v _ _ => v = .bool true] (n := 11) (by kernel_rfl) rfl (by kernel_rfl) (by kernel_rfl) (by kernel_rfl) (by kernel_rfl) (by kernel_rfl) rb_refl rb_trans ⟨sC, ⟨sC, ⟨sC, ⟨sC, ⟨sZ, ⟨sM, ⟨sR1, ⟨sZ, ⟨sC, ⟨sC, ⟨sC, trivial⟩⟩⟩⟩⟩⟩⟩⟩⟩⟩⟩ ?_ ?_
    · refine ⟨⟨⟨⟨⟨⟨⟨⟨⟨⟨⟨trivial, ?_⟩, ?_⟩, ?_⟩, ?_⟩, ?_⟩, ?_⟩, ?_⟩, ?_⟩, ?_⟩, ?_⟩, ?_⟩
      · refine rs_plain rfl rfl fun a wr S => ?_
        have X := undrew S.ext
        exact wp_mv (ev_of ((S.old 13 (by kernel_rfl)).trans rfl)) (done (by kernel_rfl) rbu_refl rfl)
      · refine rs_plain rfl rfl fun a wr S => ?_
        have X := undrew S.ext
        obtain ⟨v0, e0, h0⟩ := S.got 0 (by kernel_rfl)
        exact wp_not ((ev_of (e0 95 (by kernel_rfl))).trans h0) (done (by kernel_rfl) rbu_refl rfl)
      · refine rs_plain rfl rfl fun a wr S => ?_
        have X := undrew S.ext
        obtain ⟨v1, e1, h1⟩ := S.got 1 (by kernel_rfl)
        exact wp_mv ((ev_of (e1 96 (by kernel_rfl))).trans h1) (done (by kernel_rfl) rbu_refl rfl)
      · refine rs_yes rfl rfl (by kernel_rfl) (by kernel_rfl : _ = some 97) (fun _ _ _ h => h) fun a wr S => ?_
        have X := undrew S.ext
        exact wp_mv (ev_of ((S.old 12 (by kernel_rfl)).trans rfl)) (done (by kernel_rfl) rbu_refl rfl)
      · refine rs_yes rfl rfl (by kernel_rfl) (by kernel_rfl : _ = some 97) (fun _ _ _ h => h) fun a wr S => ?_
        have X := undrew S.ext
        obtain ⟨v3, e3, h3⟩ := S.got 3 (by kernel_rfl)
        exact st_call cf_big_From (args1 ((ev_of (e3 98 (by kernel_rfl))).trans h3)) (by kernel_rfl) rb (cFrom _ (by omega) (by omega) X.size) (fun _ _ _ h => h)
      · refine rs_yes rfl rfl (by kernel_rfl) (by kernel_rfl : _ = some 97) (fun _ _ _ h => h) fun a wr S => ?_
        have X := undrew S.ext
        exact wp_load (ev_of ((S.old 5 (by kernel_rfl)).trans rfl)) (PB.below X) (done (by kernel_rfl) rbu_refl (QA.below X))
      · refine rs_yes rfl rfl (by kernel_rfl) (by kernel_rfl : _ = some 97) (fun _ _ _ h => h) fun a wr S => ?_
        have X := undrew S.ext
        obtain ⟨v5, e5, h5⟩ := S.got 5 (by kernel_rfl)
        obtain ⟨b0, A0, n0, c0, hv0, Z0⟩ := (show IsM wr _ _ _ from h5)
        exact wp_bs1 ((ev_of (e5 100 (by kernel_rfl))).trans hv0) (done' (by kernel_rfl) (rb _ _ _ (bl_alloc _ _)) (IsR1.new Z0))
      · refine rs_yes rfl rfl (by kernel_rfl) (by kernel_rfl : _ = some 97) (fun _ _ _ h => h) fun a wr S => ?_
        have X := undrew S.ext
        obtain ⟨v6, e6, h6⟩ := S.got 6 (by kernel_rfl)
        exact st_call cf_big_Add (args1 (ev_of (e6 101 (by kernel_rfl)))) (by kernel_rfl) rb (cAdd1 h6 (by omega) X.size) (fun _ _ _ h => h)
      · refine rs_yes rfl rfl (by kernel_rfl) (by kernel_rfl : _ = some 97) (fun _ _ _ h => h) fun a wr S => ?_
        have X := undrew S.ext
        obtain ⟨v4, e4, h4⟩ := S.got 4 (by kernel_rfl)
        obtain ⟨v7, e7, h7⟩ := S.got 7 (by kernel_rfl)
        exact st_call cf_law02_same (args2 (ev_of (e4 99 (by kernel_rfl))) (ev_of (e7 102 (by kernel_rfl)))) (by kernel_rfl) rb (cSame h4.t h7.t (by omega) (by omega) (decide_eq_true (rfl))) (fun _ _ _ h => h)
      · refine rs_plain rfl rfl fun a wr S => ?_
        have X := undrew S.ext
        obtain ⟨v2, e2, h2⟩ := S.got 2 (by kernel_rfl)
        obtain ⟨v8, e8, h8⟩ := S.got 8 (by kernel_rfl)
        exact wp_pickF ((ev_of (e2 97 (by kernel_rfl))).trans h2) ((ev_of (e8 103 (by kernel_rfl))).trans h8) (done (by kernel_rfl) rbu_refl rfl)
      · refine rs_plain rfl rfl fun a wr S => ?_
        have X := undrew S.ext
        obtain ⟨v9, e9, h9⟩ := S.got 9 (by kernel_rfl)
        exact wp_as ((ev_of (e9 104 (by kernel_rfl))).trans h9) (done (by kernel_rfl) rbu_refl rfl)
    · intro f10_ w10 hR hv
      replace hR := undrew hR
      have f0 : f10_ 0 = .bool true := (hvc (hv 0 (by omega))).elim fun _ h => h
      have f1 : f10_ 1 = .bool false := (hvc (hv 1 (by omega))).elim fun _ h => h
      have f2 : f10_ 2 = .bool false := (hvc (hv 2 (by omega))).elim fun _ h => h
      have f3 : f10_ 3 = .int .i64 z := (hvc (hv 3 (by omega))).elim fun _ h => h
      have f8 : f10_ 8 = .bool true := (hvc (hv 8 (by omega))).elim fun _ h => h
      have f9 : f10_ 9 = .bool true := (hvc (hv 9 (by omega))).elim fun _ h => h
      have f10 : f10_ 10 = .bool true := (hvc (hv 10 (by omega))).elim fun _ h => h
      simp only [putFn, Act.put, List.setIfInBounds_toArray, List.set_cons_zero, List.set_cons_succ, f0, f1, f2, f3, f8, f9, f10]
      replace PB := PB.below hR
      replace QA := QA.below hR
      replace q3 := q3.below hR
      replace q5 := q5.below hR
      replace q6 := q6.below hR
      replace q7 := q7.below hR
      replace BB := bl_trans BB hR
      clear hR
      clear hv
      go_wp2_with fail
      go_ret
      exact ⟨rfl, BB⟩
  · have PA := Bz.new w s A l c
    have BB := bl_alloc w (.cells #[.bool s, .slice A l c] 32)
    go_enter Try.func11, Try.ntmps11
    go_wp2_with fail
    refine (cWorks _).mono ?_
    rintro e w1 ⟨_, rfl, hb1, rfl⟩
    replace PA := PA.below hb1
    replace BB := bl_trans BB hb1
    clear hb1
    have PA_0 := PA.c0
    have PA_1 := PA.c1
    go_wp2_with fail
    refine (cFew (HR.out.below BB) HM.out 5 _ rfl (by omega)).mono ?_
    rintro e w2 ⟨_, rfl, hb2, rfl⟩
    replace PA := PA.below hb2
    replace BB := bl_trans BB hb2
    clear hb2
    clear PA_0 PA_1
    have PA_0 := PA.c0
    have PA_1 := PA.c1
    have PA_2 := PA.f 0
    have PA_3 := PA.f 1
    have PB := (belU_store (N := w.heap.size) (t := s) (B := A) (m := min l 5) (d := c) PA (Nat.le_refl _)).2
    replace BB := (BB.setCell (p := ⟨w.heap.size, 0, none⟩) (Nat.le_refl _) (.bool s)).setCell (p := ⟨w.heap.size, 1, none⟩) (Nat.le_refl _) (.slice A (min l 5) c)
    have QA : IsM ((w2.setCell ⟨w.heap.size, 0, none⟩ (.bool s)).setCell ⟨w.heap.size, 1, none⟩ (.slice A (min l 5) c)) (.agg #[.bool s, .slice A (min l 5) c]) z 5 := ⟨_, _, _, _, rfl, by rw [HZ.out]; exact few_zm (HR.out.below BB) 5⟩
    clear PA HR HM HZ
    go_wp2_with fail
    refine (cFrom _ (by omega) (by omega) (Nat.le_refl _)).mono ?_
    rintro e w3 ⟨_, rfl, hb3, b3, A3, n3, c3, rfl, Z3⟩
    replace PB := PB.below hb3
    replace QA := QA.below hb3
    replace BB := bl_trans BB hb3
    clear hb3
    have q3 : IsZ _ w3 (.agg #[.bool b3, .slice A3 n3 c3]) (n) 2 := ⟨_, _, _, _, rfl, Z3⟩
    clear Z3
    go_wp2_with fail
    refine (cSmall_yes q3.m (by omega) (by omega) (by omega)).mono ?_
    rintro e w4 ⟨_, rfl, hb4, rfl⟩
    replace PB := PB.below hb4
    replace QA := QA.below hb4
    replace q3 := q3.below hb4
    replace BB := bl_trans BB hb4
    clear hb4
    clear PA_0 PA_1 PA_2 PA_3
    go_wp2_with fail
    refine (cFrom _ (by omega) (by omega) (Nat.le_refl _)).mono ?_
    rintro e w5 ⟨_, rfl, hb5, b5, A5, n5, c5, rfl, Z5⟩
    replace PB := PB.below hb5
    replace QA := QA.below hb5
    replace q3 := q3.below hb5
    replace BB := bl_trans BB hb5
    clear hb5
    have q5 : IsZ _ w5 (.agg #[.bool b5, .slice A5 n5 c5]) (n) 2 := ⟨_, _, _, _, rfl, Z5⟩
    clear Z5
    go_wp2_with fail
    refine (cFrom _ (by omega) (by omega) (Nat.le_refl _)).mono ?_
    rintro e w6 ⟨_, rfl, hb6, b6, A6, n6, c6, rfl, Z6⟩
    replace PB := PB.below hb6
    replace QA := QA.below hb6
    replace q3 := q3.below hb6
    replace q5 := q5.below hb6
    replace BB := bl_trans BB hb6
    clear hb6
    have q6 : IsZ _ w6 (.agg #[.bool b6, .slice A6 n6 c6]) (m) 2 := ⟨_, _, _, _, rfl, Z6⟩
    clear Z6
    obtain ⟨_, _, _, _, e0, y0⟩ := q5.m
    cases e0
    obtain ⟨_, _, _, _, e1, y1⟩ := q6.m
    cases e1
    have r6 := IsR2.new y0 y1
    clear y0 y1
    replace BB := bl_trans BB (bl_alloc w6 (.cells #[.bool b5, .slice A5 n5 c5, .bool b6, .slice A6 n6 c6] 32))
    replace PB := PB.below (bl_alloc _ (.cells #[.bool b5, .slice A5 n5 c5, .bool b6, .slice A6 n6 c6] 32))
    replace QA := QA.below (bl_alloc _ (.cells #[.bool b5, .slice A5 n5 c5, .bool b6, .slice A6 n6 c6] 32))
    replace q3 := q3.below (bl_alloc _ (.cells #[.bool b5, .slice A5 n5 c5, .bool b6, .slice A6 n6 c6] 32))
    replace q5 := q5.below (bl_alloc _ (.cells #[.bool b5, .slice A5 n5 c5, .bool b6, .slice A6 n6 c6] 32))
    replace q6 := q6.below (bl_alloc _ (.cells #[.bool b5, .slice A5 n5 c5, .bool b6, .slice A6 n6 c6] 32))
    go_wp2_with fail
    refine (cAdd2 (z := n) (u := m) r6 (by omega) (by omega) (Nat.le_refl _)).mono ?_
    rintro e w7 ⟨_, rfl, hb7, b7, A7, n7, c7, rfl, Z7⟩
    replace PB := PB.below hb7
    replace QA := QA.below hb7
    replace q3 := q3.below hb7
    replace q5 := q5.below hb7
    replace q6 := q6.below hb7
    replace BB := bl_trans BB hb7
    clear hb7
    have q7 : IsZ _ w7 (.agg #[.bool b7, .slice A7 n7 c7]) (n + m) 3 := ⟨_, _, _, _, rfl, Z7⟩
    clear Z7
    clear r6
    go_wp2_with fail
    refine (cSmall_yes q7.m (by omega) (by omega) (by omega)).mono ?_
    rintro e w8 ⟨_, rfl, hb8, rfl⟩
    replace PB := PB.below hb8
    replace QA := QA.below hb8
    replace q3 := q3.below hb8
    replace q5 := q5.below hb8
    replace q6 := q6.below hb8
    replace q7 := q7.below hb8
    replace BB := bl_trans BB hb8
    clear hb8
    have PB_0 := PB.c0
    have PB_1 := PB.c1
    go_wp2_with fail
    refine (cSmall_yes QA (by omega) S0 S1).mono ?_
    rintro e w9 ⟨_, rfl, hb9, rfl⟩
    clear PB_0 PB_1
    replace PB := PB.below hb9
    replace QA := QA.below hb9
    replace q3 := q3.below hb9
    replace q5 := q5.below hb9
    replace q6 := q6.below hb9
    replace q7 := q7.below hb9
    replace BB := bl_trans BB hb9
    clear hb9
    go_wp2_with fail
    refine wp_region_list (Ext := RB) (Rel := RBu) [fun v _ _ => v = .bool true, fun v _ _ => v = .bool false, fun v _ _ => v = .bool false, fun v _ _ => v = .int .i64 z, fun v _ w => IsZ (w9).heap.size w v (z) 2, fun v _ w => IsM w v (z) 5, fun v _ w => IsR1 w v (z) 5, fun v _ w => IsZ (w9).heap.size w v (z) 6, fun v _ _ => v = .bool true, fun v _ _ => v = .bool true, fun v _ _ => v = .bool true] (n := 11) (by kernel_rfl) rfl (by kernel_rfl) (by kernel_rfl) (by kernel_rfl) (by kernel_rfl) (by kernel_rfl) rb_refl rb_trans ⟨sC, ⟨sC, ⟨sC, ⟨sC, ⟨sZ, ⟨sM, ⟨sR1, ⟨sZ, ⟨sC, ⟨sC, ⟨sC, trivial⟩⟩⟩⟩⟩⟩⟩⟩⟩⟩⟩ ?_ ?_
    · refine ⟨⟨⟨⟨⟨⟨⟨⟨⟨⟨⟨trivial, ?_⟩, ?_⟩, ?_⟩, ?_⟩, ?_⟩, ?_⟩, ?_⟩, ?_⟩, ?_⟩, ?_⟩, ?_⟩
      · refine rs_plain rfl rfl fun a wr S => ?_
        have X := undrew S.ext
        exact wp_mv (ev_of ((S.old 13 (by kernel_rfl)).trans rfl)) (done (by kernel_rfl) rbu_refl rfl)
      · refine rs_plain rfl rfl fun a wr S => ?_
        have X := undrew S.ext
        obtain ⟨v0, e0, h0⟩ := S.got 0 (by kernel_rfl)
        exact wp_not ((ev_of (e0 95 (by kernel_rfl))).trans h0) (done (by kernel_rfl) rbu_refl rfl)
      · refine rs_plain rfl rfl fun a wr S => ?_
        have X := undrew S.ext
        obtain ⟨v1, e1, h1⟩ := S.got 1 (by kernel_rfl)
        exact wp_mv ((ev_of (e1 96 (by kernel_rfl))).trans h1) (done (by kernel_rfl) rbu_refl rfl)
      · refine rs_yes rfl rfl (by kernel_rfl) (by kernel_rfl : _ = some 97) (fun _ _ _ h => h) fun a wr S => ?_
        have X := undrew S.ext
        exact wp_mv (ev_of ((S.old 12 (by kernel_rfl)).trans rfl)) (done (by kernel_rfl) rbu_refl rfl)
      · refine rs_yes rfl rfl (by kernel_rfl) (by kernel_rfl : _ = some 97) (fun _ _ _ h => h) fun a wr S => ?_
        have X := undrew S.ext
        obtain ⟨v3, e3, h3⟩ := S.got 3 (by kernel_rfl)
        exact st_call cf_big_From (args1 ((ev_of (e3 98 (by kernel_rfl))).trans h3)) (by kernel_rfl) rb (cFrom _ (by omega) (by omega) X.size) (fun _ _ _ h => h)
      · refine rs_yes rfl rfl (by kernel_rfl) (by kernel_rfl : _ = some 97) (fun _ _ _ h => h) fun a wr S => ?_
        have X := undrew S.ext
        exact wp_load (ev_of ((S.old 5 (by kernel_rfl)).trans rfl)) (PB.below X) (done (by kernel_rfl) rbu_refl (QA.below X))
      · refine rs_yes rfl rfl (by kernel_rfl) (by kernel_rfl : _ = some 97) (fun _ _ _ h => h) fun a wr S => ?_
        have X := undrew S.ext
        obtain ⟨v5, e5, h5⟩ := S.got 5 (by kernel_rfl)
        obtain ⟨b0, A0, n0, c0, hv0, Z0⟩ := (show IsM wr _ _ _ from h5)
        exact wp_bs1 ((ev_of (e5 100 (by kernel_rfl))).trans hv0) (done' (by kernel_rfl) (rb _ _ _ (bl_alloc _ _)) (IsR1.new Z0))
      · refine rs_yes rfl rfl (by kernel_rfl) (by kernel_rfl : _ = some 97) (fun _ _ _ h => h) fun a wr S => ?_
        have X := undrew S.ext
        obtain ⟨v6, e6, h6⟩ := S.got 6 (by kernel_rfl)
        exact st_call cf_big_Add (args1 (ev_of (e6 101 (by kernel_rfl)))) (by kernel_rfl) rb (cAdd1 h6 (by omega) X.size) (fun _ _ _ h => h)
      · refine rs_yes rfl rfl (by kernel_rfl) (by kernel_rfl : _ = some 97) (fun _ _ _ h => h) fun a wr S => ?_
        have X := undrew S.ext
        obtain ⟨v4, e4, h4⟩ := S.got 4 (by kernel_rfl)
        obtain ⟨v7, e7, h7⟩ := S.got 7 (by kernel_rfl)
        exact st_call cf_law02_same (args2 (ev_of (e4 99 (by kernel_rfl))) (ev_of (e7 102 (by kernel_rfl)))) (by kernel_rfl) rb (cSame h4.t h7.t (by omega) (by omega) (decide_eq_true (rfl))) (fun _ _ _ h => h)
      · refine rs_plain rfl rfl fun a wr S => ?_
        have X := undrew S.ext
        obtain ⟨v2, e2, h2⟩ := S.got 2 (by kernel_rfl)
        obtain ⟨v8, e8, h8⟩ := S.got 8 (by kernel_rfl)
        exact wp_pickF ((ev_of (e2 97 (by kernel_rfl))).trans h2) ((ev_of (e8 103 (by kernel_rfl))).trans h8) (done (by kernel_rfl) rbu_refl rfl)
      · refine rs_plain rfl rfl fun a wr S => ?_
        have X := undrew S.ext
        obtain ⟨v9, e9, h9⟩ := S.got 9 (by kernel_rfl)
        exact wp_as ((ev_of (e9 104 (by kernel_rfl))).trans h9) (done (by kernel_rfl) rbu_refl rfl)
    · intro f10_ w10 hR hv
      replace hR := undrew hR
      have f0 : f10_ 0 = .bool true := (hvc (hv 0 (by omega))).elim fun _ h => h
      have f1 : f10_ 1 = .bool false := (hvc (hv 1 (by omega))).elim fun _ h => h
      have f2 : f10_ 2 = .bool false := (hvc (hv 2 (by omega))).elim fun _ h => h
      have f3 : f10_ 3 = .int .i64 z := (hvc (hv 3 (by omega))).elim fun _ h => h
      have f8 : f10_ 8 = .bool true := (hvc (hv 8 (by omega))).elim fun _ h => h
      have f9 : f10_ 9 = .bool true := (hvc (hv 9 (by omega))).elim fun _ h => h
      have f10 : f10_ 10 = .bool true := (hvc (hv 10 (by omega))).elim fun _ h => h
      simp only [putFn, Act.put, List.setIfInBounds_toArray, List.set_cons_zero, List.set_cons_succ, f0, f1, f2, f3, f8, f9, f10]
      replace PB := PB.below hR
      replace QA := QA.below hR
      replace q3 := q3.below hR
      replace q5 := q5.below hR
      replace q6 := q6.below hR
      replace q7 := q7.below hR
      replace BB := bl_trans BB hR
      clear hR
      clear hv
      go_wp2_with fail
      go_ret
      exact ⟨rfl, BB⟩
  · have PA := Bz.new w s A l c
    have BB := bl_alloc w (.cells #[.bool s, .slice A l c] 32)
    go_enter Try.func11, Try.ntmps11
    go_wp2_with fail
    refine (cWorks _).mono ?_
    rintro e w1 ⟨_, rfl, hb1, rfl⟩
    replace PA := PA.below hb1
    replace BB := bl_trans BB hb1
    clear hb1
    have PA_0 := PA.c0
    have PA_1 := PA.c1
    go_wp2_with fail
    refine (cFew (HR.out.below BB) HM.out 5 _ rfl (by omega)).mono ?_
    rintro e w2 ⟨_, rfl, hb2, rfl⟩
    replace PA := PA.below hb2
    replace BB := bl_trans BB hb2
    clear hb2
    clear PA_0 PA_1
    have PA_0 := PA.c0
    have PA_1 := PA.c1
    have PA_2 := PA.f 0
    have PA_3 := PA.f 1
    have PB := (belU_store (N := w.heap.size) (t := s) (B := A) (m := min l 5) (d := c) PA (Nat.le_refl _)).2
    replace BB := (BB.setCell (p := ⟨w.heap.size, 0, none⟩) (Nat.le_refl _) (.bool s)).setCell (p := ⟨w.heap.size, 1, none⟩) (Nat.le_refl _) (.slice A (min l 5) c)
    have QA : IsM ((w2.setCell ⟨w.heap.size, 0, none⟩ (.bool s)).setCell ⟨w.heap.size, 1, none⟩ (.slice A (min l 5) c)) (.agg #[.bool s, .slice A (min l 5) c]) z 5 := ⟨_, _, _, _, rfl, by rw [HZ.out]; exact few_zm (HR.out.below BB) 5⟩
    clear PA HR HM HZ
    go_wp2_with fail
    refine (cFrom _ (by omega) (by omega) (Nat.le_refl _)).mono ?_
    rintro e w3 ⟨_, rfl, hb3, b3, A3, n3, c3, rfl, Z3⟩
    replace PB := PB.below hb3
    replace QA := QA.below hb3
    replace BB := bl_trans BB hb3
    clear hb3
    have q3 : IsZ _ w3 (.agg #[.bool b3, .slice A3 n3 c3]) (n) 2 := ⟨_, _, _, _, rfl, Z3⟩
    clear Z3
    go_wp2_with fail
    refine (cSmall_yes q3.m (by omega) (by omega) (by omega)).mono ?_
    rintro e w4 ⟨_, rfl, hb4, rfl⟩
    replace PB := PB.below hb4
    replace QA := QA.below hb4
    replace q3 := q3.below hb4
    replace BB := bl_trans BB hb4
    clear hb4
    clear PA_0 PA_1 PA_2 PA_3
    go_wp2_with fail
    refine (cFrom _ (by omega) (by omega) (Nat.le_refl _)).mono ?_
    rintro e w5 ⟨_, rfl, hb5, b5, A5, n5, c5, rfl, Z5⟩
    replace PB := PB.below hb5
    replace QA := QA.below hb5
    replace q3 := q3.below hb5
    replace BB := bl_trans BB hb5
    clear hb5
    have q5 : IsZ _ w5 (.agg #[.bool b5, .slice A5 n5 c5]) (n) 2 := ⟨_, _, _, _, rfl, Z5⟩
    clear Z5
    go_wp2_with fail
    refine (cFrom _ (by omega) (by omega) (Nat.le_refl _)).mono ?_
    rintro e w6 ⟨_, rfl, hb6, b6, A6, n6, c6, rfl, Z6⟩
    replace PB := PB.below hb6
    replace QA := QA.below hb6
    replace q3 := q3.below hb6
    replace q5 := q5.below hb6
    replace BB := bl_trans BB hb6
    clear hb6
    have q6 : IsZ _ w6 (.agg #[.bool b6, .slice A6 n6 c6]) (m) 2 := ⟨_, _, _, _, rfl, Z6⟩
    clear Z6
    obtain ⟨_, _, _, _, e0, y0⟩ := q5.m
    cases e0
    obtain ⟨_, _, _, _, e1, y1⟩ := q6.m
    cases e1
    have r6 := IsR2.new y0 y1
    clear y0 y1
    replace BB := bl_trans BB (bl_alloc w6 (.cells #[.bool b5, .slice A5 n5 c5, .bool b6, .slice A6 n6 c6] 32))
    replace PB := PB.below (bl_alloc _ (.cells #[.bool b5, .slice A5 n5 c5, .bool b6, .slice A6 n6 c6] 32))
    replace QA := QA.below (bl_alloc _ (.cells #[.bool b5, .slice A5 n5 c5, .bool b6, .slice A6 n6 c6] 32))
    replace q3 := q3.below (bl_alloc _ (.cells #[.bool b5, .slice A5 n5 c5, .bool b6, .slice A6 n6 c6] 32))
    replace q5 := q5.below (bl_alloc _ (.cells #[.bool b5, .slice A5 n5 c5, .bool b6, .slice A6 n6 c6] 32))
    replace q6 := q6.below (bl_alloc _ (.cells #[.bool b5, .slice A5 n5 c5, .bool b6, .slice A6 n6 c6] 32))
    go_wp2_with fail
    refine (cAdd2 (z := n) (u := m) r6 (by omega) (by omega) (Nat.le_refl _)).mono ?_
    rintro e w7 ⟨_, rfl, hb7, b7, A7, n7, c7, rfl, Z7⟩
    replace PB := PB.below hb7
    replace QA := QA.below hb7
    replace q3 := q3.below hb7
    replace q5 := q5.below hb7
    replace q6 := q6.below hb7
    replace BB := bl_trans BB hb7
    clear hb7
    have q7 : IsZ _ w7 (.agg #[.bool b7, .slice A7 n7 c7]) (n + m) 3 := ⟨_, _, _, _, rfl, Z7⟩
    clear Z7
    clear r6
    go_wp2_with fail
    refine (cSmall_yes q7.m (by omega) (by omega) (by omega)).mono ?_
    rintro e w8 ⟨_, rfl, hb8, rfl⟩
    replace PB := PB.below hb8
    replace QA := QA.below hb8
    replace q3 := q3.below hb8
    replace q5 := q5.below hb8
    replace q6 := q6.below hb8
    replace q7 := q7.below hb8
    replace BB := bl_trans BB hb8
    clear hb8
    have PB_0 := PB.c0
    have PB_1 := PB.c1
    go_wp2_with fail
    refine (cSmall_yes QA (by omega) S0 S1).mono ?_
    rintro e w9 ⟨_, rfl, hb9, rfl⟩
    clear PB_0 PB_1
    replace PB := PB.below hb9
    replace QA := QA.below hb9
    replace q3 := q3.below hb9
    replace q5 := q5.below hb9
    replace q6 := q6.below hb9
    replace q7 := q7.below hb9
    replace BB := bl_trans BB hb9
    clear hb9
    go_wp2_with fail
    refine wp_region_list (Ext := RB) (Rel := RBu) [fun v _ _ => v = .bool true, fun v _ _ => v = .bool false, fun v _ _ => v = .bool false, fun v _ _ => v = .int .i64 z, fun v _ w => IsZ (w9).heap.size w v (z) 2, fun v _ w => IsM w v (z) 5, fun v _ w => IsR1 w v (z) 5, fun v _ w => IsZ (w9).heap.size w v (z) 6, fun v _ _ => v = .bool true, fun v _ _ => v = .bool true, fun v _ _ => v = .bool true] (n := 11) (by kernel_rfl) rfl (by kernel_rfl) (by kernel_rfl) (by kernel_rfl) (by kernel_rfl) (by kernel_rfl) rb_refl rb_trans ⟨sC, ⟨sC, ⟨sC, ⟨sC, ⟨sZ, ⟨sM, ⟨sR1, ⟨sZ, ⟨sC, ⟨sC, ⟨sC, trivial⟩⟩⟩⟩⟩⟩⟩⟩⟩⟩⟩ ?_ ?_
    · refine ⟨⟨⟨⟨⟨⟨⟨⟨⟨⟨⟨trivial, ?_⟩, ?_⟩, ?_⟩, ?_⟩, ?_⟩, ?_⟩, ?_⟩, ?_⟩, ?_⟩, ?_⟩, ?_⟩
      · refine rs_plain rfl rfl fun a wr S => ?_
        have X := undrew S.ext
        exact wp_mv (ev_of ((S.old 13 (by kernel_rfl)).trans rfl)) (done (by kernel_rfl) rbu_refl rfl)
      · refine rs_plain rfl rfl fun a wr S => ?_
        have X := undrew S.ext
        obtain ⟨v0, e0, h0⟩ := S.got 0 (by kernel_rfl)
        exact wp_not ((ev_of (e0 95 (by kernel_rfl))).trans h0) (done (by kernel_rfl) rbu_refl rfl)
      · refine rs_plain rfl rfl fun a wr S => ?_
        have X := undrew S.ext
        obtain ⟨v1, e1, h1⟩ := S.got 1 (by kernel_rfl)
        exact wp_mv ((ev_of (e1 96 (by kernel_rfl))).trans h1) (done (by kernel_rfl) rbu_refl rfl)
      · refine rs_yes rfl rfl (by kernel_rfl) (by kernel_rfl : _ = some 97) (fun _ _ _ h => h) fun a wr S => ?_
        have X := undrew S.ext
        exact wp_mv (ev_of ((S.old 12 (by kernel_rfl)).trans rfl)) (done (by kernel_rfl) rbu_refl rfl)
      · refine rs_yes rfl rfl (by kernel_rfl) (by kernel_rfl : _ = some 97) (fun _ _ _ h => h) fun a wr S => ?_
        have X := undrew S.ext
        obtain ⟨v3, e3, h3⟩ := S.got 3 (by kernel_rfl)
        exact st_call cf_big_From (args1 ((ev_of (e3 98 (by kernel_rfl))).trans h3)) (by kernel_rfl) rb (cFrom _ (by omega) (by omega) X.size) (fun _ _ _ h => h)
      · refine rs_yes rfl rfl (by kernel_rfl) (by kernel_rfl : _ = some 97) (fun _ _ _ h => h) fun a wr S => ?_
        have X := undrew S.ext
        exact wp_load (ev_of ((S.old 5 (by kernel_rfl)).trans rfl)) (PB.below X) (done (by kernel_rfl) rbu_refl (QA.below X))
      · refine rs_yes rfl rfl (by kernel_rfl) (by kernel_rfl : _ = some 97) (fun _ _ _ h => h) fun a wr S => ?_
        have X := undrew S.ext
        obtain ⟨v5, e5, h5⟩ := S.got 5 (by kernel_rfl)
        obtain ⟨b0, A0, n0, c0, hv0, Z0⟩ := (show IsM wr _ _ _ from h5)
        exact wp_bs1 ((ev_of (e5 100 (by kernel_rfl))).trans hv0) (done' (by kernel_rfl) (rb _ _ _ (bl_alloc _ _)) (IsR1.new Z0))
      · refine rs_yes rfl rfl (by kernel_rfl) (by kernel_rfl : _ = some 97) (fun _ _ _ h => h) fun a wr S => ?_
        have X := undrew S.ext
        obtain ⟨v6, e6, h6⟩ := S.got 6 (by kernel_rfl)
        exact st_call cf_big_Add (args1 (ev_of (e6 101 (by kernel_rfl)))) (by kernel_rfl) rb (cAdd1 h6 (by omega) X.size) (fun _ _ _ h => h)
      · refine rs_yes rfl rfl (by kernel_rfl) (by kernel_rfl : _ = some 97) (fun _ _ _ h => h) fun a wr S => ?_
        have X := undrew S.ext
        obtain ⟨v4, e4, h4⟩ := S.got 4 (by kernel_rfl)
        obtain ⟨v7, e7, h7⟩ := S.got 7 (by kernel_rfl)
        exact st_call cf_law02_same (args2 (ev_of (e4 99 (by kernel_rfl))) (ev_of (e7 102 (by kernel_rfl)))) (by kernel_rfl) rb (cSame h4.t h7.t (by omega) (by omega) (decide_eq_true (rfl))) (fun _ _ _ h => h)
      · refine rs_plain rfl rfl fun a wr S => ?_
        have X := undrew S.ext
        obtain ⟨v2, e2, h2⟩ := S.got 2 (by kernel_rfl)
        obtain ⟨v8, e8, h8⟩ := S.got 8 (by kernel_rfl)
        exact wp_pickF ((ev_of (e2 97 (by kernel_rfl))).trans h2) ((ev_of (e8 103 (by kernel_rfl))).trans h8) (done (by kernel_rfl) rbu_refl rfl)
      · refine rs_plain rfl rfl fun a wr S => ?_
        have X := undrew S.ext
        obtain ⟨v9, e9, h9⟩ := S.got 9 (by kernel_rfl)
        exact wp_as ((ev_of (e9 104 (by kernel_rfl))).trans h9) (done (by kernel_rfl) rbu_refl rfl)
    · intro f10_ w10 hR hv
      replace hR := undrew hR
      have f0 : f10_ 0 = .bool true := (hvc (hv 0 (by omega))).elim fun _ h => h
      have f1 : f10_ 1 = .bool false := (hvc (hv 1 (by omega))).elim fun _ h => h
      have f2 : f10_ 2 = .bool false := (hvc (hv 2 (by omega))).elim fun _ h => h
      have f3 : f10_ 3 = .int .i64 z := (hvc (hv 3 (by omega))).elim fun _ h => h
      have f8 : f10_ 8 = .bool true := (hvc (hv 8 (by omega))).elim fun _ h => h
      have f9 : f10_ 9 = .bool true := (hvc (hv 9 (by omega))).elim fun _ h => h
      have f10 : f10_ 10 = .bool true := (hvc (hv 10 (by omega))).elim fun _ h => h
      simp only [putFn, Act.put, List.setIfInBounds_toArray, List.set_cons_zero, List.set_cons_succ, f0, f1, f2, f3, f8, f9, f10]
      replace PB := PB.below hR
      replace QA := QA.below hR
      replace q3 := q3.below hR
      replace q5 := q5.below hR
      replace q6 := q6.below hR
      replace q7 := q7.below hR
      replace BB := bl_trans BB hR
      clear hR
      clear hv
      go_wp2_with fail
      go_ret
      exact ⟨rfl, BB⟩
  · have g2 : 0 ≤ n := by omega
    have g3 : n ≤ 0 := by omega
    clear g0
    have PA := Bz.new w s A l c
    have BB := bl_alloc w (.cells #[.bool s, .slice A l c] 32)
    go_enter Try.func11, Try.ntmps11
    go_wp2_with fail
    refine (cWorks _).mono ?_
    rintro e w1 ⟨_, rfl, hb1, rfl⟩
    replace PA := PA.below hb1
    replace BB := bl_trans BB hb1
    clear hb1
    have PA_0 := PA.c0
    have PA_1 := PA.c1
    go_wp2_with fail
    refine (cFew (HR.out.below BB) HM.out 5 _ rfl (by omega)).mono ?_
    rintro e w2 ⟨_, rfl, hb2, rfl⟩
    replace PA := PA.below hb2
    replace BB := bl_trans BB hb2
    clear hb2
    clear PA_0 PA_1
    have PA_0 := PA.c0
    have PA_1 := PA.c1
    have PA_2 := PA.f 0
    have PA_3 := PA.f 1
    have PB := (belU_store (N := w.heap.size) (t := s) (B := A) (m := min l 5) (d := c) PA (Nat.le_refl _)).2
    replace BB := (BB.setCell (p := ⟨w.heap.size, 0, none⟩) (Nat.le_refl _) (.bool s)).setCell (p := ⟨w.heap.size, 1, none⟩) (Nat.le_refl _) (.slice A (min l 5) c)
    have QA : IsM ((w2.setCell ⟨w.heap.size, 0, none⟩ (.bool s)).setCell ⟨w.heap.size, 1, none⟩ (.slice A (min l 5) c)) (.agg #[.bool s, .slice A (min l 5) c]) z 5 := ⟨_, _, _, _, rfl, by rw [HZ.out]; exact few_zm (HR.out.below BB) 5⟩
    clear PA HR HM HZ
    go_wp2_with fail
    refine (cFrom _ (by omega) (by omega) (Nat.le_refl _)).mono ?_
    rintro e w3 ⟨_, rfl, hb3, b3, A3, n3, c3, rfl, Z3⟩
    replace PB := PB.below hb3
    replace QA := QA.below hb3
    replace BB := bl_trans BB hb3
    clear hb3
    have q3 : IsZ _ w3 (.agg #[.bool b3, .slice A3 n3 c3]) (n) 2 := ⟨_, _, _, _, rfl, Z3⟩
    clear Z3
    go_wp2_with fail
    refine (cSmall_yes q3.m (by omega) (by omega) (by omega)).mono ?_
    rintro e w4 ⟨_, rfl, hb4, rfl⟩
    replace PB := PB.below hb4
    replace QA := QA.below hb4
    replace q3 := q3.below hb4
    replace BB := bl_trans BB hb4
    clear hb4
    clear PA_0 PA_1 PA_2 PA_3
    go_wp2_with fail
    refine (cFrom _ (by omega) (by omega) (Nat.le_refl _)).mono ?_
    rintro e w5 ⟨_, rfl, hb5, b5, A5, n5, c5, rfl, Z5⟩
    replace PB := PB.below hb5
    replace QA := QA.below hb5
    replace q3 := q3.below hb5
    replace BB := bl_trans BB hb5
    clear hb5
    have q5 : IsZ _ w5 (.agg #[.bool b5, .slice A5 n5 c5]) (n) 2 := ⟨_, _, _, _, rfl, Z5⟩
    clear Z5
    go_wp2_with fail
    refine (cFrom _ (by omega) (by omega) (Nat.le_refl _)).mono ?_
    rintro e w6 ⟨_, rfl, hb6, b6, A6, n6, c6, rfl, Z6⟩
    replace PB := PB.below hb6
    replace QA := QA.below hb6
    replace q3 := q3.below hb6
    replace q5 := q5.below hb6
    replace BB := bl_trans BB hb6
    clear hb6
    have q6 : IsZ _ w6 (.agg #[.bool b6, .slice A6 n6 c6]) (m) 2 := ⟨_, _, _, _, rfl, Z6⟩
    clear Z6
    obtain ⟨_, _, _, _, e0, y0⟩ := q5.m
    cases e0
    obtain ⟨_, _, _, _, e1, y1⟩ := q6.m
    cases e1
    have r6 := IsR2.new y0 y1
    clear y0 y1
    replace BB := bl_trans BB (bl_alloc w6 (.cells #[.bool b5, .slice A5 n5 c5, .bool b6, .slice A6 n6 c6] 32))
    replace PB := PB.below (bl_alloc _ (.cells #[.bool b5, .slice A5 n5 c5, .bool b6, .slice A6 n6 c6] 32))
    replace QA := QA.below (bl_alloc _ (.cells #[.bool b5, .slice A5 n5 c5, .bool b6, .slice A6 n6 c6] 32))
    replace q3 := q3.below (bl_alloc _ (.cells #[.bool b5, .slice A5 n5 c5, .bool b6, .slice A6 n6 c6] 32))
    replace q5 := q5.below (bl_alloc _ (.cells #[.bool b5, .slice A5 n5 c5, .bool b6, .slice A6 n6 c6] 32))
    replace q6 := q6.below (bl_alloc _ (.cells #[.bool b5, .slice A5 n5 c5, .bool b6, .slice A6 n6 c6] 32))
    go_wp2_with fail
    refine (cAdd2 (z := n) (u := m) r6 (by omega) (by omega) (Nat.le_refl _)).mono ?_
    rintro e w7 ⟨_, rfl, hb7, b7, A7, n7, c7, rfl, Z7⟩
    replace PB := PB.below hb7
    replace QA := QA.below hb7
    replace q3 := q3.below hb7
    replace q5 := q5.below hb7
    replace q6 := q6.below hb7
    replace BB := bl_trans BB hb7
    clear hb7
    have q7 : IsZ _ w7 (.agg #[.bool b7, .slice A7 n7 c7]) (n + m) 3 := ⟨_, _, _, _, rfl, Z7⟩
    clear Z7
    clear r6
    go_wp2_with fail
    refine (cSmall_yes q7.m (by omega) (by omega) (by omega)).mono ?_
    rintro e w8 ⟨_, rfl, hb8, rfl⟩
    replace PB := PB.below hb8
    replace QA := QA.below hb8
    replace q3 := q3.below hb8
    replace q5 := q5.below hb8
    replace q6 := q6.below hb8
    replace q7 := q7.below hb8
    replace BB := bl_trans BB hb8
    clear hb8
    have PB_0 := PB.c0
    have PB_1 := PB.c1
    go_wp2_with fail
    refine (cSmall_yes QA (by omega) S0 S1).mono ?_
    rintro e w9 ⟨_, rfl, hb9, rfl⟩
    clear PB_0 PB_1
    replace PB := PB.below hb9
    replace QA := QA.below hb9
    replace q3 := q3.below hb9
    replace q5 := q5.below hb9
    replace q6 := q6.below hb9
    replace q7 := q7.below hb9
    replace BB := bl_trans BB hb9
    clear hb9
    go_wp2_with fail
    refine wp_region_list (Ext := RB) (Rel := RBu) [fun v _ _ => v = .bool true, fun v _ _ => v = .bool false, fun v _ _ => v = .bool false, fun v _ _ => v = .int .i64 z, fun v _ w => IsZ (w9).heap.size w v (z) 2, fun v _ w => IsM w v (z) 5, fun v _ w => IsR1 w v (z) 5, fun v _ w => IsZ (w9).heap.size w v (z) 6, fun v _ _ => v = .bool true, fun v _ _ => v = .bool true, fun v _ _ => v = .bool true] (n := 11) (by kernel_rfl) rfl (by kernel_rfl) (by kernel_rfl) (by kernel_rfl) (by kernel_rfl) (by kernel_rfl) rb_refl rb_trans ⟨sC, ⟨sC, ⟨sC, ⟨sC, ⟨sZ, ⟨sM, ⟨sR1, ⟨sZ, ⟨sC, ⟨sC, ⟨sC, trivial⟩⟩⟩⟩⟩⟩⟩⟩⟩⟩⟩ ?_ ?_
    · refine ⟨⟨⟨⟨⟨⟨⟨⟨⟨⟨⟨trivial, ?_⟩, ?_⟩, ?_⟩, ?_⟩, ?_⟩, ?_⟩, ?_⟩, ?_⟩, ?_⟩, ?_⟩, ?_⟩
      · refine rs_plain rfl rfl fun a wr S => ?_
        have X := undrew S.ext
        exact wp_mv (ev_of ((S.old 13 (by kernel_rfl)).trans rfl)) (done (by kernel_rfl) rbu_refl rfl)
      · refine rs_plain rfl rfl fun a wr S => ?_
        have X := undrew S.ext
        obtain ⟨v0, e0, h0⟩ := S.got 0 (by kernel_rfl)
        exact wp_not ((ev_of (e0 95 (by kernel_rfl))).trans h0) (done (by kernel_rfl) rbu_refl rfl)
      · refine rs_plain rfl rfl fun a wr S => ?_
        have X := undrew S.ext
        obtain ⟨v1, e1, h1⟩ := S.got 1 (by kernel_rfl)
        exact wp_mv ((ev_of (e1 96 (by kernel_rfl))).trans h1) (done (by kernel_rfl) rbu_refl rfl)
      · refine rs_yes rfl rfl (by kernel_rfl) (by kernel_rfl : _ = some 97) (fun _ _ _ h => h) fun a wr S => ?_
        have X := undrew S.ext
        exact wp_mv (ev_of ((S.old 12 (by kernel_rfl)).trans rfl)) (done (by kernel_rfl) rbu_refl rfl)
      · refine rs_yes rfl rfl (by kernel_rfl) (by kernel_rfl : _ = some 97) (fun _ _ _ h => h) fun a wr S => ?_
        have X := undrew S.ext
        obtain ⟨v3, e3, h3⟩ := S.got 3 (by kernel_rfl)
        exact st_call cf_big_From (args1 ((ev_of (e3 98 (by kernel_rfl))).trans h3)) (by kernel_rfl) rb (cFrom _ (by omega) (by omega) X.size) (fun _ _ _ h => h)
      · refine rs_yes rfl rfl (by kernel_rfl) (by kernel_rfl : _ = some 97) (fun _ _ _ h => h) fun a wr S => ?_
        have X := undrew S.ext
        exact wp_load (ev_of ((S.old 5 (by kernel_rfl)).trans rfl)) (PB.below X) (done (by kernel_rfl) rbu_refl (QA.below X))
      · refine rs_yes rfl rfl (by kernel_rfl) (by kernel_rfl : _ = some 97) (fun _ _ _ h => h) fun a wr S => ?_
        have X := undrew S.ext
        obtain ⟨v5, e5, h5⟩ := S.got 5 (by kernel_rfl)
        obtain ⟨b0, A0, n0, c0, hv0, Z0⟩ := (show IsM wr _ _ _ from h5)
        exact wp_bs1 ((ev_of (e5 100 (by kernel_rfl))).trans hv0) (done' (by kernel_rfl) (rb _ _ _ (bl_alloc _ _)) (IsR1.new Z0))
      · refine rs_yes rfl rfl (by kernel_rfl) (by kernel_rfl : _ = some 97) (fun _ _ _ h => h) fun a wr S => ?_
        have X := undrew S.ext
        obtain ⟨v6, e6, h6⟩ := S.got 6 (by kernel_rfl)
        exact st_call cf_big_Add (args1 (ev_of (e6 101 (by kernel_rfl)))) (by kernel_rfl) rb (cAdd1 h6 (by omega) X.size) (fun _ _ _ h => h)
      · refine rs_yes rfl rfl (by kernel_rfl) (by kernel_rfl : _ = some 97) (fun _ _ _ h => h) fun a wr S => ?_
        have X := undrew S.ext
        obtain ⟨v4, e4, h4⟩ := S.got 4 (by kernel_rfl)
        obtain ⟨v7, e7, h7⟩ := S.got 7 (by kernel_rfl)
        exact st_call cf_law02_same (args2 (ev_of (e4 99 (by kernel_rfl))) (ev_of (e7 102 (by kernel_rfl)))) (by kernel_rfl) rb (cSame h4.t h7.t (by omega) (by omega) (decide_eq_true (rfl))) (fun _ _ _ h => h)
      · refine rs_plain rfl rfl fun a wr S => ?_
        have X := undrew S.ext
        obtain ⟨v2, e2, h2⟩ := S.got 2 (by kernel_rfl)
        obtain ⟨v8, e8, h8⟩ := S.got 8 (by kernel_rfl)
        exact wp_pickF ((ev_of (e2 97 (by kernel_rfl))).trans h2) ((ev_of (e8 103 (by kernel_rfl))).trans h8) (done (by kernel_rfl) rbu_refl rfl)
      · refine rs_plain rfl rfl fun a wr S => ?_
        have X := undrew S.ext
        obtain ⟨v9, e9, h9⟩ := S.got 9 (by kernel_rfl)
        exact wp_as ((ev_of (e9 104 (by kernel_rfl))).trans h9) (done (by kernel_rfl) rbu_refl rfl)
    · intro f10_ w10 hR hv
      replace hR := undrew hR
      have f0 : f10_ 0 = .bool true := (hvc (hv 0 (by omega))).elim fun _ h => h
      have f1 : f10_ 1 = .bool false := (hvc (hv 1 (by omega))).elim fun _ h => h
      have f2 : f10_ 2 = .bool false := (hvc (hv 2 (by omega))).elim fun _ h => h
      have f3 : f10_ 3 = .int .i64 z := (hvc (hv 3 (by omega))).elim fun _ h => h
      have f8 : f10_ 8 = .bool true := (hvc (hv 8 (by omega))).elim fun _ h => h
      have f9 : f10_ 9 = .bool true := (hvc (hv 9 (by omega))).elim fun _ h => h
      have f10 : f10_ 10 = .bool true := (hvc (hv 10 (by omega))).elim fun _ h => h
      simp only [putFn, Act.put, List.setIfInBounds_toArray, List.set_cons_zero, List.set_cons_succ, f0, f1, f2, f3, f8, f9, f10]
      replace PB := PB.below hR
      replace QA := QA.below hR
      replace q3 := q3.below hR
      replace q5 := q5.below hR
      replace q6 := q6.below hR
      replace q7 := q7.below hR
      replace BB := bl_trans BB hR
      clear hR
      clear hv
      go_wp2_with fail
      go_ret
      exact ⟨rfl, BB⟩

set_option maxHeartbeats 4000000 in
theorem bigSmall_in0 (s : Bool) (A : Option Addr) (l c : Nat) (xs : List Nat) (z n m : Int) (w : World) (n0 : -9223372036854775808 ≤ n) (n1 : n < 9223372036854775808) (m0 : -9223372036854775808 ≤ m) (m1 : m < 9223372036854775808) (HR : Hid (Rd w A l c xs)) (HM : Hid (l ≤ maxLen)) (HZ : Hid (z = zv s (M.val (xs.take (min l 5))))) (r0 : -9223372036854775808 ≤ n + m) (r1 : n + m < 9223372036854775808) (SN : z < -9223372036854775808 ∨ 9223372036854775808 ≤ z) (sg : (0 < n ∧ 0 < m) ∨ (0 < n ∧ m ≤ 0) ∨ (n < 0 ∧ m < 0) ∨ (n < 0 ∧ 0 ≤ m) ∨ n = 0) : Calls Try.prog 11 #[.int .i64 n, .int .i64 m, .agg #[.bool s, .slice A l c]] w fun e w' => e = .returned (.bool true) ∧ Below w.heap.size w w' := by
  rcases sg with ⟨g0, g1⟩ | ⟨g0, g1⟩ | ⟨g0, g1⟩ | ⟨g0, g1⟩ | g0
  · have PA := Bz.new w s A l c
    have BB := bl_alloc w (.cells #[.bool s, .slice A l c] 32)
    go_enter Try.func11, Try.ntmps11
    go_wp2_with fail
    refine (cWorks _).mono ?_
    rintro e w1 ⟨_, rfl, hb1, rfl⟩
    replace PA := PA.below hb1
    replace BB := bl_trans BB hb1
    clear hb1
    have PA_0 := PA.c0
    have PA_1 := PA.c1
    go_wp2_with fail
    refine (cFew (HR.out.below BB) HM.out 5 _ rfl (by omega)).mono ?_
    rintro e w2 ⟨_, rfl, hb2, rfl⟩
    replace PA := PA.below hb2
    replace BB := bl_trans BB hb2
    clear hb2
    clear PA_0 PA_1
    have PA_0 := PA.c0
    have PA_1 := PA.c1
    have PA_2 := PA.f 0
    have PA_3 := PA.f 1
    have PB := (belU_store (N := w.heap.size) (t := s) (B := A) (m := min l 5) (d := c) PA (Nat.le_refl _)).2
    replace BB := (BB.setCell (p := ⟨w.heap.size, 0, none⟩) (Nat.le_refl _) (.bool s)).setCell (p := ⟨w.heap.size, 1, none⟩) (Nat.le_refl _) (.slice A (min l 5) c)
    have QA : IsM ((w2.setCell ⟨w.heap.size, 0, none⟩ (.bool s)).setCell ⟨w.heap.size, 1, none⟩ (.slice A (min l 5) c)) (.agg #[.bool s, .slice A (min l 5) c]) z 5 := ⟨_, _, _, _, rfl, by rw [HZ.out]; exact few_zm (HR.out.below BB) 5⟩
    clear PA HR HM HZ
    go_wp2_with fail
    refine (cFrom _ (by omega) (by omega) (Nat.le_refl _)).mono ?_
    rintro e w3 ⟨_, rfl, hb3, b3, A3, n3, c3, rfl, Z3⟩
    replace PB := PB.below hb3
    replace QA := QA.below hb3
    replace BB := bl_trans BB hb3
    clear hb3
    have q3 : IsZ _ w3 (.agg #[.bool b3, .slice A3 n3 c3]) (n) 2 := ⟨_, _, _, _, rfl, Z3⟩
    clear Z3
    go_wp2_with fail
    refine (cSmall_yes q3.m (by omega) (by omega) (by omega)).mono ?_
    rintro e w4 ⟨_, rfl, hb4, rfl⟩
    replace PB := PB.below hb4
    replace QA := QA.below hb4
    replace q3 := q3.below hb4
    replace BB := bl_trans BB hb4
    clear hb4
    clear PA_0 PA_1 PA_2 PA_3
    go_wp2_with fail
    refine (cFrom _ (by omega) (by omega) (Nat.le_refl _)).mono ?_
    rintro e w5 ⟨_, rfl, hb5, b5, A5, n5, c5, rfl, Z5⟩
    replace PB := PB.below hb5
    replace QA := QA.below hb5
    replace q3 := q3.below hb5
    replace BB := bl_trans BB hb5
    clear hb5
    have q5 : IsZ _ w5 (.agg #[.bool b5, .slice A5 n5 c5]) (n) 2 := ⟨_, _, _, _, rfl, Z5⟩
    clear Z5
    go_wp2_with fail
    refine (cFrom _ (by omega) (by omega) (Nat.le_refl _)).mono ?_
    rintro e w6 ⟨_, rfl, hb6, b6, A6, n6, c6, rfl, Z6⟩
    replace PB := PB.below hb6
    replace QA := QA.below hb6
    replace q3 := q3.below hb6
    replace q5 := q5.below hb6
    replace BB := bl_trans BB hb6
    clear hb6
    have q6 : IsZ _ w6 (.agg #[.bool b6, .slice A6 n6 c6]) (m) 2 := ⟨_, _, _, _, rfl, Z6⟩
    clear Z6
    obtain ⟨_, _, _, _, e0, y0⟩ := q5.m
    cases e0
    obtain ⟨_, _, _, _, e1, y1⟩ := q6.m
    cases e1
    have r6 := IsR2.new y0 y1
    clear y0 y1
    replace BB := bl_trans BB (bl_alloc w6 (.cells #[.bool b5, .slice A5 n5 c5, .bool b6, .slice A6 n6 c6] 32))
    replace PB := PB.below (bl_alloc _ (.cells #[.bool b5, .slice A5 n5 c5, .bool b6, .slice A6 n6 c6] 32))
    replace QA := QA.below (bl_alloc _ (.cells #[.bool b5, .slice A5 n5 c5, .bool b6, .slice A6 n6 c6] 32))
    replace q3 := q3.below (bl_alloc _ (.cells #[.bool b5, .slice A5 n5 c5, .bool b6, .slice A6 n6 c6] 32))
    replace q5 := q5.below (bl_alloc _ (.cells #[.bool b5, .slice A5 n5 c5, .bool b6, .slice A6 n6 c6] 32))
    replace q6 := q6.below (bl_alloc _ (.cells #[.bool b5, .slice A5 n5 c5, .bool b6, .slice A6 n6 c6] 32))
    go_wp2_with fail
    refine (cAdd2 (z := n) (u := m) r6 (by omega) (by omega) (Nat.le_refl _)).mono ?_
    rintro e w7 ⟨_, rfl, hb7, b7, A7, n7, c7, rfl, Z7⟩
    replace PB := PB.below hb7
    replace QA := QA.below hb7
    replace q3 := q3.below hb7
    replace q5 := q5.below hb7
    replace q6 := q6.below hb7
    replace BB := bl_trans BB hb7
    clear hb7
    have q7 : IsZ _ w7 (.agg #[.bool b7, .slice A7 n7 c7]) (n + m) 3 := ⟨_, _, _, _, rfl, Z7⟩
    clear Z7
    clear r6
    go_wp2_with fail
    refine (cSmall_yes q7.m (by omega) (by omega) (by omega)).mono ?_
    rintro e w8 ⟨_, rfl, hb8, rfl⟩
    replace PB := PB.below hb8
    replace QA := QA.below hb8
    replace q3 := q3.below hb8
    replace q5 := q5.below hb8
    replace q6 := q6.below hb8
    replace q7 := q7.below hb8
    replace BB := bl_trans BB hb8
    clear hb8
    have PB_0 := PB.c0
    have PB_1 := PB.c1
    go_wp2_with fail
    refine (cSmall_no QA (by omega) SN).mono ?_
    rintro e w9 ⟨_, rfl, hb9, rfl⟩
    clear PB_0 PB_1
    replace PB := PB.below hb9
    replace QA := QA.below hb9
    replace q3 := q3.below hb9
    replace q5 := q5.below hb9
    replace q6 := q6.below hb9
    replace q7 := q7.below hb9
    replace BB := bl_trans BB hb9
    clear hb9
    go_wp2_with fail
    refine wp_region_list (Ext := RB) (Rel := RBu) [fun v _ _ => v = .bool false, fun v _ _ => v = .bool true, fun v _ _ => v = .bool true, fun v _ _ => v = undef, fun v _ _ => v = undef, fun v _ _ => v = undef, fun v _ _ => v = undef, fun v _ _ => v = undef, fun v _ _ => v = undef, fun v _ _ => v = Value.bool true, fun v _ _ => v = Value.bool true] (n := 11) (by kernel_rfl) rfl (by kernel_rfl) (by kernel_rfl) (by kernel_rfl) (by kernel_rfl) (by kernel_rfl) rb_refl rb_trans ⟨sC, ⟨sC, ⟨sC, ⟨sC, ⟨sC, ⟨sC, ⟨sC, ⟨sC, ⟨sC, ⟨sC, ⟨sC, trivial⟩⟩⟩⟩⟩⟩⟩⟩⟩⟩⟩ ?_ ?_
    · refine ⟨⟨⟨⟨⟨⟨⟨⟨⟨⟨⟨trivial, ?_⟩, ?_⟩, ?_⟩, ?_⟩, ?_⟩, ?_⟩, ?_⟩, ?_⟩, ?_⟩, ?_⟩, ?_⟩
      · refine rs_plain rfl rfl fun a wr S => ?_
        have X := undrew S.ext
        exact wp_mv (ev_of ((S.old 13 (by kernel_rfl)).trans rfl)) (done (by kernel_rfl) rbu_refl rfl)
      · refine rs_plain rfl rfl fun a wr S => ?_
        have X := undrew S.ext
        obtain ⟨v0, e0, h0⟩ := S.got 0 (by kernel_rfl)
        exact wp_not ((ev_of (e0 95 (by kernel_rfl))).trans h0) (done (by kernel_rfl) rbu_refl rfl)
      · refine rs_plain rfl rfl fun a wr S => ?_
        have X := undrew S.ext
        obtain ⟨v1, e1, h1⟩ := S.got 1 (by kernel_rfl)
        exact wp_mv ((ev_of (e1 96 (by kernel_rfl))).trans h1) (done (by kernel_rfl) rbu_refl rfl)
      · exact rs_no rfl rfl (by kernel_rfl) (by kernel_rfl : _ = some 97) (fun _ _ _ h => h) (by kernel_rfl) rbu_refl (fun _ _ => rfl)
      · exact rs_no rfl rfl (by kernel_rfl) (by kernel_rfl : _ = some 97) (fun _ _ _ h => h) (by kernel_rfl) rbu_refl (fun _ _ => rfl)
      · exact rs_no rfl rfl (by kernel_rfl) (by kernel_rfl : _ = some 97) (fun _ _ _ h => h) (by kernel_rfl) rbu_refl (fun _ _ => rfl)
      · exact rs_no rfl rfl (by kernel_rfl) (by kernel_rfl : _ = some 97) (fun _ _ _ h => h) (by kernel_rfl) rbu_refl (fun _ _ => rfl)
      · exact rs_no rfl rfl (by kernel_rfl) (by kernel_rfl : _ = some 97) (fun _ _ _ h => h) (by kernel_rfl) rbu_refl (fun _ _ => rfl)
      · exact rs_no rfl rfl (by kernel_rfl) (by kernel_rfl : _ = some 97) (fun _ _ _ h => h) (by kernel_rfl) rbu_refl (fun _ _ => rfl)
      · refine rs_plain rfl rfl fun a wr S => ?_
        have X := undrew S.ext
        obtain ⟨v2, e2, h2⟩ := S.got 2 (by kernel_rfl)
        exact wp_pickT ((ev_of (e2 97 (by kernel_rfl))).trans h2) rfl (done (by kernel_rfl) rbu_refl rfl)
      · refine rs_plain rfl rfl fun a wr S => ?_
        have X := undrew S.ext
        obtain ⟨v9, e9, h9⟩ := S.got 9 (by kernel_rfl)
        exact wp_as ((ev_of (e9 104 (by kernel_rfl))).trans h9) (done (by kernel_rfl) rbu_refl rfl)
    · intro f10_ w10 hR hv
      replace hR := undrew hR
      have f0 : f10_ 0 = .bool false := (hvc (hv 0 (by omega))).elim fun _ h => h
      have f1 : f10_ 1 = .bool true := (hvc (hv 1 (by omega))).elim fun _ h => h
      have f2 : f10_ 2 = .bool true := (hvc (hv 2 (by omega))).elim fun _ h => h
      have f3 : f10_ 3 = undef := (hvc (hv 3 (by omega))).elim fun _ h => h
      have f4 : f10_ 4 = undef := (hvc (hv 4 (by omega))).elim fun _ h => h
      have f5 : f10_ 5 = undef := (hvc (hv 5 (by omega))).elim fun _ h => h
      have f6 : f10_ 6 = undef := (hvc (hv 6 (by omega))).elim fun _ h => h
      have f7 : f10_ 7 = undef := (hvc (hv 7 (by omega))).elim fun _ h => h
      have f8 : f10_ 8 = undef := (hvc (hv 8 (by omega))).elim fun _ h => h
      have f9 : f10_ 9 = Value.bool true := (hvc (hv 9 (by omega))).elim fun _ h => h
      have f10 : f10_ 10 = Value.bool true := (hvc (hv 10 (by omega))).elim fun _ h => h
      simp only [putFn, Act.put, List.setIfInBounds_toArray, List.set_cons_zero, List.set_cons_succ, f0, f1, f2, f3, f4, f5, f6, f7, f8, f9, f10]
      replace PB := PB.below hR
      replace QA := QA.below hR
      replace q3 := q3.below hR
      replace q5 := q5.below hR
      replace q6 := q6.below hR
      replace q7 := q7.below hR
      replace BB := bl_trans BB hR
      clear hR
      clear hv
      go_wp2_with fail
      go_ret
      exact ⟨rfl, BB⟩
  · have PA := Bz.new w s A l c
    have BB := bl_alloc w (.cells #[.bool s, .slice A l c] 32)
    go_enter Try.func11, Try.ntmps11
    go_wp2_with fail
    refine (cWorks _).mono ?_
    rintro e w1 ⟨_, rfl, hb1, rfl⟩
    replace PA := PA.below hb1
    replace BB := bl_trans BB hb1
    clear hb1
    have PA_0 := PA.c0
    have PA_1 := PA.c1
    go_wp2_with fail
    refine (cFew (HR.out.below BB) HM.out 5 _ rfl (by omega)).mono ?_
    rintro e w2 ⟨_, rfl, hb2, rfl⟩
    replace PA := PA.below hb2
    replace BB := bl_trans BB hb2
    clear hb2
    clear PA_0 PA_1
    have PA_0 := PA.c0
    have PA_1 := PA.c1
    have PA_2 := PA.f 0
    have PA_3 := PA.f 1
    have PB := (belU_store (N := w.heap.size) (t := s) (B := A) (m := min l 5) (d := c) PA (Nat.le_refl _)).2
    replace BB := (BB.setCell (p := ⟨w.heap.size, 0, none⟩) (Nat.le_refl _) (.bool s)).setCell (p := ⟨w.heap.size, 1, none⟩) (Nat.le_refl _) (.slice A (min l 5) c)
    have QA : IsM ((w2.setCell ⟨w.heap.size, 0, none⟩ (.bool s)).setCell ⟨w.heap.size, 1, none⟩ (.slice A (min l 5) c)) (.agg #[.bool s, .slice A (min l 5) c]) z 5 := ⟨_, _, _, _, rfl, by rw [HZ.out]; exact few_zm (HR.out.below BB) 5⟩
    clear PA HR HM HZ
    go_wp2_with fail
    refine (cFrom _ (by omega) (by omega) (Nat.le_refl _)).mono ?_
    rintro e w3 ⟨_, rfl, hb3, b3, A3, n3, c3, rfl, Z3⟩
    replace PB := PB.below hb3
    replace QA := QA.below hb3
    replace BB := bl_trans BB hb3
    clear hb3
    have q3 : IsZ _ w3 (.agg #[.bool b3, .slice A3 n3 c3]) (n) 2 := ⟨_, _, _, _, rfl, Z3⟩
    clear Z3
    go_wp2_with fail
    refine (cSmall_yes q3.m (by omega) (by omega) (by omega)).mono ?_
    rintro e w4 ⟨_, rfl, hb4, rfl⟩
    replace PB := PB.below hb4
    replace QA := QA.below hb4
    replace q3 := q3.below hb4
    replace BB := bl_trans BB hb4
    clear hb4
    clear PA_0 PA_1 PA_2 PA_3
    go_wp2_with fail
    refine (cFrom _ (by omega) (by omega) (Nat.le_refl _)).mono ?_
    rintro e w5 ⟨_, rfl, hb5, b5, A5, n5, c5, rfl, Z5⟩
    replace PB := PB.below hb5
    replace QA := QA.below hb5
    replace q3 := q3.below hb5
    replace BB := bl_trans BB hb5
    clear hb5
    have q5 : IsZ _ w5 (.agg #[.bool b5, .slice A5 n5 c5]) (n) 2 := ⟨_, _, _, _, rfl, Z5⟩
    clear Z5
    go_wp2_with fail
    refine (cFrom _ (by omega) (by omega) (Nat.le_refl _)).mono ?_
    rintro e w6 ⟨_, rfl, hb6, b6, A6, n6, c6, rfl, Z6⟩
    replace PB := PB.below hb6
    replace QA := QA.below hb6
    replace q3 := q3.below hb6
    replace q5 := q5.below hb6
    replace BB := bl_trans BB hb6
    clear hb6
    have q6 : IsZ _ w6 (.agg #[.bool b6, .slice A6 n6 c6]) (m) 2 := ⟨_, _, _, _, rfl, Z6⟩
    clear Z6
    obtain ⟨_, _, _, _, e0, y0⟩ := q5.m
    cases e0
    obtain ⟨_, _, _, _, e1, y1⟩ := q6.m
    cases e1
    have r6 := IsR2.new y0 y1
    clear y0 y1
    replace BB := bl_trans BB (bl_alloc w6 (.cells #[.bool b5, .slice A5 n5 c5, .bool b6, .slice A6 n6 c6] 32))
    replace PB := PB.below (bl_alloc _ (.cells #[.bool b5, .slice A5 n5 c5, .bool b6, .slice A6 n6 c6] 32))
    replace QA := QA.below (bl_alloc _ (.cells #[.bool b5, .slice A5 n5 c5, .bool b6, .slice A6 n6 c6] 32))
    replace q3 := q3.below (bl_alloc _ (.cells #[.bool b5, .slice A5 n5 c5, .bool b6, .slice A6 n6 c6] 32))
    replace q5 := q5.below (bl_alloc _ (.cells #[.bool b5, .slice A5 n5 c5, .bool b6, .slice A6 n6 c6] 32))
    replace q6 := q6.below (bl_alloc _ (.cells #[.bool b5, .slice A5 n5 c5, .bool b6, .slice A6 n6 c6] 32))
    go_wp2_with fail
    refine (cAdd2 (z := n) (u := m) r6 (by omega) (by omega) (Nat.le_refl _)).mono ?_
    rintro e w7 ⟨_, rfl, hb7, b7, A7, n7, c7, rfl, Z7⟩
    replace PB := PB.below hb7
    replace QA := QA.below hb7
    replace q3 := q3.below hb7
    replace q5 := q5.below hb7
    replace q6 := q6.below hb7
    replace BB := bl_trans BB hb7
    clear hb7
    have q7 : IsZ _ w7 (.agg #[.bool b7, .slice A7 n7 c7]) (n + m) 3 := ⟨_, _, _, _, rfl, Z7⟩
    clear Z7
    clear r6
    go_wp2_with fail
    refine (cSmall_yes q7.m (by omega) (by omega) (by omega)).mono ?_
    rintro e w8 ⟨_, rfl, hb8, rfl⟩
    replace PB := PB.below hb8
    replace QA := QA.below hb8
    replace q3 := q3.below hb8
    replace q5 := q5.below hb8
    replace q6 := q6.below hb8
    replace q7 := q7.below hb8
    replace BB := bl_trans BB hb8
    clear hb8
    have PB_0 := PB.c0
    have PB_1 := PB.c1
    go_wp2_with fail
    refine (cSmall_no QA (by omega) SN).mono ?_
    rintro e w9 ⟨_, rfl, hb9, rfl⟩
    clear PB_0 PB_1
    replace PB := PB.below hb9
    replace QA := QA.below hb9
    replace q3 := q3.below hb9
    replace q5 := q5.below hb9
    replace q6 := q6.below hb9
    replace q7 := q7.below hb9
    replace BB := bl_trans BB hb9
    clear hb9
    go_wp2_with fail
    refine wp_region_list (Ext := RB) (Rel := RBu) [fun v _ _ => v = .bool false, fun v _ _ => v = .bool true, fun v _ _ => v = .bool true, fun v _ _ => v = undef, fun v _ _ => v = undef, fun v _ _ => v = undef, fun v _ _ => v = undef, fun v _ _ => v = undef, fun v _ _ => v = undef, fun v _ _ => v = Value.bool true, fun v _ _ => v = Value.bool true] (n := 11) (by kernel_rfl) rfl (by kernel_rfl) (by kernel_rfl) (by kernel_rfl) (by kernel_rfl) (by kernel_rfl) rb_refl rb_trans ⟨sC, ⟨sC, ⟨sC, ⟨sC, ⟨sC, ⟨sC, ⟨sC, ⟨sC, ⟨sC, ⟨sC, ⟨sC, trivial⟩⟩⟩⟩⟩⟩⟩⟩⟩⟩⟩ ?_ ?_
    · refine ⟨⟨⟨⟨⟨⟨⟨⟨⟨⟨⟨trivial, ?_⟩, ?_⟩, ?_⟩, ?_⟩, ?_⟩, ?_⟩, ?_⟩, ?_⟩, ?_⟩, ?_⟩, ?_⟩
      · refine rs_plain rfl rfl fun a wr S => ?_
        have X := undrew S.ext
        exact wp_mv (ev_of ((S.old 13 (by kernel_rfl)).trans rfl)) (done (by kernel_rfl) rbu_refl rfl)
      · refine rs_plain rfl rfl fun a wr S => ?_
        have X := undrew S.ext
        obtain ⟨v0, e0, h0⟩ := S.got 0 (by kernel_rfl)
        exact wp_not ((ev_of (e0 95 (by kernel_rfl))).trans h0) (done (by kernel_rfl) rbu_refl rfl)
      · refine rs_plain rfl rfl fun a wr S => ?_
        have X := undrew S.ext
        obtain ⟨v1, e1, h1⟩ := S.got 1 (by kernel_rfl)
        exact wp_mv ((ev_of (e1 96 (by kernel_rfl))).trans h1) (done (by kernel_rfl) rbu_refl rfl)
      · exact rs_no rfl rfl (by kernel_rfl) (by kernel_rfl : _ = some 97) (fun _ _ _ h => h) (by kernel_rfl) rbu_refl (fun _ _ => rfl)
      · exact rs_no rfl rfl (by kernel_rfl) (by kernel_rfl : _ = some 97) (fun _ _ _ h => h) (by kernel_rfl) rbu_refl (fun _ _ => rfl)
      · exact rs_no rfl rfl (by kernel_rfl) (by kernel_rfl : _ = some 97) (fun _ _ _ h => h) (by kernel_rfl) rbu_refl (fun _ _ => rfl)
      · exact rs_no rfl rfl (by kernel_rfl) (by kernel_rfl : _ = some 97) (fun _ _ _ h => h) (by kernel_rfl) rbu_refl (fun _ _ => rfl)
      · exact rs_no rfl rfl (by kernel_rfl) (by kernel_rfl : _ = some 97) (fun _ _ _ h => h) (by kernel_rfl) rbu_refl (fun _ _ => rfl)
      · exact rs_no rfl rfl (by kernel_rfl) (by kernel_rfl : _ = some 97) (fun _ _ _ h => h) (by kernel_rfl) rbu_refl (fun _ _ => rfl)
      · refine rs_plain rfl rfl fun a wr S => ?_
        have X := undrew S.ext
        obtain ⟨v2, e2, h2⟩ := S.got 2 (by kernel_rfl)
        exact wp_pickT ((ev_of (e2 97 (by kernel_rfl))).trans h2) rfl (done (by kernel_rfl) rbu_refl rfl)
      · refine rs_plain rfl rfl fun a wr S => ?_
        have X := undrew S.ext
        obtain ⟨v9, e9, h9⟩ := S.got 9 (by kernel_rfl)
        exact wp_as ((ev_of (e9 104 (by kernel_rfl))).trans h9) (done (by kernel_rfl) rbu_refl rfl)
    · intro f10_ w10 hR hv
      replace hR := undrew hR
      have f0 : f10_ 0 = .bool false := (hvc (hv 0 (by omega))).elim fun _ h => h
      have f1 : f10_ 1 = .bool true := (hvc (hv 1 (by omega))).elim fun _ h => h
      have f2 : f10_ 2 = .bool true := (hvc (hv 2 (by omega))).elim fun _ h => h
      have f3 : f10_ 3 = undef := (hvc (hv 3 (by omega))).elim fun _ h => h
      have f4 : f10_ 4 = undef := (hvc (hv 4 (by omega))).elim fun _ h => h
      have f5 : f10_ 5 = undef := (hvc (hv 5 (by omega))).elim fun _ h => h
      have f6 : f10_ 6 = undef := (hvc (hv 6 (by omega))).elim fun _ h => h
      have f7 : f10_ 7 = undef := (hvc (hv 7 (by omega))).elim fun _ h => h
      have f8 : f10_ 8 = undef := (hvc (hv 8 (by omega))).elim fun _ h => h
      have f9 : f10_ 9 = Value.bool true := (hvc (hv 9 (by omega))).elim fun _ h => h
      have f10 : f10_ 10 = Value.bool true := (hvc (hv 10 (by omega))).elim fun _ h => h
      simp only [putFn, Act.put, List.setIfInBounds_toArray, List.set_cons_zero, List.set_cons_succ, f0, f1, f2, f3, f4, f5, f6, f7, f8, f9, f10]
      replace PB := PB.below hR
      replace QA := QA.below hR
      replace q3 := q3.below hR
      replace q5 := q5.below hR
      replace q6 := q6.below hR
      replace q7 := q7.below hR
      replace BB := bl_trans BB hR
      clear hR
      clear hv
      go_wp2_with fail
      go_ret
      exact ⟨rfl, BB⟩
  · have PA := Bz.new w s A l c
    have BB := bl_alloc w (.cells #[.bool s, .slice A l c] 32)
    go_enter Try.func11, Try.ntmps11
    go_wp2_with fail
    refine (cWorks _).mono ?_
    rintro e w1 ⟨_, rfl, hb1, rfl⟩
    replace PA := PA.below hb1
    replace BB := bl_trans BB hb1
    clear hb1
    have PA_0 := PA.c0
    have PA_1 := PA.c1
    go_wp2_with fail
    refine (cFew (HR.out.below BB) HM.out 5 _ rfl (by omega)).mono ?_
    rintro e w2 ⟨_, rfl, hb2, rfl⟩
    replace PA := PA.below hb2
    replace BB := bl_trans BB hb2
    clear hb2
    clear PA_0 PA_1
    have PA_0 := PA.c0
    have PA_1 := PA.c1
    have PA_2 := PA.f 0
    have PA_3 := PA.f 1
    have PB := (belU_store (N := w.heap.size) (t := s) (B := A) (m := min l 5) (d := c) PA (Nat.le_refl _)).2
    replace BB := (BB.setCell (p := ⟨w.heap.size, 0, none⟩) (Nat.le_refl _) (.bool s)).setCell (p := ⟨w.heap.size, 1, none⟩) (Nat.le_refl _) (.slice A (min l 5) c)
    have QA : IsM ((w2.setCell ⟨w.heap.size, 0, none⟩ (.bool s)).setCell ⟨w.heap.size, 1, none⟩ (.slice A (min l 5) c)) (.agg #[.bool s, .slice A (min l 5) c]) z 5 := ⟨_, _, _, _, rfl, by rw [HZ.out]; exact few_zm (HR.out.below BB) 5⟩
    clear PA HR HM HZ
    go_wp2_with fail
    refine (cFrom _ (by omega) (by omega) (Nat.le_refl _)).mono ?_
    rintro e w3 ⟨_, rfl, hb3, b3, A3, n3, c3, rfl, Z3⟩
    replace PB := PB.below hb3
    replace QA := QA.below hb3
    replace BB := bl_trans BB hb3
    clear hb3
    have q3 : IsZ _ w3 (.agg #[.bool b3, .slice A3 n3 c3]) (n) 2 := ⟨_, _, _, _, rfl, Z3⟩
    clear Z3
    go_wp2_with fail
    refine (cSmall_yes q3.m (by omega) (by omega) (by omega)).mono ?_
    rintro e w4 ⟨_, rfl, hb4, rfl⟩
    replace PB := PB.below hb4
    replace QA := QA.below hb4
    replace q3 := q3.below hb4
    replace BB := bl_trans BB hb4
    clear hb4
    clear PA_0 PA_1 PA_2 PA_3
    go_wp2_with fail
    refine (cFrom _ (by omega) (by omega) (Nat.le_refl _)).mono ?_
    rintro e w5 ⟨_, rfl, hb5, b5, A5, n5, c5, rfl, Z5⟩
    replace PB := PB.below hb5
    replace QA := QA.below hb5
    replace q3 := q3.below hb5
    replace BB := bl_trans BB hb5
    clear hb5
    have q5 : IsZ _ w5 (.agg #[.bool b5, .slice A5 n5 c5]) (n) 2 := ⟨_, _, _, _, rfl, Z5⟩
    clear Z5
    go_wp2_with fail
    refine (cFrom _ (by omega) (by omega) (Nat.le_refl _)).mono ?_
    rintro e w6 ⟨_, rfl, hb6, b6, A6, n6, c6, rfl, Z6⟩
    replace PB := PB.below hb6
    replace QA := QA.below hb6
    replace q3 := q3.below hb6
    replace q5 := q5.below hb6
    replace BB := bl_trans BB hb6
    clear hb6
    have q6 : IsZ _ w6 (.agg #[.bool b6, .slice A6 n6 c6]) (m) 2 := ⟨_, _, _, _, rfl, Z6⟩
    clear Z6
    obtain ⟨_, _, _, _, e0, y0⟩ := q5.m
    cases e0
    obtain ⟨_, _, _, _, e1, y1⟩ := q6.m
    cases e1
    have r6 := IsR2.new y0 y1
    clear y0 y1
    replace BB := bl_trans BB (bl_alloc w6 (.cells #[.bool b5, .slice A5 n5 c5, .bool b6, .slice A6 n6 c6] 32))
    replace PB := PB.below (bl_alloc _ (.cells #[.bool b5, .slice A5 n5 c5, .bool b6, .slice A6 n6 c6] 32))
    replace QA := QA.below (bl_alloc _ (.cells #[.bool b5, .slice A5 n5 c5, .bool b6, .slice A6 n6 c6] 32))
    replace q3 := q3.below (bl_alloc _ (.cells #[.bool b5, .slice A5 n5 c5, .bool b6, .slice A6 n6 c6] 32))
    replace q5 := q5.below (bl_alloc _ (.cells #[.bool b5, .slice A5 n5 c5, .bool b6, .slice A6 n6 c6] 32))
    replace q6 := q6.below (bl_alloc _ (.cells #[.bool b5, .slice A5 n5 c5, .bool b6, .slice A6 n6 c6] 32))
    go_wp2_with fail
    refine (cAdd2 (z := n) (u := m) r6 (by omega) (by omega) (Nat.le_refl _)).mono ?_
    rintro e w7 ⟨_, rfl, hb7, b7, A7, n7, c7, rfl, Z7⟩
    replace PB := PB.below hb7
    replace QA := QA.below hb7
    replace q3 := q3.below hb7
    replace q5 := q5.below hb7
    replace q6 := q6.below hb7
    replace BB := bl_trans BB hb7
    clear hb7
    have q7 : IsZ _ w7 (.agg #[.bool b7, .slice A7 n7 c7]) (n + m) 3 := ⟨_, _, _, _, rfl, Z7⟩
    clear Z7
    clear r6
    go_wp2_with fail
    refine (cSmall_yes q7.m (by omega) (by omega) (by omega)).mono ?_
    rintro e w8 ⟨_, rfl, hb8, rfl⟩
    replace PB := PB.below hb8
    replace QA := QA.below hb8
    replace q3 := q3.below hb8
    replace q5 := q5.below hb8
    replace q6 := q6.below hb8
    replace q7 := q7.below hb8
    replace BB := bl_trans BB hb8
    clear hb8
    have PB_0 := PB.c0
    have PB_1 := PB.c1
    go_wp2_with fail
    refine (cSmall_no QA (by omega) SN).mono ?_
    rintro e w9 ⟨_, rfl, hb9, rfl⟩
    clear PB_0 PB_1
    replace PB := PB.below hb9
    replace QA := QA.below hb9
    replace q3 := q3.below hb9
    replace q5 := q5.below hb9
    replace q6 := q6.below hb9
    replace q7 := q7.below hb9
    replace BB := bl_trans BB hb9
    clear hb9
    go_wp2_with fail
    refine wp_region_list (Ext := RB) (Rel := RBu) [fun v _ _ => v = .bool false, fun v _ _ => v = .bool true, fun v _ _ => v = .bool true, fun v _ _ => v = undef, fun v _ _ => v = undef, fun v _ _ => v = undef, fun v _ _ => v = undef, fun v _ _ => v = undef, fun v _ _ => v = undef, fun v _ _ => v = Value.bool true, fun v _ _ => v = Value.bool true] (n := 11) (by kernel_rfl) rfl (by kernel_rfl) (by kernel_rfl) (by kernel_rfl) (by kernel_rfl) (by kernel_rfl) rb_refl rb_trans ⟨sC, ⟨sC, ⟨sC, ⟨sC, ⟨sC, ⟨sC, ⟨sC, ⟨sC, ⟨sC, ⟨sC, ⟨sC, trivial⟩⟩⟩⟩⟩⟩⟩⟩⟩⟩⟩ ?_ ?_
    · refine ⟨⟨⟨⟨⟨⟨⟨⟨⟨⟨⟨trivial, ?_⟩, ?_⟩, ?_⟩, ?_⟩, ?_⟩, ?_⟩, ?_⟩, ?_⟩, ?_⟩, ?_⟩, ?_⟩
      · refine rs_plain rfl rfl fun a wr S => ?_
        have X := undrew S.ext
        exact wp_mv (ev_of ((S.old 13 (by kernel_rfl)).trans rfl)) (done (by kernel_rfl) rbu_refl rfl)
      · refine rs_plain rfl rfl fun a wr S => ?_
        have X := undrew S.ext
        obtain ⟨v0, e0, h0⟩ := S.got 0 (by kernel_rfl)
        exact wp_not ((ev_of (e0 95 (by kernel_rfl))).trans h0) (done (by kernel_rfl) rbu_refl rfl)
      · refine rs_plain rfl rfl fun a wr S => ?_
        have X := undrew S.ext
        obtain ⟨v1, e1, h1⟩ := S.got 1 (by kernel_rfl)
        exact wp_mv ((ev_of (e1 96 (by kernel_rfl))).trans h1) (done (by kernel_rfl) rbu_refl rfl)
      · exact rs_no rfl rfl (by kernel_rfl) (by kernel_rfl : _ = some 97) (fun _ _ _ h => h) (by kernel_rfl) rbu_refl (fun _ _ => rfl)
      · exact rs_no rfl rfl (by kernel_rfl) (by kernel_rfl : _ = some 97) (fun _ _ _ h => h) (by kernel_rfl) rbu_refl (fun _ _ => rfl)
      · exact rs_no rfl rfl (by kernel_rfl) (by kernel_rfl : _ = some 97) (fun _ _ _ h => h) (by kernel_rfl) rbu_refl (fun _ _ => rfl)
      · exact rs_no rfl rfl (by kernel_rfl) (by kernel_rfl : _ = some 97) (fun _ _ _ h => h) (by kernel_rfl) rbu_refl (fun _ _ => rfl)
      · exact rs_no rfl rfl (by kernel_rfl) (by kernel_rfl : _ = some 97) (fun _ _ _ h => h) (by kernel_rfl) rbu_refl (fun _ _ => rfl)
      · exact rs_no rfl rfl (by kernel_rfl) (by kernel_rfl : _ = some 97) (fun _ _ _ h => h) (by kernel_rfl) rbu_refl (fun _ _ => rfl)
      · refine rs_plain rfl rfl fun a wr S => ?_
        have X := undrew S.ext
        obtain ⟨v2, e2, h2⟩ := S.got 2 (by kernel_rfl)
        exact wp_pickT ((ev_of (e2 97 (by kernel_rfl))).trans h2) rfl (done (by kernel_rfl) rbu_refl rfl)
      · refine rs_plain rfl rfl fun a wr S => ?_
        have X := undrew S.ext
        obtain ⟨v9, e9, h9⟩ := S.got 9 (by kernel_rfl)
        exact wp_as ((ev_of (e9 104 (by kernel_rfl))).trans h9) (done (by kernel_rfl) rbu_refl rfl)
    · intro f10_ w10 hR hv
      replace hR := undrew hR
      have f0 : f10_ 0 = .bool false := (hvc (hv 0 (by omega))).elim fun _ h => h
      have f1 : f10_ 1 = .bool true := (hvc (hv 1 (by omega))).elim fun _ h => h
      have f2 : f10_ 2 = .bool true := (hvc (hv 2 (by omega))).elim fun _ h => h
      have f3 : f10_ 3 = undef := (hvc (hv 3 (by omega))).elim fun _ h => h
      have f4 : f10_ 4 = undef := (hvc (hv 4 (by omega))).elim fun _ h => h
      have f5 : f10_ 5 = undef := (hvc (hv 5 (by omega))).elim fun _ h => h
      have f6 : f10_ 6 = undef := (hvc (hv 6 (by omega))).elim fun _ h => h
      have f7 : f10_ 7 = undef := (hvc (hv 7 (by omega))).elim fun _ h => h
      have f8 : f10_ 8 = undef := (hvc (hv 8 (by omega))).elim fun _ h => h
      have f9 : f10_ 9 = Value.bool true := (hvc (hv 9 (by omega))).elim fun _ h => h
      have f10 : f10_ 10 = Value.bool true := (hvc (hv 10 (by omega))).elim fun _ h => h
      simp only [putFn, Act.put, List.setIfInBounds_toArray, List.set_cons_zero, List.set_cons_succ, f0, f1, f2, f3, f4, f5, f6, f7, f8, f9, f10]
      replace PB := PB.below hR
      replace QA := QA.below hR
      replace q3 := q3.below hR
      replace q5 := q5.below hR
      replace q6 := q6.below hR
      replace q7 := q7.below hR
      replace BB := bl_trans BB hR
      clear hR
      clear hv
      go_wp2_with fail
      go_ret
      exact ⟨rfl, BB⟩
  · have PA := Bz.new w s A l c
    have BB := bl_alloc w (.cells #[.bool s, .slice A l c] 32)
    go_enter Try.func11, Try.ntmps11
    go_wp2_with fail
    refine (cWorks _).mono ?_
    rintro e w1 ⟨_, rfl, hb1, rfl⟩
    replace PA := PA.below hb1
    replace BB := bl_trans BB hb1
    clear hb1
    have PA_0 := PA.c0
    have PA_1 := PA.c1
    go_wp2_with fail
    refine (cFew (HR.out.below BB) HM.out 5 _ rfl (by omega)).mono ?_
    rintro e w2 ⟨_, rfl, hb2, rfl⟩
    replace PA := PA.below hb2
    replace BB := bl_trans BB hb2
    clear hb2
    clear PA_0 PA_1
    have PA_0 := PA.c0
    have PA_1 := PA.c1
    have PA_2 := PA.f 0
    have PA_3 := PA.f 1
    have PB := (belU_store (N := w.heap.size) (t := s) (B := A) (m := min l 5) (d := c) PA (Nat.le_refl _)).2
    replace BB := (BB.setCell (p := ⟨w.heap.size, 0, none⟩) (Nat.le_refl _) (.bool s)).setCell (p := ⟨w.heap.size, 1, none⟩) (Nat.le_refl _) (.slice A (min l 5) c)
    have QA : IsM ((w2.setCell ⟨w.heap.size, 0, none⟩ (.bool s)).setCell ⟨w.heap.size, 1, none⟩ (.slice A (min l 5) c)) (.agg #[.bool s, .slice A (min l 5) c]) z 5 := ⟨_, _, _, _, rfl, by rw [HZ.out]; exact few_zm (HR.out.below BB) 5⟩
    clear PA HR HM HZ
    go_wp2_with fail
    refine (cFrom _ (by omega) (by omega) (Nat.le_refl _)).mono ?_
    rintro e w3 ⟨_, rfl, hb3, b3, A3, n3, c3, rfl, Z3⟩
    replace PB := PB.below hb3
    replace QA := QA.below hb3
    replace BB := bl_trans BB hb3
    clear hb3
    have q3 : IsZ _ w3 (.agg #[.bool b3, .slice A3 n3 c3]) (n) 2 := ⟨_, _, _, _, rfl, Z3⟩
    clear Z3
    go_wp2_with fail
    refine (cSmall_yes q3.m (by omega) (by omega) (by omega)).mono ?_
    rintro e w4 ⟨_, rfl, hb4, rfl⟩
    replace PB := PB.below hb4
    replace QA := QA.below hb4
    replace q3 := q3.below hb4
    replace BB := bl_trans BB hb4
    clear hb4
    clear PA_0 PA_1 PA_2 PA_3
    go_wp2_with fail
    refine (cFrom _ (by omega) (by omega) (Nat.le_refl _)).mono ?_
    rintro e w5 ⟨_, rfl, hb5, b5, A5, n5, c5, rfl, Z5⟩
    replace PB := PB.below hb5
    replace QA := QA.below hb5
    replace q3 := q3.below hb5
    replace BB := bl_trans BB hb5
    clear hb5
    have q5 : IsZ _ w5 (.agg #[.bool b5, .slice A5 n5 c5]) (n) 2 := ⟨_, _, _, _, rfl, Z5⟩
    clear Z5
    go_wp2_with fail
    refine (cFrom _ (by omega) (by omega) (Nat.le_refl _)).mono ?_
    rintro e w6 ⟨_, rfl, hb6, b6, A6, n6, c6, rfl, Z6⟩
    replace PB := PB.below hb6
    replace QA := QA.below hb6
    replace q3 := q3.below hb6
    replace q5 := q5.below hb6
    replace BB := bl_trans BB hb6
    clear hb6
    have q6 : IsZ _ w6 (.agg #[.bool b6, .slice A6 n6 c6]) (m) 2 := ⟨_, _, _, _, rfl, Z6⟩
    clear Z6
    obtain ⟨_, _, _, _, e0, y0⟩ := q5.m
    cases e0
    obtain ⟨_, _, _, _, e1, y1⟩ := q6.m
    cases e1
    have r6 := IsR2.new y0 y1
    clear y0 y1
    replace BB := bl_trans BB (bl_alloc w6 (.cells #[.bool b5, .slice A5 n5 c5, .bool b6, .slice A6 n6 c6] 32))
    replace PB := PB.below (bl_alloc _ (.cells #[.bool b5, .slice A5 n5 c5, .bool b6, .slice A6 n6 c6] 32))
    replace QA := QA.below (bl_alloc _ (.cells #[.bool b5, .slice A5 n5 c5, .bool b6, .slice A6 n6 c6] 32))
    replace q3 := q3.below (bl_alloc _ (.cells #[.bool b5, .slice A5 n5 c5, .bool b6, .slice A6 n6 c6] 32))
    replace q5 := q5.below (bl_alloc _ (.cells #[.bool b5, .slice A5 n5 c5, .bool b6, .slice A6 n6 c6] 32))
    replace q6 := q6.below (bl_alloc _ (.cells #[.bool b5, .slice A5 n5 c5, .bool b6, .slice A6 n6 c6] 32))
    go_wp2_with fail
    refine (cAdd2 (z := n) (u := m) r6 (by omega) (by omega) (Nat.le_refl _)).mono ?_
    rintro e w7 ⟨_, rfl, hb7, b7, A7, n7, c7, rfl, Z7⟩
    replace PB := PB.below hb7
    replace QA := QA.below hb7
    replace q3 := q3.below hb7
    replace q5 := q5.below hb7
    replace q6 := q6.below hb7
    replace BB := bl_trans BB hb7
    clear hb7
    have q7 : IsZ _ w7 (.agg #[.bool b7, .slice A7 n7 c7]) (n + m) 3 := ⟨_, _, _, _, rfl, Z7⟩
    clear Z7
    clear r6
    go_wp2_with fail
    refine (cSmall_yes q7.m (by omega) (by omega) (by omega)).mono ?_
    rintro e w8 ⟨_, rfl, hb8, rfl⟩
    replace PB := PB.below hb8
    replace QA := QA.below hb8
    replace q3 := q3.below hb8
    replace q5 := q5.below hb8
    replace q6 := q6.below hb8
    replace q7 := q7.below hb8
    replace BB := bl_trans BB hb8
    clear hb8
    have PB_0 := PB.c0
    have PB_1 := PB.c1
    go_wp2_with fail
    refine (cSmall_no QA (by omega) SN).mono ?_
    rintro e w9 ⟨_, rfl, hb9, rfl⟩
    clear PB_0 PB_1
    replace PB := PB.below hb9
    replace QA := QA.below hb9
    replace q3 := q3.below hb9
    replace q5 := q5.below hb9
    replace q6 := q6.below hb9
    replace q7 := q7.below hb9
    replace BB := bl_trans BB hb9
    clear hb9
    go_wp2_with fail
    refine wp_region_list (Ext := RB) (Rel := RBu) [fun v _ _ => v = .bool false, fun v _ _ => v = .bool true, fun v _ _ => v = .bool true, fun v _ _ => v = undef, fun v _ _ => v = undef, fun v _ _ => v = undef, fun v _ _ => v = undef, fun v _ _ => v = undef, fun v _ _ => v = undef, fun v _ _ => v = Value.bool true, fun v _ _ => v = Value.bool true] (n := 11) (by kernel_rfl) rfl (by kernel_rfl) (by kernel_rfl) (by kernel_rfl) (by kernel_rfl) (by kernel_rfl) rb_refl rb_trans ⟨sC, ⟨sC, ⟨sC, ⟨sC, ⟨sC, ⟨sC, ⟨sC, ⟨sC, ⟨sC, ⟨sC, ⟨sC, trivial⟩⟩⟩⟩⟩⟩⟩⟩⟩⟩⟩ ?_ ?_
    · refine ⟨⟨⟨⟨⟨⟨⟨⟨⟨⟨⟨trivial, ?_⟩, ?_⟩, ?_⟩, ?_⟩, ?_⟩, ?_⟩, ?_⟩, ?_⟩, ?_⟩, ?_⟩, ?_⟩
      · refine rs_plain rfl rfl fun a wr S => ?_
        have X := undrew S.ext
        exact wp_mv (ev_of ((S.old 13 (by kernel_rfl)).trans rfl)) (done (by kernel_rfl) rbu_refl rfl)
      · refine rs_plain rfl rfl fun a wr S => ?_
        have X := undrew S.ext
        obtain ⟨v0, e0, h0⟩ := S.got 0 (by kernel_rfl)
        exact wp_not ((ev_of (e0 95 (by kernel_rfl))).trans h0) (done (by kernel_rfl) rbu_refl rfl)
      · refine rs_plain rfl rfl fun a wr S => ?_
        have X := undrew S.ext
        obtain ⟨v1, e1, h1⟩ := S.got 1 (by kernel_rfl)
        exact wp_mv ((ev_of (e1 96 (by kernel_rfl))).trans h1) (done (by kernel_rfl) rbu_refl rfl)
      · exact rs_no rfl rfl (by kernel_rfl) (by kernel_rfl : _ = some 97) (fun _ _ _ h => h) (by kernel_rfl) rbu_refl (fun _ _ => rfl)
      · exact rs_no rfl rfl (by kernel_rfl) (by kernel_rfl : _ = some 97) (fun _ _ _ h => h) (by kernel_rfl) rbu_refl (fun _ _ => rfl)
      · exact rs_no rfl rfl (by kernel_rfl) (by kernel_rfl : _ = some 97) (fun _ _ _ h => h) (by kernel_rfl) rbu_refl (fun _ _ => rfl)
      · exact rs_no rfl rfl (by kernel_rfl) (by kernel_rfl : _ = some 97) (fun _ _ _ h => h) (by kernel_rfl) rbu_refl (fun _ _ => rfl)
      · exact rs_no rfl rfl (by kernel_rfl) (by kernel_rfl : _ = some 97) (fun _ _ _ h => h) (by kernel_rfl) rbu_refl (fun _ _ => rfl)
      · exact rs_no rfl rfl (by kernel_rfl) (by kernel_rfl : _ = some 97) (fun _ _ _ h => h) (by kernel_rfl) rbu_refl (fun _ _ => rfl)
      · refine rs_plain rfl rfl fun a wr S => ?_
        have X := undrew S.ext
        obtain ⟨v2, e2, h2⟩ := S.got 2 (by kernel_rfl)
        exact wp_pickT ((ev_of (e2 97 (by kernel_rfl))).trans h2) rfl (done (by kernel_rfl) rbu_refl rfl)
      · refine rs_plain rfl rfl fun a wr S => ?_
        have X := undrew S.ext
        obtain ⟨v9, e9, h9⟩ := S.got 9 (by kernel_rfl)
        exact wp_as ((ev_of (e9 104 (by kernel_rfl))).trans h9) (done (by kernel_rfl) rbu_refl rfl)
    · intro f10_ w10 hR hv
      replace hR := undrew hR
      have f0 : f10_ 0 = .bool false := (hvc (hv 0 (by omega))).elim fun _ h => h
      have f1 : f10_ 1 = .bool true := (hvc (hv 1 (by omega))).elim fun _ h => h
      have f2 : f10_ 2 = .bool true := (hvc (hv 2 (by omega))).elim fun _ h => h
      have f3 : f10_ 3 = undef := (hvc (hv 3 (by omega))).elim fun _ h => h
      have f4 : f10_ 4 = undef := (hvc (hv 4 (by omega))).elim fun _ h => h
      have f5 : f10_ 5 = undef := (hvc (hv 5 (by omega))).elim fun _ h => h
      have f6 : f10_ 6 = undef := (hvc (hv 6 (by omega))).elim fun _ h => h
      have f7 : f10_ 7 = undef := (hvc (hv 7 (by omega))).elim fun _ h => h
      have f8 : f10_ 8 = undef := (hvc (hv 8 (by omega))).elim fun _ h => h
      have f9 : f10_ 9 = Value.bool true := (hvc (hv 9 (by omega))).elim fun _ h => h
      have f10 : f10_ 10 = Value.bool true := (hvc (hv 10 (by omega))).elim fun _ h => h
      simp only [putFn, Act.put, List.setIfInBounds_toArray, List.set_cons_zero, List.set_cons_succ, f0, f1, f2, f3, f4, f5, f6, f7, f8, f9, f10]
      replace PB := PB.below hR
      replace QA := QA.below hR
      replace q3 := q3.below hR
      replace q5 := q5.below hR
      replace q6 := q6.below hR
      replace q7 := q7.below hR
      replace BB := bl_trans BB hR
      clear hR
      clear hv
      go_wp2_with fail
      go_ret
      exact ⟨rfl, BB⟩
  · have g2 : 0 ≤ n := by omega
    have g3 : n ≤ 0 := by omega
    clear g0
    have PA := Bz.new w s A l c
    have BB := bl_alloc w (.cells #[.bool s, .slice A l c] 32)
    go_enter Try.func11, Try.ntmps11
    go_wp2_with fail
    refine (cWorks _).mono ?_
    rintro e w1 ⟨_, rfl, hb1, rfl⟩
    replace PA := PA.below hb1
    replace BB := bl_trans BB hb1
    clear hb1
    have PA_0 := PA.c0
    have PA_1 := PA.c1
    go_wp2_with fail
    refine (cFew (HR.out.below BB) HM.out 5 _ rfl (by omega)).mono ?_
    rintro e w2 ⟨_, rfl, hb2, rfl⟩
    replace PA := PA.below hb2
    replace BB := bl_trans BB hb2
    clear hb2
    clear PA_0 PA_1
    have PA_0 := PA.c0
    have PA_1 := PA.c1
    have PA_2 := PA.f 0
    have PA_3 := PA.f 1
    have PB := (belU_store (N := w.heap.size) (t := s) (B := A) (m := min l 5) (d := c) PA (Nat.le_refl _)).2
    replace BB := (BB.setCell (p := ⟨w.heap.size, 0, none⟩) (Nat.le_refl _) (.bool s)).setCell (p := ⟨w.heap.size, 1, none⟩) (Nat.le_refl _) (.slice A (min l 5) c)
    have QA : IsM ((w2.setCell ⟨w.heap.size, 0, none⟩ (.bool s)).setCell ⟨w.heap.size, 1, none⟩ (.slice A (min l 5) c)) (.agg #[.bool s, .slice A (min l 5) c]) z 5 := ⟨_, _, _, _, rfl, by rw [HZ.out]; exact few_zm (HR.out.below BB) 5⟩
    clear PA HR HM HZ
    go_wp2_with fail
    refine (cFrom _ (by omega) (by omega) (Nat.le_refl _)).mono ?_
    rintro e w3 ⟨_, rfl, hb3, b3, A3, n3, c3, rfl, Z3⟩
    replace PB := PB.below hb3
    replace QA := QA.below hb3
    replace BB := bl_trans BB hb3
    clear hb3
    have q3 : IsZ _ w3 (.agg #[.bool b3, .slice A3 n3 c3]) (n) 2 := ⟨_, _, _, _, rfl, Z3⟩
    clear Z3
    go_wp2_with fail
    refine (cSmall_yes q3.m (by omega) (by omega) (by omega)).mono ?_
    rintro e w4 ⟨_, rfl, hb4, rfl⟩
    replace PB := PB.below hb4
    replace QA := QA.below hb4
    replace q3 := q3.below hb4
    replace BB := bl_trans BB hb4
    clear hb4
    clear PA_0 PA_1 PA_2 PA_3
    go_wp2_with fail
    refine (cFrom _ (by omega) (by omega) (Nat.le_refl _)).mono ?_
    rintro e w5 ⟨_, rfl, hb5, b5, A5, n5, c5, rfl, Z5⟩
    replace PB := PB.below hb5
    replace QA := QA.below hb5
    replace q3 := q3.below hb5
    replace BB := bl_trans BB hb5
    clear hb5
    have q5 : IsZ _ w5 (.agg #[.bool b5, .slice A5 n5 c5]) (n) 2 := ⟨_, _, _, _, rfl, Z5⟩
    clear Z5
    go_wp2_with fail
    refine (cFrom _ (by omega) (by omega) (Nat.le_refl _)).mono ?_
    rintro e w6 ⟨_, rfl, hb6, b6, A6, n6, c6, rfl, Z6⟩
    replace PB := PB.below hb6
    replace QA := QA.below hb6
    replace q3 := q3.below hb6
    replace q5 := q5.below hb6
    replace BB := bl_trans BB hb6
    clear hb6
    have q6 : IsZ _ w6 (.agg #[.bool b6, .slice A6 n6 c6]) (m) 2 := ⟨_, _, _, _, rfl, Z6⟩
    clear Z6
    obtain ⟨_, _, _, _, e0, y0⟩ := q5.m
    cases e0
    obtain ⟨_, _, _, _, e1, y1⟩ := q6.m
    cases e1
    have r6 := IsR2.new y0 y1
    clear y0 y1
    replace BB := bl_trans BB (bl_alloc w6 (.cells #[.bool b5, .slice A5 n5 c5, .bool b6, .slice A6 n6 c6] 32))
    replace PB := PB.below (bl_alloc _ (.cells #[.bool b5, .slice A5 n5 c5, .bool b6, .slice A6 n6 c6] 32))
    replace QA := QA.below (bl_alloc _ (.cells #[.bool b5, .slice A5 n5 c5, .bool b6, .slice A6 n6 c6] 32))
    replace q3 := q3.below (bl_alloc _ (.cells #[.bool b5, .slice A5 n5 c5, .bool b6, .slice A6 n6 c6] 32))
    replace q5 := q5.below (bl_alloc _ (.cells #[.bool b5, .slice A5 n5 c5, .bool b6, .slice A6 n6 c6] 32))
    replace q6 := q6.below (bl_alloc _ (.cells #[.bool b5, .slice A5 n5 c5, .bool b6, .slice A6 n6 c6] 32))
    go_wp2_with fail
    refine (cAdd2 (z := n) (u := m) r6 (by omega) (by omega) (Nat.le_refl _)).mono ?_
    rintro e w7 ⟨_, rfl, hb7, b7, A7, n7, c7, rfl, Z7⟩
    replace PB := PB.below hb7
    replace QA := QA.below hb7
    replace q3 := q3.below hb7
    replace q5 := q5.below hb7
    replace q6 := q6.below hb7
    replace BB := bl_trans BB hb7
    clear hb7
    have q7 : IsZ _ w7 (.agg #[.bool b7, .slice A7 n7 c7]) (n + m) 3 := ⟨_, _, _, _, rfl, Z7⟩
    clear Z7
    clear r6
    go_wp2_with fail
    refine (cSmall_yes q7.m (by omega) (by omega) (by omega)).mono ?_
    rintro e w8 ⟨_, rfl, hb8, rfl⟩
    replace PB := PB.below hb8
    replace QA := QA.below hb8
    replace q3 := q3.below hb8
    replace q5 := q5.below hb8
    replace q6 := q6.below hb8
    replace q7 := q7.below hb8
    replace BB := bl_trans BB hb8
    clear hb8
    have PB_0 := PB.c0
    have PB_1 := PB.c1
    go_wp2_with fail
    refine (cSmall_no QA (by omega) SN).mono ?_
    rintro e w9 ⟨_, rfl, hb9, rfl⟩
    clear PB_0 PB_1
    replace PB := PB.below hb9
    replace QA := QA.below hb9
    replace q3 := q3.below hb9
    replace q5 := q5.below hb9
    replace q6 := q6.below hb9
    replace q7 := q7.below hb9
    replace BB := bl_trans BB hb9
    clear hb9
    go_wp2_with fail
    refine wp_region_list (Ext := RB) (Rel := RBu) [fun v _ _ => v = .bool false, fun v _ _ => v = .bool true, fun v _ _ => v = .bool true, fun v _ _ => v = undef, fun v _ _ => v = undef, fun v _ _ => v = undef, fun v _ _ => v = undef, fun v _ _ => v = undef, fun v _ _ => v = undef, fun v _ _ => v = Value.bool true, fun v _ _ => v = Value.bool true] (n := 11) (by kernel_rfl) rfl (by kernel_rfl) (by kernel_rfl) (by kernel_rfl) (by kernel_rfl) (by kernel_rfl) rb_refl rb_trans ⟨sC, ⟨sC, ⟨sC, ⟨sC, ⟨sC, ⟨sC, ⟨sC, ⟨sC, ⟨sC, ⟨sC, ⟨sC, trivial⟩⟩⟩⟩⟩⟩⟩⟩⟩⟩⟩ ?_ ?_
    · refine ⟨⟨⟨⟨⟨⟨⟨⟨⟨⟨⟨trivial, ?_⟩, ?_⟩, ?_⟩, ?_⟩, ?_⟩, ?_⟩, ?_⟩, ?_⟩, ?_⟩, ?_⟩, ?_⟩
      · refine rs_plain rfl rfl fun a wr S => ?_
        have X := undrew S.ext
        exact wp_mv (ev_of ((S.old 13 (by kernel_rfl)).trans rfl)) (done (by kernel_rfl) rbu_refl rfl)
      · refine rs_plain rfl rfl fun a wr S => ?_
        have X := undrew S.ext
        obtain ⟨v0, e0, h0⟩ := S.got 0 (by kernel_rfl)
        exact wp_not ((ev_of (e0 95 (by kernel_rfl))).trans h0) (done (by kernel_rfl) rbu_refl rfl)
      · refine rs_plain rfl rfl fun a wr S => ?_
        have X := undrew S.ext
        obtain ⟨v1, e1, h1⟩ := S.got 1 (by kernel_rfl)
        exact wp_mv ((ev_of (e1 96 (by kernel_rfl))).trans h1) (done (by kernel_rfl) rbu_refl rfl)
      · exact rs_no rfl rfl (by kernel_rfl) (by kernel_rfl : _ = some 97) (fun _ _ _ h => h) (by kernel_rfl) rbu_refl (fun _ _ => rfl)
      · exact rs_no rfl rfl (by kernel_rfl) (by kernel_rfl : _ = some 97) (fun _ _ _ h => h) (by kernel_rfl) rbu_refl (fun _ _ => rfl)
      · exact rs_no rfl rfl (by kernel_rfl) (by kernel_rfl : _ = some 97) (fun _ _ _ h => h) (by kernel_rfl) rbu_refl (fun _ _ => rfl)
      · exact rs_no rfl rfl (by kernel_rfl) (by kernel_rfl : _ = some 97) (fun _ _ _ h => h) (by kernel_rfl) rbu_refl (fun _ _ => rfl)
      · exact rs_no rfl rfl (by kernel_rfl) (by kernel_rfl : _ = some 97) (fun _ _ _ h => h) (by kernel_rfl) rbu_refl (fun _ _ => rfl)
      · exact rs_no rfl rfl (by kernel_rfl) (by kernel_rfl : _ = some 97) (fun _ _ _ h => h) (by kernel_rfl) rbu_refl (fun _ _ => rfl)
      · refine rs_plain rfl rfl fun a wr S => ?_
        have X := undrew S.ext
        obtain ⟨v2, e2, h2⟩ := S.got 2 (by kernel_rfl)
        exact wp_pickT ((ev_of (e2 97 (by kernel_rfl))).trans h2) rfl (done (by kernel_rfl) rbu_refl rfl)
      · refine rs_plain rfl rfl fun a wr S => ?_
        have X := undrew S.ext
        obtain ⟨v9, e9, h9⟩ := S.got 9 (by kernel_rfl)
        exact wp_as ((ev_of (e9 104 (by kernel_rfl))).trans h9) (done (by kernel_rfl) rbu_refl rfl)
    · intro f10_ w10 hR hv
      replace hR := undrew hR
      have f0 : f10_ 0 = .bool false := (hvc (hv 0 (by omega))).elim fun _ h => h
      have f1 : f10_ 1 = .bool true := (hvc (hv 1 (by omega))).elim fun _ h => h
      have f2 : f10_ 2 = .bool true := (hvc (hv 2 (by omega))).elim fun _ h => h
      have f3 : f10_ 3 = undef := (hvc (hv 3 (by omega))).elim fun _ h => h
      have f4 : f10_ 4 = undef := (hvc (hv 4 (by omega))).elim fun _ h => h
      have f5 : f10_ 5 = undef := (hvc (hv 5 (by omega))).elim fun _ h => h
      have f6 : f10_ 6 = undef := (hvc (hv 6 (by omega))).elim fun _ h => h
      have f7 : f10_ 7 = undef := (hvc (hv 7 (by omega))).elim fun _ h => h
      have f8 : f10_ 8 = undef := (hvc (hv 8 (by omega))).elim fun _ h => h
      have f9 : f10_ 9 = Value.bool true := (hvc (hv 9 (by omega))).elim fun _ h => h
      have f10 : f10_ 10 = Value.bool true := (hvc (hv 10 (by omega))).elim fun _ h => h
      simp only [putFn, Act.put, List.setIfInBounds_toArray, List.set_cons_zero, List.set_cons_succ, f0, f1, f2, f3, f4, f5, f6, f7, f8, f9, f10]
      replace PB := PB.below hR
      replace QA := QA.below hR
      replace q3 := q3.below hR
      replace q5 := q5.below hR
      replace q6 := q6.below hR
      replace q7 := q7.below hR
      replace BB := bl_trans BB hR
      clear hR
      clear hv
      go_wp2_with fail
      go_ret
      exact ⟨rfl, BB⟩

set_option maxHeartbeats 4000000 in
theorem bigSmall_hi1 (s : Bool) (A : Option Addr) (l c : Nat) (xs : List Nat) (z n m : Int) (w : World) (n0 : -9223372036854775808 ≤ n) (n1 : n < 9223372036854775808) (m0 : -9223372036854775808 ≤ m) (m1 : m < 9223372036854775808) (HR : Hid (Rd w A l c xs)) (HM : Hid (l ≤ maxLen)) (HZ : Hid (z = zv s (M.val (xs.take (min l 5))))) (r0 : 9223372036854775808 ≤ n + m) (S0 : -9223372036854775808 ≤ z) (S1 : z < 9223372036854775808) : Calls Try.prog 11 #[.int .i64 n, .int .i64 m, .agg #[.bool s, .slice A l c]] w fun e w' => e = .returned (.bool true) ∧ Below w.heap.size w w' := by
  have g0 : 0 < n := by omega
  have g1 : 0 < m := by omega
  have PA := Bz.new w s A l c
  have BB := bl_alloc w (.cells #[.bool s, .slice A l c] 32)
  go_enter Try.func11, Try.ntmps11
  go_wp2_with fail
  refine (cWorks _).mono ?_
  rintro e w1 ⟨_, rfl, hb1, rfl⟩
  replace PA := PA.below hb1
  replace BB := bl_trans BB hb1
  clear hb1
  have PA_0 := PA.c0
  have PA_1 := PA.c1
  go_wp2_with fail
  refine (cFew (HR.out.below BB) HM.out 5 _ rfl (by omega)).mono ?_
  rintro e w2 ⟨_, rfl, hb2, rfl⟩
  replace PA := PA.below hb2
  replace BB := bl_trans BB hb2
  clear hb2
  clear PA_0 PA_1
  have PA_0 := PA.c0
  have PA_1 := PA.c1
  have PA_2 := PA.f 0
  have PA_3 := PA.f 1
  have PB := (belU_store (N := w.heap.size) (t := s) (B := A) (m := min l 5) (d := c) PA (Nat.le_refl _)).2
  replace BB := (BB.setCell (p := ⟨w.heap.size, 0, none⟩) (Nat.le_refl _) (.bool s)).setCell (p := ⟨w.heap.size, 1, none⟩) (Nat.le_refl _) (.slice A (min l 5) c)
  have QA : IsM ((w2.setCell ⟨w.heap.size, 0, none⟩ (.bool s)).setCell ⟨w.heap.size, 1, none⟩ (.slice A (min l 5) c)) (.agg #[.bool s, .slice A (min l 5) c]) z 5 := ⟨_, _, _, _, rfl, by rw [HZ.out]; exact few_zm (HR.out.below BB) 5⟩
  clear PA HR HM HZ
  go_wp2_with fail
  refine (cFrom _ (by omega) (by omega) (Nat.le_refl _)).mono ?_
  rintro e w3 ⟨_, rfl, hb3, b3, A3, n3, c3, rfl, Z3⟩
  replace PB := PB.below hb3
  replace QA := QA.below hb3
  replace BB := bl_trans BB hb3
  clear hb3
  have q3 : IsZ _ w3 (.agg #[.bool b3, .slice A3 n3 c3]) (n) 2 := ⟨_, _, _, _, rfl, Z3⟩
  clear Z3
  go_wp2_with fail
  refine (cSmall_yes q3.m (by omega) (by omega) (by omega)).mono ?_
  rintro e w4 ⟨_, rfl, hb4, rfl⟩
  replace PB := PB.below hb4
  replace QA := QA.below hb4
  replace q3 := q3.below hb4
  replace BB := bl_trans BB hb4
  clear hb4
  clear PA_0 PA_1 PA_2 PA_3
  go_wp2_with fail
  refine (cFrom _ (by omega) (by omega) (Nat.le_refl _)).mono ?_
  rintro e w5 ⟨_, rfl, hb5, b5, A5, n5, c5, rfl, Z5⟩
  replace PB := PB.below hb5
  replace QA := QA.below hb5
  replace q3 := q3.below hb5
  replace BB := bl_trans BB hb5
  clear hb5
  have q5 : IsZ _ w5 (.agg #[.bool b5, .slice A5 n5 c5]) (n) 2 := ⟨_, _, _, _, rfl, Z5⟩
  clear Z5
  go_wp2_with fail
  refine (cFrom _ (by omega) (by omega) (Nat.le_refl _)).mono ?_
  rintro e w6 ⟨_, rfl, hb6, b6, A6, n6, c6, rfl, Z6⟩
  replace PB := PB.below hb6
  replace QA := QA.below hb6
  replace q3 := q3.below hb6
  replace q5 := q5.below hb6
  replace BB := bl_trans BB hb6
  clear hb6
  have q6 : IsZ _ w6 (.agg #[.bool b6, .slice A6 n6 c6]) (m) 2 := ⟨_, _, _, _, rfl, Z6⟩
  clear Z6
  obtain ⟨_, _, _, _, e0, y0⟩ := q5.m
  cases e0
  obtain ⟨_, _, _, _, e1, y1⟩ := q6.m
  cases e1
  have r6 := IsR2.new y0 y1
  clear y0 y1
  replace BB := bl_trans BB (bl_alloc w6 (.cells #[.bool b5, .slice A5 n5 c5, .bool b6, .slice A6 n6 c6] 32))
  replace PB := PB.below (bl_alloc _ (.cells #[.bool b5, .slice A5 n5 c5, .bool b6, .slice A6 n6 c6] 32))
  replace QA := QA.below (bl_alloc _ (.cells #[.bool b5, .slice A5 n5 c5, .bool b6, .slice A6 n6 c6] 32))
  replace q3 := q3.below (bl_alloc _ (.cells #[.bool b5, .slice A5 n5 c5, .bool b6, .slice A6 n6 c6] 32))
  replace q5 := q5.below (bl_alloc _ (.cells #[.bool b5, .slice A5 n5 c5, .bool b6, .slice A6 n6 c6] 32))
  replace q6 := q6.below (bl_alloc _ (.cells #[.bool b5, .slice A5 n5 c5, .bool b6, .slice A6 n6 c6] 32))
  go_wp2_with fail
  refine (cAdd2 (z := n) (u := m) r6 (by omega) (by omega) (Nat.le_refl _)).mono ?_
  rintro e w7 ⟨_, rfl, hb7, b7, A7, n7, c7, rfl, Z7⟩
  replace PB := PB.below hb7
  replace QA := QA.below hb7
  replace q3 := q3.below hb7
  replace q5 := q5.below hb7
  replace q6 := q6.below hb7
  replace BB := bl_trans BB hb7
  clear hb7
  have q7 : IsZ _ w7 (.agg #[.bool b7, .slice A7 n7 c7]) (n + m) 3 := ⟨_, _, _, _, rfl, Z7⟩
  clear Z7
  clear r6
  go_wp2_with fail
  refine (cSmall_no q7.m (by omega) (by omega)).mono ?_
  rintro e w8 ⟨_, rfl, hb8, rfl⟩
  replace PB := PB.below hb8
  replace QA := QA.below hb8
  replace q3 := q3.below hb8
  replace q5 := q5.below hb8
  replace q6 := q6.below hb8
  replace q7 := q7.below hb8
  replace BB := bl_trans BB hb8
  clear hb8
  have hw : IntKind.i64.wrap (n + m) = n + m - 18446744073709551616 := by rw [IntKind.wrap_i64]; omega
  have PB_0 := PB.c0
  have PB_1 := PB.c1
  go_wp2_with fail
  refine (cSmall_yes QA (by omega) S0 S1).mono ?_
  rintro e w9 ⟨_, rfl, hb9, rfl⟩
  clear PB_0 PB_1
  replace PB := PB.below hb9
  replace QA := QA.below hb9
  replace q3 := q3.below hb9
  replace q5 := q5.below hb9
  replace q6 := q6.below hb9
  replace q7 := q7.below hb9
  replace BB := bl_trans BB hb9
  clear hb9
  go_wp2_with fail
  refine wp_region_list (Ext := RB) (Rel := RBu) [fun v _ _ => v = .bool true, fun v _ _ => v = .bool false, fun v _ _ => v = .bool false, fun v _ _ => v = .int .i64 z, fun v _ w => IsZ (w9).heap.size w v (z) 2, fun v _ w => IsM w v (z) 5, fun v _ w => IsR1 w v (z) 5, fun v _ w => IsZ (w9).heap.size w v (z) 6, fun v _ _ => v = .bool true, fun v _ _ => v = .bool true, fun v _ _ => v = .bool true] (n := 11) (by kernel_rfl) rfl (by kernel_rfl) (by kernel_rfl) (by kernel_rfl) (by kernel_rfl) (by kernel_rfl) rb_refl rb_trans ⟨sC, ⟨sC, ⟨sC, ⟨sC, ⟨sZ, ⟨sM, ⟨sR1, ⟨sZ, ⟨sC, ⟨sC, ⟨sC, trivial⟩⟩⟩⟩⟩⟩⟩⟩⟩⟩⟩ ?_ ?_
  · refine ⟨⟨⟨⟨⟨⟨⟨⟨⟨⟨⟨trivial, ?_⟩, ?_⟩, ?_⟩, ?_⟩, ?_⟩, ?_⟩, ?_⟩, ?_⟩, ?_⟩, ?_⟩, ?_⟩
    · refine rs_plain rfl rfl fun a wr S => ?_
      have X := undrew S.ext
      exact wp_mv (ev_of ((S.old 13 (by kernel_rfl)).trans rfl)) (done (by kernel_rfl) rbu_refl rfl)
    · refine rs_plain rfl rfl fun a wr S => ?_
      have X := undrew S.ext
      obtain ⟨v0, e0, h0⟩ := S.got 0 (by kernel_rfl)
      exact wp_not ((ev_of (e0 95 (by kernel_rfl))).trans h0) (done (by kernel_rfl) rbu_refl rfl)
    · refine rs_plain rfl rfl fun a wr S => ?_
      have X := undrew S.ext
      obtain ⟨v1, e1, h1⟩ := S.got 1 (by kernel_rfl)
      exact wp_mv ((ev_of (e1 96 (by kernel_rfl))).trans h1) (done (by kernel_rfl) rbu_refl rfl)
    · refine rs_yes rfl rfl (by kernel_rfl) (by kernel_rfl : _ = some 97) (fun _ _ _ h => h) fun a wr S => ?_
      have X := undrew S.ext
      exact wp_mv (ev_of ((S.old 12 (by kernel_rfl)).trans rfl)) (done (by kernel_rfl) rbu_refl rfl)
    · refine rs_yes rfl rfl (by kernel_rfl) (by kernel_rfl : _ = some 97) (fun _ _ _ h => h) fun a wr S => ?_
      have X := undrew S.ext
      obtain ⟨v3, e3, h3⟩ := S.got 3 (by kernel_rfl)
      exact st_call cf_big_From (args1 ((ev_of (e3 98 (by kernel_rfl))).trans h3)) (by kernel_rfl) rb (cFrom _ (by omega) (by omega) X.size) (fun _ _ _ h => h)
    · refine rs_yes rfl rfl (by kernel_rfl) (by kernel_rfl : _ = some 97) (fun _ _ _ h => h) fun a wr S => ?_
      have X := undrew S.ext
      exact wp_load (ev_of ((S.old 5 (by kernel_rfl)).trans rfl)) (PB.below X) (done (by kernel_rfl) rbu_refl (QA.below X))
    · refine rs_yes rfl rfl (by kernel_rfl) (by kernel_rfl : _ = some 97) (fun _ _ _ h => h) fun a wr S => ?_
      have X := undrew S.ext
      obtain ⟨v5, e5, h5⟩ := S.got 5 (by kernel_rfl)
      obtain ⟨b0, A0, n0, c0, hv0, Z0⟩ := (show IsM wr _ _ _ from h5)
      exact wp_bs1 ((ev_of (e5 100 (by kernel_rfl))).trans hv0) (done' (by kernel_rfl) (rb _ _ _ (bl_alloc _ _)) (IsR1.new Z0))
    · refine rs_yes rfl rfl (by kernel_rfl) (by kernel_rfl : _ = some 97) (fun _ _ _ h => h) fun a wr S => ?_
      have X := undrew S.ext
      obtain ⟨v6, e6, h6⟩ := S.got 6 (by kernel_rfl)
      exact st_call cf_big_Add (args1 (ev_of (e6 101 (by kernel_rfl)))) (by kernel_rfl) rb (cAdd1 h6 (by omega) X.size) (fun _ _ _ h => h)
    · refine rs_yes rfl rfl (by kernel_rfl) (by kernel_rfl : _ = some 97) (fun _ _ _ h => h) fun a wr S => ?_
      have X := undrew S.ext
      obtain ⟨v4, e4, h4⟩ := S.got 4 (by kernel_rfl)
      obtain ⟨v7, e7, h7⟩ := S.got 7 (by kernel_rfl)
      exact st_call cf_law02_same (args2 (ev_of (e4 99 (by kernel_rfl))) (ev_of (e7 102 (by kernel_rfl)))) (by kernel_rfl) rb (cSame h4.t h7.t (by omega) (by omega) (decide_eq_true (rfl))) (fun _ _ _ h => h)
    · refine rs_plain rfl rfl fun a wr S => ?_
      have X := undrew S.ext
      obtain ⟨v2, e2, h2⟩ := S.got 2 (by kernel_rfl)
      obtain ⟨v8, e8, h8⟩ := S.got 8 (by kernel_rfl)
      exact wp_pickF ((ev_of (e2 97 (by kernel_rfl))).trans h2) ((ev_of (e8 103 (by kernel_rfl))).trans h8) (done (by kernel_rfl) rbu_refl rfl)
    · refine rs_plain rfl rfl fun a wr S => ?_
      have X := undrew S.ext
      obtain ⟨v9, e9, h9⟩ := S.got 9 (by kernel_rfl)
      exact wp_as ((ev_of (e9 104 (by kernel_rfl))).trans h9) (done (by kernel_rfl) rbu_refl rfl)
  · intro f10_ w10 hR hv
    replace hR := undrew hR
    have f0 : f10_ 0 = .bool true := (hvc (hv 0 (by omega))).elim fun _ h => h
    have f1 : f10_ 1 = .bool false := (hvc (hv 1 (by omega))).elim fun _ h => h
    have f2 : f10_ 2 = .bool false := (hvc (hv 2 (by omega))).elim fun _ h => h
    have f3 : f10_ 3 = .int .i64 z := (hvc (hv 3 (by omega))).elim fun _ h => h
    have f8 : f10_ 8 = .bool true := (hvc (hv 8 (by omega))).elim fun _ h => h
    have f9 : f10_ 9 = .bool true := (hvc (hv 9 (by omega))).elim fun _ h => h
    have f10 : f10_ 10 = .bool true := (hvc (hv 10 (by omega))).elim fun _ h => h
    simp only [putFn, Act.put, List.setIfInBounds_toArray, List.set_cons_zero, List.set_cons_succ, f0, f1, f2, f3, f8, f9, f10]
    replace PB := PB.below hR
    replace QA := QA.below hR
    replace q3 := q3.below hR
    replace q5 := q5.below hR
    replace q6 := q6.below hR
    replace q7 := q7.below hR
    replace BB := bl_trans BB hR
    clear hR
    clear hv
    go_wp2_with fail
    go_ret
    exact ⟨rfl, BB⟩

set_option maxHeartbeats 4000000 in
theorem bigSmall_hi0 (s : Bool) (A : Option Addr) (l c : Nat) (xs : List Nat) (z n m : Int) (w : World) (n0 : -9223372036854775808 ≤ n) (n1 : n < 9223372036854775808) (m0 : -9223372036854775808 ≤ m) (m1 : m < 9223372036854775808) (HR : Hid (Rd w A l c xs)) (HM : Hid (l ≤ maxLen)) (HZ : Hid (z = zv s (M.val (xs.take (min l 5))))) (r0 : 9223372036854775808 ≤ n + m) (SN : z < -9223372036854775808 ∨ 9223372036854775808 ≤ z) : Calls Try.prog 11 #[.int .i64 n, .int .i64 m, .agg #[.bool s, .slice A l c]] w fun e w' => e = .returned (.bool true) ∧ Below w.heap.size w w' := by
  have g0 : 0 < n := by omega
  have g1 : 0 < m := by omega
  have PA := Bz.new w s A l c
  have BB := bl_alloc w (.cells #[.bool s, .slice A l c] 32)
  go_enter Try.func11, Try.ntmps11
  go_wp2_with fail
  refine (cWorks _).mono ?_
  rintro e w1 ⟨_, rfl, hb1, rfl⟩
  replace PA := PA.below hb1
  replace BB := bl_trans BB hb1
  clear hb1
  have PA_0 := PA.c0
  have PA_1 := PA.c1
  go_wp2_with fail
  refine (cFew (HR.out.below BB) HM.out 5 _ rfl (by omega)).mono ?_
  rintro e w2 ⟨_, rfl, hb2, rfl⟩
  replace PA := PA.below hb2
  replace BB := bl_trans BB hb2
  clear hb2
  clear PA_0 PA_1
  have PA_0 := PA.c0
  have PA_1 := PA.c1
  have PA_2 := PA.f 0
  have PA_3 := PA.f 1
  have PB := (belU_store (N := w.heap.size) (t := s) (B := A) (m := min l 5) (d := c) PA (Nat.le_refl _)).2
  replace BB := (BB.setCell (p := ⟨w.heap.size, 0, none⟩) (Nat.le_refl _) (.bool s)).setCell (p := ⟨w.heap.size, 1, none⟩) (Nat.le_refl _) (.slice A (min l 5) c)
  have QA : IsM ((w2.setCell ⟨w.heap.size, 0, none⟩ (.bool s)).setCell ⟨w.heap.size, 1, none⟩ (.slice A (min l 5) c)) (.agg #[.bool s, .slice A (min l 5) c]) z 5 := ⟨_, _, _, _, rfl, by rw [HZ.out]; exact few_zm (HR.out.below BB) 5⟩
  clear PA HR HM HZ
  go_wp2_with fail
  refine (cFrom _ (by omega) (by omega) (Nat.le_refl _)).mono ?_
  rintro e w3 ⟨_, rfl, hb3, b3, A3, n3, c3, rfl, Z3⟩
  replace PB := PB.below hb3
  replace QA := QA.below hb3
  replace BB := bl_trans BB hb3
  clear hb3
  have q3 : IsZ _ w3 (.agg #[.bool b3, .slice A3 n3 c3]) (n) 2 := ⟨_, _, _, _, rfl, Z3⟩
  clear Z3
  go_wp2_with fail
  refine (cSmall_yes q3.m (by omega) (by omega) (by omega)).mono ?_
  rintro e w4 ⟨_, rfl, hb4, rfl⟩
  replace PB := PB.below hb4
  replace QA := QA.below hb4
  replace q3 := q3.below hb4
  replace BB := bl_trans BB hb4
  clear hb4
  clear PA_0 PA_1 PA_2 PA_3
  go_wp2_with fail
  refine (cFrom _ (by omega) (by omega) (Nat.le_refl _)).mono ?_
  rintro e w5 ⟨_, rfl, hb5, b5, A5, n5, c5, rfl, Z5⟩
  replace PB := PB.below hb5
  replace QA := QA.below hb5
  replace q3 := q3.below hb5
  replace BB := bl_trans BB hb5
  clear hb5
  have q5 : IsZ _ w5 (.agg #[.bool b5, .slice A5 n5 c5]) (n) 2 := ⟨_, _, _, _, rfl, Z5⟩
  clear Z5
  go_wp2_with fail
  refine (cFrom _ (by omega) (by omega) (Nat.le_refl _)).mono ?_
  rintro e w6 ⟨_, rfl, hb6, b6, A6, n6, c6, rfl, Z6⟩
  replace PB := PB.below hb6
  replace QA := QA.below hb6
  replace q3 := q3.below hb6
  replace q5 := q5.below hb6
  replace BB := bl_trans BB hb6
  clear hb6
  have q6 : IsZ _ w6 (.agg #[.bool b6, .slice A6 n6 c6]) (m) 2 := ⟨_, _, _, _, rfl, Z6⟩
  clear Z6
  obtain ⟨_, _, _, _, e0, y0⟩ := q5.m
  cases e0
  obtain ⟨_, _, _, _, e1, y1⟩ := q6.m
  cases e1
  have r6 := IsR2.new y0 y1
  clear y0 y1
  replace BB := bl_trans BB (bl_alloc w6 (.cells #[.bool b5, .slice A5 n5 c5, .bool b6, .slice A6 n6 c6] 32))
  replace PB := PB.below (bl_alloc _ (.cells #[.bool b5, .slice A5 n5 c5, .bool b6, .slice A6 n6 c6] 32))
  replace QA := QA.below (bl_alloc _ (.cells #[.bool b5, .slice A5 n5 c5, .bool b6, .slice A6 n6 c6] 32))
  replace q3 := q3.below (bl_alloc _ (.cells #[.bool b5, .slice A5 n5 c5, .bool b6, .slice A6 n6 c6] 32))
  replace q5 := q5.below (bl_alloc _ (.cells #[.bool b5, .slice A5 n5 c5, .bool b6, .slice A6 n6 c6] 32))
  replace q6 := q6.below (bl_alloc _ (.cells #[.bool b5, .slice A5 n5 c5, .bool b6, .slice A6 n6 c6] 32))
  go_wp2_with fail
  refine (cAdd2 (z := n) (u := m) r6 (by omega) (by omega) (Nat.le_refl _)).mono ?_
  rintro e w7 ⟨_, rfl, hb7, b7, A7, n7, c7, rfl, Z7⟩
  replace PB := PB.below hb7
  replace QA := QA.below hb7
  replace q3 := q3.below hb7
  replace q5 := q5.below hb7
  replace q6 := q6.below hb7
  replace BB := bl_trans BB hb7
  clear hb7
  have q7 : IsZ _ w7 (.agg #[.bool b7, .slice A7 n7 c7]) (n + m) 3 := ⟨_, _, _, _, rfl, Z7⟩
  clear Z7
  clear r6
  go_wp2_with fail
  refine (cSmall_no q7.m (by omega) (by omega)).mono ?_
  rintro e w8 ⟨_, rfl, hb8, rfl⟩
  replace PB := PB.below hb8
  replace QA := QA.below hb8
  replace q3 := q3.below hb8
  replace q5 := q5.below hb8
  replace q6 := q6.below hb8
  replace q7 := q7.below hb8
  replace BB := bl_trans BB hb8
  clear hb8
  have hw : IntKind.i64.wrap (n + m) = n + m - 18446744073709551616 := by rw [IntKind.wrap_i64]; omega
  have PB_0 := PB.c0
  have PB_1 := PB.c1
  go_wp2_with fail
  refine (cSmall_no QA (by omega) SN).mono ?_
  rintro e w9 ⟨_, rfl, hb9, rfl⟩
  clear PB_0 PB_1
  replace PB := PB.below hb9
  replace QA := QA.below hb9
  replace q3 := q3.below hb9
  replace q5 := q5.below hb9
  replace q6 := q6.below hb9
  replace q7 := q7.below hb9
  replace BB := bl_trans BB hb9
  clear hb9
  go_wp2_with fail
  refine wp_region_list (Ext := RB) (Rel := RBu) [fun v _ _ => v = .bool false, fun v _ _ => v = .bool true, fun v _ _ => v = .bool true, fun v _ _ => v = undef, fun v _ _ => v = undef, fun v _ _ => v = undef, fun v _ _ => v = undef, fun v _ _ => v = undef, fun v _ _ => v = undef, fun v _ _ => v = Value.bool true, fun v _ _ => v = Value.bool true] (n := 11) (by kernel_rfl) rfl (by kernel_rfl) (by kernel_rfl) (by kernel_rfl) (by kernel_rfl) (by kernel_rfl) rb_refl rb_trans ⟨sC, ⟨sC, ⟨sC, ⟨sC, ⟨sC, ⟨sC, ⟨sC, ⟨sC, ⟨sC, ⟨sC, ⟨sC, trivial⟩⟩⟩⟩⟩⟩⟩⟩⟩⟩⟩ ?_ ?_
  · refine ⟨⟨⟨⟨⟨⟨⟨⟨⟨⟨⟨trivial, ?_⟩, ?_⟩, ?_⟩, ?_⟩, ?_⟩, ?_⟩, ?_⟩, ?_⟩, ?_⟩, ?_⟩, ?_⟩
    · refine rs_plain rfl rfl fun a wr S => ?_
      have X := undrew S.ext
      exact wp_mv (ev_of ((S.old 13 (by kernel_rfl)).trans rfl)) (done (by kernel_rfl) rbu_refl rfl)
    · refine rs_plain rfl rfl fun a wr S => ?_
      have X := undrew S.ext
      obtain ⟨v0, e0, h0⟩ := S.got 0 (by kernel_rfl)
      exact wp_not ((ev_of (e0 95 (by kernel_rfl))).trans h0) (done (by kernel_rfl) rbu_refl rfl)
    · refine rs_plain rfl rfl fun a wr S => ?_
      have X := undrew S.ext
      obtain ⟨v1, e1, h1⟩ := S.got 1 (by kernel_rfl)
      exact wp_mv ((ev_of (e1 96 (by kernel_rfl))).trans h1) (done (by kernel_rfl) rbu_refl rfl)
    · exact rs_no rfl rfl (by kernel_rfl) (by kernel_rfl : _ = some 97) (fun _ _ _ h => h) (by kernel_rfl) rbu_refl (fun _ _ => rfl)
    · exact rs_no rfl rfl (by kernel_rfl) (by kernel_rfl : _ = some 97) (fun _ _ _ h => h) (by kernel_rfl) rbu_refl (fun _ _ => rfl)
    · exact rs_no rfl rfl (by kernel_rfl) (by kernel_rfl : _ = some 97) (fun _ _ _ h => h) (by kernel_rfl) rbu_refl (fun _ _ => rfl)
    · exact rs_no rfl rfl (by kernel_rfl) (by kernel_rfl : _ = some 97) (fun _ _ _ h => h) (by kernel_rfl) rbu_refl (fun _ _ => rfl)
    · exact rs_no rfl rfl (by kernel_rfl) (by kernel_rfl : _ = some 97) (fun _ _ _ h => h) (by kernel_rfl) rbu_refl (fun _ _ => rfl)
    · exact rs_no rfl rfl (by kernel_rfl) (by kernel_rfl : _ = some 97) (fun _ _ _ h => h) (by kernel_rfl) rbu_refl (fun _ _ => rfl)
    · refine rs_plain rfl rfl fun a wr S => ?_
      have X := undrew S.ext
      obtain ⟨v2, e2, h2⟩ := S.got 2 (by kernel_rfl)
      exact wp_pickT ((ev_of (e2 97 (by kernel_rfl))).trans h2) rfl (done (by kernel_rfl) rbu_refl rfl)
    · refine rs_plain rfl rfl fun a wr S => ?_
      have X := undrew S.ext
      obtain ⟨v9, e9, h9⟩ := S.got 9 (by kernel_rfl)
      exact wp_as ((ev_of (e9 104 (by kernel_rfl))).trans h9) (done (by kernel_rfl) rbu_refl rfl)
  · intro f10_ w10 hR hv
    replace hR := undrew hR
    have f0 : f10_ 0 = .bool false := (hvc (hv 0 (by omega))).elim fun _ h => h
    have f1 : f10_ 1 = .bool true := (hvc (hv 1 (by omega))).elim fun _ h => h
    have f2 : f10_ 2 = .bool true := (hvc (hv 2 (by omega))).elim fun _ h => h
    have f3 : f10_ 3 = undef := (hvc (hv 3 (by omega))).elim fun _ h => h
    have f4 : f10_ 4 = undef := (hvc (hv 4 (by omega))).elim fun _ h => h
    have f5 : f10_ 5 = undef := (hvc (hv 5 (by omega))).elim fun _ h => h
    have f6 : f10_ 6 = undef := (hvc (hv 6 (by omega))).elim fun _ h => h
    have f7 : f10_ 7 = undef := (hvc (hv 7 (by omega))).elim fun _ h => h
    have f8 : f10_ 8 = undef := (hvc (hv 8 (by omega))).elim fun _ h => h
    have f9 : f10_ 9 = Value.bool true := (hvc (hv 9 (by omega))).elim fun _ h => h
    have f10 : f10_ 10 = Value.bool true := (hvc (hv 10 (by omega))).elim fun _ h => h
    simp only [putFn, Act.put, List.setIfInBounds_toArray, List.set_cons_zero, List.set_cons_succ, f0, f1, f2, f3, f4, f5, f6, f7, f8, f9, f10]
    replace PB := PB.below hR
    replace QA := QA.below hR
    replace q3 := q3.below hR
    replace q5 := q5.below hR
    replace q6 := q6.below hR
    replace q7 := q7.below hR
    replace BB := bl_trans BB hR
    clear hR
    clear hv
    go_wp2_with fail
    go_ret
    exact ⟨rfl, BB⟩

set_option maxHeartbeats 4000000 in
theorem bigSmall_lo1 (s : Bool) (A : Option Addr) (l c : Nat) (xs : List Nat) (z n m : Int) (w : World) (n0 : -9223372036854775808 ≤ n) (n1 : n < 9223372036854775808) (m0 : -9223372036854775808 ≤ m) (m1 : m < 9223372036854775808) (HR : Hid (Rd w A l c xs)) (HM : Hid (l ≤ maxLen)) (HZ : Hid (z = zv s (M.val (xs.take (min l 5))))) (r0 : n + m < -9223372036854775808) (S0 : -9223372036854775808 ≤ z) (S1 : z < 9223372036854775808) : Calls Try.prog 11 #[.int .i64 n, .int .i64 m, .agg #[.bool s, .slice A l c]] w fun e w' => e = .returned (.bool true) ∧ Below w.heap.size w w' := by
  have g0 : n < 0 := by omega
  have g1 : m < 0 := by omega
  have PA := Bz.new w s A l c
  have BB := bl_alloc w (.cells #[.bool s, .slice A l c] 32)
  go_enter Try.func11, Try.ntmps11
  go_wp2_with fail
  refine (cWorks _).mono ?_
  rintro e w1 ⟨_, rfl, hb1, rfl⟩
  replace PA := PA.below hb1
  replace BB := bl_trans BB hb1
  clear hb1
  have PA_0 := PA.c0
  have PA_1 := PA.c1
  go_wp2_with fail
  refine (cFew (HR.out.below BB) HM.out 5 _ rfl (by omega)).mono ?_
  rintro e w2 ⟨_, rfl, hb2, rfl⟩
  replace PA := PA.below hb2
  replace BB := bl_trans BB hb2
  clear hb2
  clear PA_0 PA_1
  have PA_0 := PA.c0
  have PA_1 := PA.c1
  have PA_2 := PA.f 0
  have PA_3 := PA.f 1
  have PB := (belU_store (N := w.heap.size) (t := s) (B := A) (m := min l 5) (d := c) PA (Nat.le_refl _)).2
  replace BB := (BB.setCell (p := ⟨w.heap.size, 0, none⟩) (Nat.le_refl _) (.bool s)).setCell (p := ⟨w.heap.size, 1, none⟩) (Nat.le_refl _) (.slice A (min l 5) c)
  have QA : IsM ((w2.setCell ⟨w.heap.size, 0, none⟩ (.bool s)).setCell ⟨w.heap.size, 1, none⟩ (.slice A (min l 5) c)) (.agg #[.bool s, .slice A (min l 5) c]) z 5 := ⟨_, _, _, _, rfl, by rw [HZ.out]; exact few_zm (HR.out.below BB) 5⟩
  clear PA HR HM HZ
  go_wp2_with fail
  refine (cFrom _ (by omega) (by omega) (Nat.le_refl _)).mono ?_
  rintro e w3 ⟨_, rfl, hb3, b3, A3, n3, c3, rfl, Z3⟩
  replace PB := PB.below hb3
  replace QA := QA.below hb3
  replace BB := bl_trans BB hb3
  clear hb3
  have q3 : IsZ _ w3 (.agg #[.bool b3, .slice A3 n3 c3]) (n) 2 := ⟨_, _, _, _, rfl, Z3⟩
  clear Z3
  go_wp2_with fail
  refine (cSmall_yes q3.m (by omega) (by omega) (by omega)).mono ?_
  rintro e w4 ⟨_, rfl, hb4, rfl⟩
  replace PB := PB.below hb4
  replace QA := QA.below hb4
  replace q3 := q3.below hb4
  replace BB := bl_trans BB hb4
  clear hb4
  clear PA_0 PA_1 PA_2 PA_3
  go_wp2_with fail
  refine (cFrom _ (by omega) (by omega) (Nat.le_refl _)).mono ?_
  rintro e w5 ⟨_, rfl, hb5, b5, A5, n5, c5, rfl, Z5⟩
  replace PB := PB.below hb5
  replace QA := QA.below hb5
  replace q3 := q3.below hb5
  replace BB := bl_trans BB hb5
  clear hb5
  have q5 : IsZ _ w5 (.agg #[.bool b5, .slice A5 n5 c5]) (n) 2 := ⟨_, _, _, _, rfl, Z5⟩
  clear Z5
  go_wp2_with fail
  refine (cFrom _ (by omega) (by omega) (Nat.le_refl _)).mono ?_
  rintro e w6 ⟨_, rfl, hb6, b6, A6, n6, c6, rfl, Z6⟩
  replace PB := PB.below hb6
  replace QA := QA.below hb6
  replace q3 := q3.below hb6
  replace q5 := q5.below hb6
  replace BB := bl_trans BB hb6
  clear hb6
  have q6 : IsZ _ w6 (.agg #[.bool b6, .slice A6 n6 c6]) (m) 2 := ⟨_, _, _, _, rfl, Z6⟩
  clear Z6
  obtain ⟨_, _, _, _, e0, y0⟩ := q5.m
  cases e0
  obtain ⟨_, _, _, _, e1, y1⟩ := q6.m
  cases e1
  have r6 := IsR2.new y0 y1
  clear y0 y1
  replace BB := bl_trans BB (bl_alloc w6 (.cells #[.bool b5, .slice A5 n5 c5, .bool b6, .slice A6 n6 c6] 32))
  replace PB := PB.below (bl_alloc _ (.cells #[.bool b5, .slice A5 n5 c5, .bool b6, .slice A6 n6 c6] 32))
  replace QA := QA.below (bl_alloc _ (.cells #[.bool b5, .slice A5 n5 c5, .bool b6, .slice A6 n6 c6] 32))
  replace q3 := q3.below (bl_alloc _ (.cells #[.bool b5, .slice A5 n5 c5, .bool b6, .slice A6 n6 c6] 32))
  replace q5 := q5.below (bl_alloc _ (.cells #[.bool b5, .slice A5 n5 c5, .bool b6, .slice A6 n6 c6] 32))
  replace q6 := q6.below (bl_alloc _ (.cells #[.bool b5, .slice A5 n5 c5, .bool b6, .slice A6 n6 c6] 32))
  go_wp2_with fail
  refine (cAdd2 (z := n) (u := m) r6 (by omega) (by omega) (Nat.le_refl _)).mono ?_
  rintro e w7 ⟨_, rfl, hb7, b7, A7, n7, c7, rfl, Z7⟩
  replace PB := PB.below hb7
  replace QA := QA.below hb7
  replace q3 := q3.below hb7
  replace q5 := q5.below hb7
  replace q6 := q6.below hb7
  replace BB := bl_trans BB hb7
  clear hb7
  have q7 : IsZ _ w7 (.agg #[.bool b7, .slice A7 n7 c7]) (n + m) 3 := ⟨_, _, _, _, rfl, Z7⟩
  clear Z7
  clear r6
  go_wp2_with fail
  refine (cSmall_no q7.m (by omega) (by omega)).mono ?_
  rintro e w8 ⟨_, rfl, hb8, rfl⟩
  replace PB := PB.below hb8
  replace QA := QA.below hb8
  replace q3 := q3.below hb8
  replace q5 := q5.below hb8
  replace q6 := q6.below hb8
  replace q7 := q7.below hb8
  replace BB := bl_trans BB hb8
  clear hb8
  have hw : IntKind.i64.wrap (n + m) = n + m + 18446744073709551616 := by rw [IntKind.wrap_i64]; omega
  have PB_0 := PB.c0
  have PB_1 := PB.c1
  go_wp2_with fail
  refine (cSmall_yes QA (by omega) S0 S1).mono ?_
  rintro e w9 ⟨_, rfl, hb9, rfl⟩
  clear PB_0 PB_1
  replace PB := PB.below hb9
  replace QA := QA.below hb9
  replace q3 := q3.below hb9
  replace q5 := q5.below hb9
  replace q6 := q6.below hb9
  replace q7 := q7.below hb9
  replace BB := bl_trans BB hb9
  clear hb9
  go_wp2_with fail
  refine wp_region_list (Ext := RB) (Rel := RBu) [fun v _ _ => v = .bool true, fun v _ _ => v = .bool false, fun v _ _ => v = .bool false, fun v _ _ => v = .int .i64 z, fun v _ w => IsZ (w9).heap.size w v (z) 2, fun v _ w => IsM w v (z) 5, fun v _ w => IsR1 w v (z) 5, fun v _ w => IsZ (w9).heap.size w v (z) 6, fun v _ _ => v = .bool true, fun v _ _ => v = .bool true, fun v _ _ => v = .bool true] (n := 11) (by kernel_rfl) rfl (by kernel_rfl) (by kernel_rfl) (by kernel_rfl) (by kernel_rfl) (by kernel_rfl) rb_refl rb_trans ⟨sC, ⟨sC, ⟨sC, ⟨sC, ⟨sZ, ⟨sM, ⟨sR1, ⟨sZ, ⟨sC, ⟨sC, ⟨sC, trivial⟩⟩⟩⟩⟩⟩⟩⟩⟩⟩⟩ ?_ ?_
  · refine ⟨⟨⟨⟨⟨⟨⟨⟨⟨⟨⟨trivial, ?_⟩, ?_⟩, ?_⟩, ?_⟩, ?_⟩, ?_⟩, ?_⟩, ?_⟩, ?_⟩, ?_⟩, ?_⟩
    · refine rs_plain rfl rfl fun a wr S => ?_
      have X := undrew S.ext
      exact wp_mv (ev_of ((S.old 13 (by kernel_rfl)).trans rfl)) (done (by kernel_rfl) rbu_refl rfl)
    · refine rs_plain rfl rfl fun a wr S => ?_
      have X := undrew S.ext
      obtain ⟨v0, e0, h0⟩ := S.got 0 (by kernel_rfl)
      exact wp_not ((ev_of (e0 95 (by kernel_rfl))).trans h0) (done (by kernel_rfl) rbu_refl rfl)
    · refine rs_plain rfl rfl fun a wr S => ?_
      have X := undrew S.ext
      obtain ⟨v1, e1, h1⟩ := S.got 1 (by kernel_rfl)
      exact wp_mv ((ev_of (e1 96 (by kernel_rfl))).trans h1) (done (by kernel_rfl) rbu_refl rfl)
    · refine rs_yes rfl rfl (by kernel_rfl) (by kernel_rfl : _ = some 97) (fun _ _ _ h => h) fun a wr S => ?_
      have X := undrew S.ext
      exact wp_mv (ev_of ((S.old 12 (by kernel_rfl)).trans rfl)) (done (by kernel_rfl) rbu_refl rfl)
    · refine rs_yes rfl rfl (by kernel_rfl) (by kernel_rfl : _ = some 97) (fun _ _ _ h => h) fun a wr S => ?_
      have X := undrew S.ext
      obtain ⟨v3, e3, h3⟩ := S.got 3 (by kernel_rfl)
      exact st_call cf_big_From (args1 ((ev_of (e3 98 (by kernel_rfl))).trans h3)) (by kernel_rfl) rb (cFrom _ (by omega) (by omega) X.size) (fun _ _ _ h => h)
    · refine rs_yes rfl rfl (by kernel_rfl) (by kernel_rfl : _ = some 97) (fun _ _ _ h => h) fun a wr S => ?_
      have X := undrew S.ext
      exact wp_load (ev_of ((S.old 5 (by kernel_rfl)).trans rfl)) (PB.below X) (done (by kernel_rfl) rbu_refl (QA.below X))
    · refine rs_yes rfl rfl (by kernel_rfl) (by kernel_rfl : _ = some 97) (fun _ _ _ h => h) fun a wr S => ?_
      have X := undrew S.ext
      obtain ⟨v5, e5, h5⟩ := S.got 5 (by kernel_rfl)
      obtain ⟨b0, A0, n0, c0, hv0, Z0⟩ := (show IsM wr _ _ _ from h5)
      exact wp_bs1 ((ev_of (e5 100 (by kernel_rfl))).trans hv0) (done' (by kernel_rfl) (rb _ _ _ (bl_alloc _ _)) (IsR1.new Z0))
    · refine rs_yes rfl rfl (by kernel_rfl) (by kernel_rfl : _ = some 97) (fun _ _ _ h => h) fun a wr S => ?_
      have X := undrew S.ext
      obtain ⟨v6, e6, h6⟩ := S.got 6 (by kernel_rfl)
      exact st_call cf_big_Add (args1 (ev_of (e6 101 (by kernel_rfl)))) (by kernel_rfl) rb (cAdd1 h6 (by omega) X.size) (fun _ _ _ h => h)
    · refine rs_yes rfl rfl (by kernel_rfl) (by kernel_rfl : _ = some 97) (fun _ _ _ h => h) fun a wr S => ?_
      have X := undrew S.ext
      obtain ⟨v4, e4, h4⟩ := S.got 4 (by kernel_rfl)
      obtain ⟨v7, e7, h7⟩ := S.got 7 (by kernel_rfl)
      exact st_call cf_law02_same (args2 (ev_of (e4 99 (by kernel_rfl))) (ev_of (e7 102 (by kernel_rfl)))) (by kernel_rfl) rb (cSame h4.t h7.t (by omega) (by omega) (decide_eq_true (rfl))) (fun _ _ _ h => h)
    · refine rs_plain rfl rfl fun a wr S => ?_
      have X := undrew S.ext
      obtain ⟨v2, e2, h2⟩ := S.got 2 (by kernel_rfl)
      obtain ⟨v8, e8, h8⟩ := S.got 8 (by kernel_rfl)
      exact wp_pickF ((ev_of (e2 97 (by kernel_rfl))).trans h2) ((ev_of (e8 103 (by kernel_rfl))).trans h8) (done (by kernel_rfl) rbu_refl rfl)
    · refine rs_plain rfl rfl fun a wr S => ?_
      have X := undrew S.ext
      obtain ⟨v9, e9, h9⟩ := S.got 9 (by kernel_rfl)
      exact wp_as ((ev_of (e9 104 (by kernel_rfl))).trans h9) (done (by kernel_rfl) rbu_refl rfl)
  · intro f10_ w10 hR hv
    replace hR := undrew hR
    have f0 : f10_ 0 = .bool true := (hvc (hv 0 (by omega))).elim fun _ h => h
    have f1 : f10_ 1 = .bool false := (hvc (hv 1 (by omega))).elim fun _ h => h
    have f2 : f10_ 2 = .bool false := (hvc (hv 2 (by omega))).elim fun _ h => h
    have f3 : f10_ 3 = .int .i64 z := (hvc (hv 3 (by omega))).elim fun _ h => h
    have f8 : f10_ 8 = .bool true := (hvc (hv 8 (by omega))).elim fun _ h => h
    have f9 : f10_ 9 = .bool true := (hvc (hv 9 (by omega))).elim fun _ h => h
    have f10 : f10_ 10 = .bool true := (hvc (hv 10 (by omega))).elim fun _ h => h
    simp only [putFn, Act.put, List.setIfInBounds_toArray, List.set_cons_zero, List.set_cons_succ, f0, f1, f2, f3, f8, f9, f10]
    replace PB := PB.below hR
    replace QA := QA.below hR
    replace q3 := q3.below hR
    replace q5 := q5.below hR
    replace q6 := q6.below hR
    replace q7 := q7.below hR
    replace BB := bl_trans BB hR
    clear hR
    clear hv
    go_wp2_with fail
    go_ret
    exact ⟨rfl, BB⟩

set_option maxHeartbeats 4000000 in
theorem bigSmall_lo0 (s : Bool) (A : Option Addr) (l c : Nat) (xs : List Nat) (z n m : Int) (w : World) (n0 : -9223372036854775808 ≤ n) (n1 : n < 9223372036854775808) (m0 : -9223372036854775808 ≤ m) (m1 : m < 9223372036854775808) (HR : Hid (Rd w A l c xs)) (HM : Hid (l ≤ maxLen)) (HZ : Hid (z = zv s (M.val (xs.take (min l 5))))) (r0 : n + m < -9223372036854775808) (SN : z < -9223372036854775808 ∨ 9223372036854775808 ≤ z) : Calls Try.prog 11 #[.int .i64 n, .int .i64 m, .agg #[.bool s, .slice A l c]] w fun e w' => e = .returned (.bool true) ∧ Below w.heap.size w w' := by
  have g0 : n < 0 := by omega
  have g1 : m < 0 := by omega
  have PA := Bz.new w s A l c
  have BB := bl_alloc w (.cells #[.bool s, .slice A l c] 32)
  go_enter Try.func11, Try.ntmps11
  go_wp2_with fail
  refine (cWorks _).mono ?_
  rintro e w1 ⟨_, rfl, hb1, rfl⟩
  replace PA := PA.below hb1
  replace BB := bl_trans BB hb1
  clear hb1
  have PA_0 := PA.c0
  have PA_1 := PA.c1
  go_wp2_with fail
  refine (cFew (HR.out.below BB) HM.out 5 _ rfl (by omega)).mono ?_
  rintro e w2 ⟨_, rfl, hb2, rfl⟩
  replace PA := PA.below hb2
  replace BB := bl_trans BB hb2
  clear hb2
  clear PA_0 PA_1
  have PA_0 := PA.c0
  have PA_1 := PA.c1
  have PA_2 := PA.f 0
  have PA_3 := PA.f 1
  have PB := (belU_store (N := w.heap.size) (t := s) (B := A) (m := min l 5) (d := c) PA (Nat.le_refl _)).2
  replace BB := (BB.setCell (p := ⟨w.heap.size, 0, none⟩) (Nat.le_refl _) (.bool s)).setCell (p := ⟨w.heap.size, 1, none⟩) (Nat.le_refl _) (.slice A (min l 5) c)
  have QA : IsM ((w2.setCell ⟨w.heap.size, 0, none⟩ (.bool s)).setCell ⟨w.heap.size, 1, none⟩ (.slice A (min l 5) c)) (.agg #[.bool s, .slice A (min l 5) c]) z 5 := ⟨_, _, _, _, rfl, by rw [HZ.out]; exact few_zm (HR.out.below BB) 5⟩
  clear PA HR HM HZ
  go_wp2_with fail
  refine (cFrom _ (by omega) (by omega) (Nat.le_refl _)).mono ?_
  rintro e w3 ⟨_, rfl, hb3, b3, A3, n3, c3, rfl, Z3⟩
  replace PB := PB.below hb3
  replace QA := QA.below hb3
  replace BB := bl_trans BB hb3
  clear hb3
  have q3 : IsZ _ w3 (.agg #[.bool b3, .slice A3 n3 c3]) (n) 2 := ⟨_, _, _, _, rfl, Z3⟩
  clear Z3
  go_wp2_with fail
  refine (cSmall_yes q3.m (by omega) (by omega) (by omega)).mono ?_
  rintro e w4 ⟨_, rfl, hb4, rfl⟩
  replace PB := PB.below hb4
  replace QA := QA.below hb4
  replace q3 := q3.below hb4
  replace BB := bl_trans BB hb4
  clear hb4
  clear PA_0 PA_1 PA_2 PA_3
  go_wp2_with fail
  refine (cFrom _ (by omega) (by omega) (Nat.le_refl _)).mono ?_
  rintro e w5 ⟨_, rfl, hb5, b5, A5, n5, c5, rfl, Z5⟩
  replace PB := PB.below hb5
  replace QA := QA.below hb5
  replace q3 := q3.below hb5
  replace BB := bl_trans BB hb5
  clear hb5
  have q5 : IsZ _ w5 (.agg #[.bool b5, .slice A5 n5 c5]) (n) 2 := ⟨_, _, _, _, rfl, Z5⟩
  clear Z5
  go_wp2_with fail
  refine (cFrom _ (by omega) (by omega) (Nat.le_refl _)).mono ?_
  rintro e w6 ⟨_, rfl, hb6, b6, A6, n6, c6, rfl, Z6⟩
  replace PB := PB.below hb6
  replace QA := QA.below hb6
  replace q3 := q3.below hb6
  replace q5 := q5.below hb6
  replace BB := bl_trans BB hb6
  clear hb6
  have q6 : IsZ _ w6 (.agg #[.bool b6, .slice A6 n6 c6]) (m) 2 := ⟨_, _, _, _, rfl, Z6⟩
  clear Z6
  obtain ⟨_, _, _, _, e0, y0⟩ := q5.m
  cases e0
  obtain ⟨_, _, _, _, e1, y1⟩ := q6.m
  cases e1
  have r6 := IsR2.new y0 y1
  clear y0 y1
  replace BB := bl_trans BB (bl_alloc w6 (.cells #[.bool b5, .slice A5 n5 c5, .bool b6, .slice A6 n6 c6] 32))
  replace PB := PB.below (bl_alloc _ (.cells #[.bool b5, .slice A5 n5 c5, .bool b6, .slice A6 n6 c6] 32))
  replace QA := QA.below (bl_alloc _ (.cells #[.bool b5, .slice A5 n5 c5, .bool b6, .slice A6 n6 c6] 32))
  replace q3 := q3.below (bl_alloc _ (.cells #[.bool b5, .slice A5 n5 c5, .bool b6, .slice A6 n6 c6] 32))
  replace q5 := q5.below (bl_alloc _ (.cells #[.bool b5, .slice A5 n5 c5, .bool b6, .slice A6 n6 c6] 32))
  replace q6 := q6.below (bl_alloc _ (.cells #[.bool b5, .slice A5 n5 c5, .bool b6, .slice A6 n6 c6] 32))
  go_wp2_with fail
  refine (cAdd2 (z := n) (u := m) r6 (by omega) (by omega) (Nat.le_refl _)).mono ?_
  rintro e w7 ⟨_, rfl, hb7, b7, A7, n7, c7, rfl, Z7⟩
  replace PB := PB.below hb7
  replace QA := QA.below hb7
  replace q3 := q3.below hb7
  replace q5 := q5.below hb7
  replace q6 := q6.below hb7
  replace BB := bl_trans BB hb7
  clear hb7
  have q7 : IsZ _ w7 (.agg #[.bool b7, .slice A7 n7 c7]) (n + m) 3 := ⟨_, _, _, _, rfl, Z7⟩
  clear Z7
  clear r6
  go_wp2_with fail
  refine (cSmall_no q7.m (by omega) (by omega)).mono ?_
  rintro e w8 ⟨_, rfl, hb8, rfl⟩
  replace PB := PB.below hb8
  replace QA := QA.below hb8
  replace q3 := q3.below hb8
  replace q5 := q5.below hb8
  replace q6 := q6.below hb8
  replace q7 := q7.below hb8
  replace BB := bl_trans BB hb8
  clear hb8
  have hw : IntKind.i64.wrap (n + m) = n + m + 18446744073709551616 := by rw [IntKind.wrap_i64]; omega
  have PB_0 := PB.c0
  have PB_1 := PB.c1
  go_wp2_with fail
  refine (cSmall_no QA (by omega) SN).mono ?_
  rintro e w9 ⟨_, rfl, hb9, rfl⟩
  clear PB_0 PB_1
  replace PB := PB.below hb9
  replace QA := QA.below hb9
  replace q3 := q3.below hb9
  replace q5 := q5.below hb9
  replace q6 := q6.below hb9
  replace q7 := q7.below hb9
  replace BB := bl_trans BB hb9
  clear hb9
  go_wp2_with fail
  refine wp_region_list (Ext := RB) (Rel := RBu) [fun v _ _ => v = .bool false, fun v _ _ => v = .bool true, fun v _ _ => v = .bool true, fun v _ _ => v = undef, fun v _ _ => v = undef, fun v _ _ => v = undef, fun v _ _ => v = undef, fun v _ _ => v = undef, fun v _ _ => v = undef, fun v _ _ => v = Value.bool true, fun v _ _ => v = Value.bool true] (n := 11) (by kernel_rfl) rfl (by kernel_rfl) (by kernel_rfl) (by kernel_rfl) (by kernel_rfl) (by kernel_rfl) rb_refl rb_trans ⟨sC, ⟨sC, ⟨sC, ⟨sC, ⟨sC, ⟨sC, ⟨sC, ⟨sC, ⟨sC, ⟨sC, ⟨sC, trivial⟩⟩⟩⟩⟩⟩⟩⟩⟩⟩⟩ ?_ ?_
  · refine ⟨⟨⟨⟨⟨⟨⟨⟨⟨⟨⟨trivial, ?_⟩, ?_⟩, ?_⟩, ?_⟩, ?_⟩, ?_⟩, ?_⟩, ?_⟩, ?_⟩, ?_⟩, ?_⟩
    · refine rs_plain rfl rfl fun a wr S => ?_
      have X := undrew S.ext
      exact wp_mv (ev_of ((S.old 13 (by kernel_rfl)).trans rfl)) (done (by kernel_rfl) rbu_refl rfl)
    · refine rs_plain rfl rfl fun a wr S => ?_
      have X := undrew S.ext
      obtain ⟨v0, e0, h0⟩ := S.got 0 (by kernel_rfl)
      exact wp_not ((ev_of (e0 95 (by kernel_rfl))).trans h0) (done (by kernel_rfl) rbu_refl rfl)
    · refine rs_plain rfl rfl fun a wr S => ?_
      have X := undrew S.ext
      obtain ⟨v1, e1, h1⟩ := S.got 1 (by kernel_rfl)
      exact wp_mv ((ev_of (e1 96 (by kernel_rfl))).trans h1) (done (by kernel_rfl) rbu_refl rfl)
    · exact rs_no rfl rfl (by kernel_rfl) (by kernel_rfl : _ = some 97) (fun _ _ _ h => h) (by kernel_rfl) rbu_refl (fun _ _ => rfl)
    · exact rs_no rfl rfl (by kernel_rfl) (by kernel_rfl : _ = some 97) (fun _ _ _ h => h) (by kernel_rfl) rbu_refl (fun _ _ => rfl)
    · exact rs_no rfl rfl (by kernel_rfl) (by kernel_rfl : _ = some 97) (fun _ _ _ h => h) (by kernel_rfl) rbu_refl (fun _ _ => rfl)
    · exact rs_no rfl rfl (by kernel_rfl) (by kernel_rfl : _ = some 97) (fun _ _ _ h => h) (by kernel_rfl) rbu_refl (fun _ _ => rfl)
    · exact rs_no rfl rfl (by kernel_rfl) (by kernel_rfl : _ = some 97) (fun _ _ _ h => h) (by kernel_rfl) rbu_refl (fun _ _ => rfl)
    · exact rs_no rfl rfl (by kernel_rfl) (by kernel_rfl : _ = some 97) (fun _ _ _ h => h) (by kernel_rfl) rbu_refl (fun _ _ => rfl)
    · refine rs_plain rfl rfl fun a wr S => ?_
      have X := undrew S.ext
      obtain ⟨v2, e2, h2⟩ := S.got 2 (by kernel_rfl)
      exact wp_pickT ((ev_of (e2 97 (by kernel_rfl))).trans h2) rfl (done (by kernel_rfl) rbu_refl rfl)
    · refine rs_plain rfl rfl fun a wr S => ?_
      have X := undrew S.ext
      obtain ⟨v9, e9, h9⟩ := S.got 9 (by kernel_rfl)
      exact wp_as ((ev_of (e9 104 (by kernel_rfl))).trans h9) (done (by kernel_rfl) rbu_refl rfl)
  · intro f10_ w10 hR hv
    replace hR := undrew hR
    have f0 : f10_ 0 = .bool false := (hvc (hv 0 (by omega))).elim fun _ h => h
    have f1 : f10_ 1 = .bool true := (hvc (hv 1 (by omega))).elim fun _ h => h
    have f2 : f10_ 2 = .bool true := (hvc (hv 2 (by omega))).elim fun _ h => h
    have f3 : f10_ 3 = undef := (hvc (hv 3 (by omega))).elim fun _ h => h
    have f4 : f10_ 4 = undef := (hvc (hv 4 (by omega))).elim fun _ h => h
    have f5 : f10_ 5 = undef := (hvc (hv 5 (by omega))).elim fun _ h => h
    have f6 : f10_ 6 = undef := (hvc (hv 6 (by omega))).elim fun _ h => h
    have f7 : f10_ 7 = undef := (hvc (hv 7 (by omega))).elim fun _ h => h
    have f8 : f10_ 8 = undef := (hvc (hv 8 (by omega))).elim fun _ h => h
    have f9 : f10_ 9 = Value.bool true := (hvc (hv 9 (by omega))).elim fun _ h => h
    have f10 : f10_ 10 = Value.bool true := (hvc (hv 10 (by omega))).elim fun _ h => h
    simp only [putFn, Act.put, List.setIfInBounds_toArray, List.set_cons_zero, List.set_cons_succ, f0, f1, f2, f3, f4, f5, f6, f7, f8, f9, f10]
    replace PB := PB.below hR
    replace QA := QA.below hR
    replace q3 := q3.below hR
    replace q5 := q5.below hR
    replace q6 := q6.below hR
    replace q7 := q7.below hR
    replace BB := bl_trans BB hR
    clear hR
    clear hv
    go_wp2_with fail
    go_ret
    exact ⟨rfl, BB⟩

theorem bigSmall_walk (n m : Int) (s : Bool) (A : Option Addr) (l c : Nat) (xs : List Nat) (w : World) (n0 : -9223372036854775808 ≤ n) (n1 : n < 9223372036854775808) (m0 : -9223372036854775808 ≤ m) (m1 : m < 9223372036854775808) (hr : Rd w A l c xs) (hm : l ≤ maxLen) : Calls Try.prog 11 #[.int .i64 n, .int .i64 m, .agg #[.bool s, .slice A l c]] w fun e w' => e = .returned (.bool true) ∧ Below w.heap.size w w' := by
  obtain ⟨z, hz⟩ : ∃ z, z = zv s (M.val (xs.take (min l 5))) := ⟨_, rfl⟩
  have HR := Lib.hid hr
  have HM := Lib.hid hm
  have HZ := Lib.hid hz
  have sg : (0 < n ∧ 0 < m) ∨ (0 < n ∧ m ≤ 0) ∨ (n < 0 ∧ m < 0) ∨ (n < 0 ∧ 0 ≤ m) ∨ n = 0 := by omega
  by_cases hs : -9223372036854775808 ≤ z ∧ z < 9223372036854775808
  · by_cases h0 : 9223372036854775808 ≤ n + m
    · exact bigSmall_hi1 s A l c xs z n m w n0 n1 m0 m1 HR HM HZ h0 hs.1 hs.2
    · by_cases h1 : n + m < -9223372036854775808
      · exact bigSmall_lo1 s A l c xs z n m w n0 n1 m0 m1 HR HM HZ h1 hs.1 hs.2
      · exact bigSmall_in1 s A l c xs z n m w n0 n1 m0 m1 HR HM HZ (by omega) (by omega) hs.1 hs.2 sg
  · have hs' : z < -9223372036854775808 ∨ 9223372036854775808 ≤ z := by omega
    by_cases h0 : 9223372036854775808 ≤ n + m
    · exact bigSmall_hi0 s A l c xs z n m w n0 n1 m0 m1 HR HM HZ h0 hs'
    · by_cases h1 : n + m < -9223372036854775808
      · exact bigSmall_lo0 s A l c xs z n m w n0 n1 m0 m1 HR HM HZ h1 hs'
      · exact bigSmall_in0 s A l c xs z n m w n0 n1 m0 m1 HR HM HZ (by omega) (by omega) hs' sg

end Go.Proofs.Ytebchniiiccghaa
