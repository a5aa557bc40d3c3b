/- litmuslaw02.divs. -/
import Derived.Test.YthjgonfohjgfaaaZD
namespace Go.Proofs.Ythjgonfohjgfaaa
open Go.RowKit
set_option linter.unusedVariables false
set_option maxRecDepth 100000

section
variable {w : World}
set_option maxHeartbeats 4000000
theorem cDivs (a b q r : Int) (ha : -9223372036854775808 ≤ a) (ha' : a < 9223372036854775808) (hb : -9223372036854775808 ≤ b) (hb' : b < 9223372036854775808) (hq0 : -9223372036854775808 ≤ q) (hq1 : q < 9223372036854775808) (hr0 : -9223372036854775808 ≤ r) (hr1 : r < 9223372036854775808) (h0 : b ≠ 0) (hq : dq a b = q) (hr : dr a b = r) : Calls Try.prog 72 #[.int .i64 a, .int .i64 b, .int .i64 q, .int .i64 r] w (Ans w fun _ v => v = .bool true) := by
  have H0 := Lib.hid h0
  have HQ := Lib.hid hq
  have HR := Lib.hid hr
  clear h0 hq hr
  go_enter Try.func72, Try.ntmps72
  go_wp2_with fail
  refine (cFrom a ha ha' (Nat.le_refl _)).mono ?_
  rintro e w1 ⟨v1, rfl, hb1, q1⟩
  go_wp2_with fail
  refine (cFrom b hb hb' (Nat.le_refl _)).mono ?_
  rintro e w2 ⟨v2, rfl, hb2, q2⟩
  replace q1 := q1.below hb2
  have BB := bl_trans hb1 hb2
  clear hb1 hb2
  go_wp2_with fail
  refine (cDiv q1.m q2.m (by omega) (by omega) H0.out (Nat.le_refl _)).mono ?_
  rintro e w3 ⟨_, rfl, hb3, b3, A3, n3, c3, rfl, Z3⟩
  replace BB := bl_trans BB hb3
  have QX : IsT _ (.agg #[.bool b3, .slice A3 n3 c3]) (dq a b) 3 := IsZ.t ⟨_, _, _, _, rfl, Z3.alloc (.cells #[.bool b3, .slice A3 n3 c3] 32)⟩
  have PX := Bz.new w3 b3 A3 n3 c3
  replace BB := bl_trans BB (bl_alloc w3 (.cells #[.bool b3, .slice A3 n3 c3] 32))
  clear hb3 Z3 q1 q2
  go_wp2_with fail
  refine (cFrom a ha ha' (Nat.le_refl _)).mono ?_
  rintro e w4 ⟨v4, rfl, hb4, q4⟩
  replace BB := bl_trans BB hb4
  replace QX := QX.below hb4
  replace PX := PX.below hb4
  clear hb4
  go_wp2_with fail
  refine (cFrom b hb hb' (Nat.le_refl _)).mono ?_
  rintro e w5 ⟨v5, rfl, hb5, q5⟩
  replace BB := bl_trans BB hb5
  replace QX := QX.below hb5
  replace PX := PX.below hb5
  replace q4 := q4.below hb5
  clear hb5
  go_wp2_with fail
  refine (cMod q4.m q5.m (by omega) (by omega) H0.out (Nat.le_refl _)).mono ?_
  rintro e w6 ⟨_, rfl, hb6, b6, A6, n6, c6, rfl, Z6⟩
  have QY : IsT _ (.agg #[.bool b6, .slice A6 n6 c6]) (dr a b) 2 := IsZ.t ⟨_, _, _, _, rfl, Z6.alloc (.cells #[.bool b6, .slice A6 n6 c6] 32)⟩
  have PY := Bz.new w6 b6 A6 n6 c6
  replace BB := bl_trans (bl_trans BB hb6) (bl_alloc w6 (.cells #[.bool b6, .slice A6 n6 c6] 32))
  replace QX := (QX.below hb6).below (bl_alloc w6 (.cells #[.bool b6, .slice A6 n6 c6] 32))
  replace PX := (PX.below hb6).alloc (.cells #[.bool b6, .slice A6 n6 c6] 32)
  clear hb6 Z6 q4 q5
  go_wp2_with fail
  refine wp_region_list (Ext := RB) (Rel := RBu) [fun v _ _ => v = .int .i64 0, fun v _ _ => v = .bool true, fun v _ _ => v = .bool true, fun v _ _ => v = .int .i64 0, fun v _ _ => v = .bool true, fun v _ _ => v = .bool true, fun v _ _ => v = .bool true, fun v _ w => IsT w v (dq a b) 3, fun v _ _ => v = .int .i64 q, fun v _ w => IsZ (w6.alloc (.cells #[.bool b6, .slice A6 n6 c6] 32)).heap.size w v (q) 2, fun v _ _ => v = .bool true, fun v _ _ => v = .bool true, fun v _ _ => v = .bool true, fun v _ w => IsT w v (dr a b) 2, fun v _ _ => v = .int .i64 r, fun v _ w => IsZ (w6.alloc (.cells #[.bool b6, .slice A6 n6 c6] 32)).heap.size w v (r) 2, fun v _ _ => v = .bool true, fun v _ _ => v = .bool true, fun v _ _ => v = .bool true] (n := 19) (by kernel_rfl) rfl (by kernel_rfl) (by kernel_rfl) (by kernel_rfl) (by kernel_rfl) (by kernel_rfl) rb_refl rb_trans ⟨sC, ⟨sC, ⟨sC, ⟨sC, ⟨sC, ⟨sC, ⟨sC, ⟨sT, ⟨sC, ⟨sZ, ⟨sC, ⟨sC, ⟨sC, ⟨sT, ⟨sC, ⟨sZ, ⟨sC, ⟨sC, ⟨sC, trivial⟩⟩⟩⟩⟩⟩⟩⟩⟩⟩⟩⟩⟩⟩⟩⟩⟩⟩⟩ ?_ ?_
  · refine ⟨⟨⟨⟨⟨⟨⟨⟨⟨⟨⟨⟨⟨⟨⟨⟨⟨⟨⟨trivial, ?_⟩, ?_⟩, ?_⟩, ?_⟩, ?_⟩, ?_⟩, ?_⟩, ?_⟩, ?_⟩, ?_⟩, ?_⟩, ?_⟩, ?_⟩, ?_⟩, ?_⟩, ?_⟩, ?_⟩, ?_⟩, ?_⟩
    · refine rs_plain rfl rfl fun a wr S => ?_
      have X := undrew S.ext
      exact wp_mv (ev_of ((S.old 10 (by kernel_rfl)).trans rfl)) (done (by kernel_rfl) rbu_refl rfl)
    · refine rs_plain rfl rfl fun a wr S => ?_
      have X := undrew S.ext
      obtain ⟨v0, e0, h0⟩ := S.got 0 (by kernel_rfl)
      exact wp_eqI ((ev_of (e0 29 (by kernel_rfl))).trans h0) rfl (Or.inr rfl) (done (by kernel_rfl) rbu_refl (congrArg Value.bool (by decide)))
    · refine rs_plain rfl rfl fun a wr S => ?_
      have X := undrew S.ext
      obtain ⟨v1, e1, h1⟩ := S.got 1 (by kernel_rfl)
      exact wp_mv ((ev_of (e1 30 (by kernel_rfl))).trans h1) (done (by kernel_rfl) rbu_refl rfl)
    · refine rs_yes rfl rfl (by kernel_rfl) (by kernel_rfl : _ = some 31) (fun _ _ _ h => h) fun a wr S => ?_
      have X := undrew S.ext
      exact wp_mv (ev_of ((S.old 12 (by kernel_rfl)).trans rfl)) (done (by kernel_rfl) rbu_refl rfl)
    · refine rs_yes rfl rfl (by kernel_rfl) (by kernel_rfl : _ = some 31) (fun _ _ _ h => h) fun a wr S => ?_
      have X := undrew S.ext
      obtain ⟨v3, e3, h3⟩ := S.got 3 (by kernel_rfl)
      exact wp_eqI ((ev_of (e3 32 (by kernel_rfl))).trans h3) rfl (Or.inr rfl) (done (by kernel_rfl) rbu_refl (congrArg Value.bool (by decide)))
    · refine rs_plain rfl rfl fun a wr S => ?_
      have X := undrew S.ext
      obtain ⟨v2, e2, h2⟩ := S.got 2 (by kernel_rfl)
      obtain ⟨v4, e4, h4⟩ := S.got 4 (by kernel_rfl)
      exact wp_pickT ((ev_of (e2 31 (by kernel_rfl))).trans h2) ((ev_of (e4 33 (by kernel_rfl))).trans h4) (done (by kernel_rfl) rbu_refl rfl)
    · refine rs_plain rfl rfl fun a wr S => ?_
      have X := undrew S.ext
      obtain ⟨v5, e5, h5⟩ := S.got 5 (by kernel_rfl)
      exact wp_mv ((ev_of (e5 34 (by kernel_rfl))).trans h5) (done (by kernel_rfl) rbu_refl rfl)
    · refine rs_yes rfl rfl (by kernel_rfl) (by kernel_rfl : _ = some 35) (fun _ _ _ h => h) fun a wr S => ?_
      have X := undrew S.ext
      exact wp_load (ev_of ((S.old 9 (by kernel_rfl)).trans rfl)) (PX.below X) (done (by kernel_rfl) rbu_refl (QX.below X))
    · refine rs_yes rfl rfl (by kernel_rfl) (by kernel_rfl : _ = some 35) (fun _ _ _ h => h) fun a wr S => ?_
      have X := undrew S.ext
      exact wp_mv (ev_of ((S.old 2 (by kernel_rfl)).trans rfl)) (done (by kernel_rfl) rbu_refl rfl)
    · refine rs_yes rfl rfl (by kernel_rfl) (by kernel_rfl : _ = some 35) (fun _ _ _ h => h) fun a wr S => ?_
      have X := undrew S.ext
      obtain ⟨v8, e8, h8⟩ := S.got 8 (by kernel_rfl)
      exact st_call cf_big_From (args1 ((ev_of (e8 37 (by kernel_rfl))).trans h8)) (by kernel_rfl) rb (cFrom _ (by omega) (by omega) X.size) (fun _ _ _ h => h)
    · refine rs_yes rfl rfl (by kernel_rfl) (by kernel_rfl : _ = some 35) (fun _ _ _ h => h) fun a wr S => ?_
      have X := undrew S.ext
      obtain ⟨v7, e7, h7⟩ := S.got 7 (by kernel_rfl)
      obtain ⟨v9, e9, h9⟩ := S.got 9 (by kernel_rfl)
      exact st_call cf_law02_same (args2 (ev_of (e7 36 (by kernel_rfl))) (ev_of (e9 38 (by kernel_rfl)))) (by kernel_rfl) rb (cSame h7 h9.t (by omega) (by omega) (decide_eq_true (HQ.out))) (fun _ _ _ h => h)
    · refine rs_plain rfl rfl fun a wr S => ?_
      have X := undrew S.ext
      obtain ⟨v6, e6, h6⟩ := S.got 6 (by kernel_rfl)
      obtain ⟨v10, e10, h10⟩ := S.got 10 (by kernel_rfl)
      exact wp_pickT ((ev_of (e6 35 (by kernel_rfl))).trans h6) ((ev_of (e10 39 (by kernel_rfl))).trans h10) (done (by kernel_rfl) rbu_refl rfl)
    · refine rs_plain rfl rfl fun a wr S => ?_
      have X := undrew S.ext
      obtain ⟨v11, e11, h11⟩ := S.got 11 (by kernel_rfl)
      exact wp_mv ((ev_of (e11 40 (by kernel_rfl))).trans h11) (done (by kernel_rfl) rbu_refl rfl)
    · refine rs_yes rfl rfl (by kernel_rfl) (by kernel_rfl : _ = some 41) (fun _ _ _ h => h) fun a wr S => ?_
      have X := undrew S.ext
      exact wp_load (ev_of ((S.old 11 (by kernel_rfl)).trans rfl)) (PY.below X) (done (by kernel_rfl) rbu_refl (QY.below X))
    · refine rs_yes rfl rfl (by kernel_rfl) (by kernel_rfl : _ = some 41) (fun _ _ _ h => h) fun a wr S => ?_
      have X := undrew S.ext
      exact wp_mv (ev_of ((S.old 3 (by kernel_rfl)).trans rfl)) (done (by kernel_rfl) rbu_refl rfl)
    · refine rs_yes rfl rfl (by kernel_rfl) (by kernel_rfl : _ = some 41) (fun _ _ _ h => h) fun a wr S => ?_
      have X := undrew S.ext
      obtain ⟨v14, e14, h14⟩ := S.got 14 (by kernel_rfl)
      exact st_call cf_big_From (args1 ((ev_of (e14 43 (by kernel_rfl))).trans h14)) (by kernel_rfl) rb (cFrom _ (by omega) (by omega) X.size) (fun _ _ _ h => h)
    · refine rs_yes rfl rfl (by kernel_rfl) (by kernel_rfl : _ = some 41) (fun _ _ _ h => h) fun a wr S => ?_
      have X := undrew S.ext
      obtain ⟨v13, e13, h13⟩ := S.got 13 (by kernel_rfl)
      obtain ⟨v15, e15, h15⟩ := S.got 15 (by kernel_rfl)
      exact st_call cf_law02_same (args2 (ev_of (e13 42 (by kernel_rfl))) (ev_of (e15 44 (by kernel_rfl)))) (by kernel_rfl) rb (cSame h13 h15.t (by omega) (by omega) (decide_eq_true (HR.out))) (fun _ _ _ h => h)
    · refine rs_plain rfl rfl fun a wr S => ?_
      have X := undrew S.ext
      obtain ⟨v12, e12, h12⟩ := S.got 12 (by kernel_rfl)
      obtain ⟨v16, e16, h16⟩ := S.got 16 (by kernel_rfl)
      exact wp_pickT ((ev_of (e12 41 (by kernel_rfl))).trans h12) ((ev_of (e16 45 (by kernel_rfl))).trans h16) (done (by kernel_rfl) rbu_refl rfl)
    · refine rs_plain rfl rfl fun a wr S => ?_
      have X := undrew S.ext
      obtain ⟨v17, e17, h17⟩ := S.got 17 (by kernel_rfl)
      exact wp_as ((ev_of (e17 46 (by kernel_rfl))).trans h17) (done (by kernel_rfl) rbu_refl rfl)
  · intro f w' hR hv
    replace hR := undrew hR
    have f0 : f 0 = .int .i64 0 := (hvc (hv 0 (by omega))).elim fun _ h => h
    have f1 : f 1 = .bool true := (hvc (hv 1 (by omega))).elim fun _ h => h
    have f2 : f 2 = .bool true := (hvc (hv 2 (by omega))).elim fun _ h => h
    have f3 : f 3 = .int .i64 0 := (hvc (hv 3 (by omega))).elim fun _ h => h
    have f4 : f 4 = .bool true := (hvc (hv 4 (by omega))).elim fun _ h => h
    have f5 : f 5 = .bool true := (hvc (hv 5 (by omega))).elim fun _ h => h
    have f6 : f 6 = .bool true := (hvc (hv 6 (by omega))).elim fun _ h => h
    have f8 : f 8 = .int .i64 q := (hvc (hv 8 (by omega))).elim fun _ h => h
    have f10 : f 10 = .bool true := (hvc (hv 10 (by omega))).elim fun _ h => h
    have f11 : f 11 = .bool true := (hvc (hv 11 (by omega))).elim fun _ h => h
    have f12 : f 12 = .bool true := (hvc (hv 12 (by omega))).elim fun _ h => h
    have f14 : f 14 = .int .i64 r := (hvc (hv 14 (by omega))).elim fun _ h => h
    have f16 : f 16 = .bool true := (hvc (hv 16 (by omega))).elim fun _ h => h
    have f17 : f 17 = .bool true := (hvc (hv 17 (by omega))).elim fun _ h => h
    have f18 : f 18 = .bool true := (hvc (hv 18 (by omega))).elim fun _ h => h
    simp only [putFn, Act.put, List.setIfInBounds_toArray, List.set_cons_zero, List.set_cons_succ, f0, f1, f2, f3, f4, f5, f6, f8, f10, f11, f12, f14, f16, f17, f18]
    go_wp2_with fail
    go_ret
    exact ⟨_, rfl, bl_trans BB hR, rfl⟩
end

end Go.Proofs.Ythjgonfohjgfaaa

/- litmuslaw02.works: the chapter's examples. -/
namespace Go.Proofs.Ythjgonfohjgfaaa
open Go.RowKit
set_option linter.unusedVariables false
set_option maxRecDepth 100000

set_option maxHeartbeats 8000000 in
theorem cWorks (w : World) : Calls Try.prog 35 #[] w (Ans w fun _ v => v = .bool true) := by
  go_enter Try.func35, Try.ntmps35
  go_wp2_with fail
  refine (cParse_no ⟨#[45, 48]⟩ (by decide) (by decide +kernel) (Nat.le_refl _)).mono ?_
  rintro e w1 ⟨_, rfl, hb1, b1, A1, n1, c1, rfl, Z1⟩
  have BB := bl_trans hb1 (bl_alloc w1 (.cells #[.bool b1, .slice A1 n1 c1] 32))
  clear hb1 Z1
  go_wp2_with fail
  refine (cParse_no ⟨#[43, 49]⟩ (by decide) (by decide +kernel) (Nat.le_refl _)).mono ?_
  rintro e w2 ⟨_, rfl, hb2, b2, A2, n2, c2, rfl, Z2⟩
  replace BB := bl_trans (bl_trans BB hb2) (bl_alloc w2 (.cells #[.bool b2, .slice A2 n2 c2] 32))
  clear hb2 Z2
  go_wp2_with fail
  refine (cParse (k := 1) ⟨#[45, 49, 50]⟩ (by decide) (by decide +kernel) (by decide +kernel) (Nat.le_refl _)).mono ?_
  rw [show valZ ⟨#[45, 49, 50]⟩ = -12 by decide +kernel]
  rintro e w3 ⟨_, rfl, hb3, b3, A3, n3, c3, rfl, Z3⟩
  replace BB := bl_trans (bl_trans BB hb3) (bl_alloc w3 (.cells #[.bool b3, .slice A3 n3 c3] 32))
  have PX := Bz.new w3 b3 A3 n3 c3
  have QX : IsT (w3.alloc (.cells #[.bool b3, .slice A3 n3 c3] 32)) (.agg #[.bool b3, .slice A3 n3 c3]) (-12) 1 := IsZ.t ⟨_, _, _, _, rfl, Z3.alloc _⟩
  clear hb3 Z3
  go_wp2_with fail
  refine wp_region_list (Ext := RB) (Rel := RBu) [fun v _ w => IsZ (w3.alloc (.cells #[.bool b3, .slice A3 n3 c3] 32)).heap.size w v (5) 2, fun v _ w => IsZ (w3.alloc (.cells #[.bool b3, .slice A3 n3 c3] 32)).heap.size w v ((-7)) 2, fun v _ w => IsR2 w v (5) 2 ((-7)) 2, fun v _ w => IsZ (w3.alloc (.cells #[.bool b3, .slice A3 n3 c3] 32)).heap.size w v (5 + ((-7))) 3, fun v _ _ => v = .bool true, fun v _ _ => v = .bool true, fun v _ w => IsZ (w3.alloc (.cells #[.bool b3, .slice A3 n3 c3] 32)).heap.size w v (1) 2, fun v _ _ => v = .bool true, fun v _ _ => v = .bool true, fun v _ _ => v = .bool true, fun v _ w => IsZ (w3.alloc (.cells #[.bool b3, .slice A3 n3 c3] 32)).heap.size w v ((-4611686018427387904)) 2, fun v _ w => IsZ (w3.alloc (.cells #[.bool b3, .slice A3 n3 c3] 32)).heap.size w v (4) 2, fun v _ w => IsR2 w v ((-4611686018427387904)) 2 (4) 2, fun v _ w => IsZ (w3.alloc (.cells #[.bool b3, .slice A3 n3 c3] 32)).heap.size w v (((-4611686018427387904)) * 4) 4, fun v _ _ => v = .bool true, fun v _ _ => v = .bool true, fun v _ _ => v = .bool true, fun v _ _ => v = .bool true, fun v _ _ => v = .bool true, fun v _ _ => v = .bool true, fun v _ _ => v = .bool true, fun v _ _ => v = .bool true, fun v _ _ => v = .bool true, fun v _ _ => v = .bool true, fun v _ _ => v = .bool true, fun v _ _ => v = .bool true, fun v _ _ => v = .bool true, fun v _ _ => v = .bool true, fun v _ _ => v = .bool true, fun v _ w => IsN w v (0 + M.R * 0) 2, fun v _ w => IsZ (w3.alloc (.cells #[.bool b3, .slice A3 n3 c3] 32)).heap.size w v (zv true (0 + M.R * 0)) 2, fun v _ w => IsT w v (0) 0, fun v _ _ => v = .bool true, fun v _ _ => v = .bool true, fun v _ _ => v = .bool true, fun v _ w => IsZ (w3.alloc (.cells #[.bool b3, .slice A3 n3 c3] 32)).heap.size w v ((-9223372036854775808)) 2, fun v _ _ => v = .bool true, fun v _ _ => v = .bool true, fun v _ _ => v = .bool true, fun v _ _ => v = .bool false, fun v _ _ => v = .bool true, fun v _ _ => v = .bool true, fun v _ _ => v = .bool true, fun v _ _ => v = .bool false, fun v _ _ => v = .bool true, fun v _ _ => v = .bool true, fun v _ _ => v = .bool true, fun v _ _ => v = .bool true, fun v _ _ => v = .bool true, fun v _ _ => v = .bool true, fun v _ w => IsT w v (-12) 1, fun v _ w => IsZ (w3.alloc (.cells #[.bool b3, .slice A3 n3 c3] 32)).heap.size w v ((-12)) 2, fun v _ _ => v = .bool true, fun v _ _ => v = .bool true, fun v _ _ => v = .bool true] (n := 55) (by kernel_rfl) rfl (by kernel_rfl) (by kernel_rfl) (by kernel_rfl) (by kernel_rfl) (by kernel_rfl) rb_refl rb_trans ⟨sZ, ⟨sZ, ⟨sR2, ⟨sZ, ⟨sC, ⟨sC, ⟨sZ, ⟨sC, ⟨sC, ⟨sC, ⟨sZ, ⟨sZ, ⟨sR2, ⟨sZ, ⟨sC, ⟨sC, ⟨sC, ⟨sC, ⟨sC, ⟨sC, ⟨sC, ⟨sC, ⟨sC, ⟨sC, ⟨sC, ⟨sC, ⟨sC, ⟨sC, ⟨sC, ⟨sN, ⟨sZ, ⟨sT, ⟨sC, ⟨sC, ⟨sC, ⟨sZ, ⟨sC, ⟨sC, ⟨sC, ⟨sC, ⟨sC, ⟨sC, ⟨sC, ⟨sC, ⟨sC, ⟨sC, ⟨sC, ⟨sC, ⟨sC, ⟨sC, ⟨sT, ⟨sZ, ⟨sC, ⟨sC, ⟨sC, trivial⟩⟩⟩⟩⟩⟩⟩⟩⟩⟩⟩⟩⟩⟩⟩⟩⟩⟩⟩⟩⟩⟩⟩⟩⟩⟩⟩⟩⟩⟩⟩⟩⟩⟩⟩⟩⟩⟩⟩⟩⟩⟩⟩⟩⟩⟩⟩⟩⟩⟩⟩⟩⟩⟩⟩ ?_ ?_
  · refine ⟨⟨⟨⟨⟨⟨⟨⟨⟨⟨⟨⟨⟨⟨⟨⟨⟨⟨⟨⟨⟨⟨⟨⟨⟨⟨⟨⟨⟨⟨⟨⟨⟨⟨⟨⟨⟨⟨⟨⟨⟨⟨⟨⟨⟨⟨⟨⟨⟨⟨⟨⟨⟨⟨⟨trivial, ?_⟩, ?_⟩, ?_⟩, ?_⟩, ?_⟩, ?_⟩, ?_⟩, ?_⟩, ?_⟩, ?_⟩, ?_⟩, ?_⟩, ?_⟩, ?_⟩, ?_⟩, ?_⟩, ?_⟩, ?_⟩, ?_⟩, ?_⟩, ?_⟩, ?_⟩, ?_⟩, ?_⟩, ?_⟩, ?_⟩, ?_⟩, ?_⟩, ?_⟩, ?_⟩, ?_⟩, ?_⟩, ?_⟩, ?_⟩, ?_⟩, ?_⟩, ?_⟩, ?_⟩, ?_⟩, ?_⟩, ?_⟩, ?_⟩, ?_⟩, ?_⟩, ?_⟩, ?_⟩, ?_⟩, ?_⟩, ?_⟩, ?_⟩, ?_⟩, ?_⟩, ?_⟩, ?_⟩, ?_⟩
    · refine rs_plain rfl rfl fun a wr S => ?_
      have X := undrew S.ext
      exact st_call cf_big_From (args1 rfl) (by kernel_rfl) rb (cFrom _ (by omega) (by omega) X.size) (fun _ _ _ h => h)
    · refine rs_plain rfl rfl fun a wr S => ?_
      have X := undrew S.ext
      exact st_call cf_big_From (args1 rfl) (by kernel_rfl) rb (cFrom _ (by omega) (by omega) X.size) (fun _ _ _ h => h)
    · refine rs_plain rfl rfl fun a wr S => ?_
      have X := undrew S.ext
      obtain ⟨v0, e0, h0⟩ := S.got 0 (by kernel_rfl)
      obtain ⟨v1, e1, h1⟩ := S.got 1 (by kernel_rfl)
      obtain ⟨b0, A0, n0, c0, hv0, Z0⟩ := (show IsM wr _ _ _ from h0.m)
      obtain ⟨b1, A1, n1, c1, hv1, Z1⟩ := (show IsM wr _ _ _ from h1.m)
      exact wp_bs2 ((ev_of (e0 19 (by kernel_rfl))).trans hv0) ((ev_of (e1 20 (by kernel_rfl))).trans hv1) (done' (by kernel_rfl) (rb _ _ _ (bl_alloc _ _)) (IsR2.new Z0 Z1))
    · refine rs_plain rfl rfl fun a wr S => ?_
      have X := undrew S.ext
      obtain ⟨v2, e2, h2⟩ := S.got 2 (by kernel_rfl)
      exact st_call cf_big_Add (args1 (ev_of (e2 21 (by kernel_rfl)))) (by kernel_rfl) rb (cAdd2 (z := 5) (u := ((-7))) h2 (by omega) (by omega) X.size) (fun _ _ _ h => h)
    · refine rs_plain rfl rfl fun a wr S => ?_
      have X := undrew S.ext
      obtain ⟨v3, e3, h3⟩ := S.got 3 (by kernel_rfl)
      exact st_call cf_law02_is (args2 (ev_of (e3 22 (by kernel_rfl))) rfl) (by kernel_rfl) rb (cIs _ h3.t (by omega) (lit_neg rfl (by decide) (by decide) (by decide))) (fun _ _ _ h => h)
    · refine rs_plain rfl rfl fun a wr S => ?_
      have X := undrew S.ext
      obtain ⟨v4, e4, h4⟩ := S.got 4 (by kernel_rfl)
      exact wp_mv ((ev_of (e4 23 (by kernel_rfl))).trans h4) (done (by kernel_rfl) rbu_refl rfl)
    · refine rs_yes rfl rfl (by kernel_rfl) (by kernel_rfl : _ = some 24) (fun _ _ _ h => h) fun a wr S => ?_
      have X := undrew S.ext
      exact st_call cf_big_Mul (args1 rfl) (by kernel_rfl) rb (cMul0 X.size) (fun _ _ _ h => h)
    · refine rs_yes rfl rfl (by kernel_rfl) (by kernel_rfl : _ = some 24) (fun _ _ _ h => h) fun a wr S => ?_
      have X := undrew S.ext
      obtain ⟨v6, e6, h6⟩ := S.got 6 (by kernel_rfl)
      exact st_call cf_law02_is (args2 (ev_of (e6 25 (by kernel_rfl))) rfl) (by kernel_rfl) rb (cIs _ h6.t (by omega) (lit_pos (by decide) (by decide))) (fun _ _ _ h => h)
    · refine rs_plain rfl rfl fun a wr S => ?_
      have X := undrew S.ext
      obtain ⟨v5, e5, h5⟩ := S.got 5 (by kernel_rfl)
      obtain ⟨v7, e7, h7⟩ := S.got 7 (by kernel_rfl)
      exact wp_pickT ((ev_of (e5 24 (by kernel_rfl))).trans h5) ((ev_of (e7 26 (by kernel_rfl))).trans h7) (done (by kernel_rfl) rbu_refl rfl)
    · refine rs_plain rfl rfl fun a wr S => ?_
      have X := undrew S.ext
      obtain ⟨v8, e8, h8⟩ := S.got 8 (by kernel_rfl)
      exact wp_mv ((ev_of (e8 27 (by kernel_rfl))).trans h8) (done (by kernel_rfl) rbu_refl rfl)
    · refine rs_yes rfl rfl (by kernel_rfl) (by kernel_rfl : _ = some 28) (fun _ _ _ h => h) fun a wr S => ?_
      have X := undrew S.ext
      exact st_call cf_big_From (args1 rfl) (by kernel_rfl) rb (cFrom _ (by omega) (by omega) X.size) (fun _ _ _ h => h)
    · refine rs_yes rfl rfl (by kernel_rfl) (by kernel_rfl : _ = some 28) (fun _ _ _ h => h) fun a wr S => ?_
      have X := undrew S.ext
      exact st_call cf_big_From (args1 rfl) (by kernel_rfl) rb (cFrom _ (by omega) (by omega) X.size) (fun _ _ _ h => h)
    · refine rs_yes rfl rfl (by kernel_rfl) (by kernel_rfl : _ = some 28) (fun _ _ _ h => h) fun a wr S => ?_
      have X := undrew S.ext
      obtain ⟨v10, e10, h10⟩ := S.got 10 (by kernel_rfl)
      obtain ⟨v11, e11, h11⟩ := S.got 11 (by kernel_rfl)
      obtain ⟨b0, A0, n0, c0, hv0, Z0⟩ := (show IsM wr _ _ _ from h10.m)
      obtain ⟨b1, A1, n1, c1, hv1, Z1⟩ := (show IsM wr _ _ _ from h11.m)
      exact wp_bs2 ((ev_of (e10 29 (by kernel_rfl))).trans hv0) ((ev_of (e11 30 (by kernel_rfl))).trans hv1) (done' (by kernel_rfl) (rb _ _ _ (bl_alloc _ _)) (IsR2.new Z0 Z1))
    · refine rs_yes rfl rfl (by kernel_rfl) (by kernel_rfl : _ = some 28) (fun _ _ _ h => h) fun a wr S => ?_
      have X := undrew S.ext
      obtain ⟨v12, e12, h12⟩ := S.got 12 (by kernel_rfl)
      exact st_call cf_big_Mul (args1 (ev_of (e12 31 (by kernel_rfl)))) (by kernel_rfl) rb (cMul2 (z := ((-4611686018427387904))) (u := 4) h12 (by omega) (by omega) (by omega) X.size) (fun _ _ _ h => h)
    · refine rs_yes rfl rfl (by kernel_rfl) (by kernel_rfl : _ = some 28) (fun _ _ _ h => h) fun a wr S => ?_
      have X := undrew S.ext
      obtain ⟨v13, e13, h13⟩ := S.got 13 (by kernel_rfl)
      exact st_call cf_law02_is (args2 (ev_of (e13 32 (by kernel_rfl))) rfl) (by kernel_rfl) rb (cIs _ h13.t (by omega) (lit_neg rfl (by decide) (by decide) (by decide))) (fun _ _ _ h => h)
    · refine rs_plain rfl rfl fun a wr S => ?_
      have X := undrew S.ext
      obtain ⟨v9, e9, h9⟩ := S.got 9 (by kernel_rfl)
      obtain ⟨v14, e14, h14⟩ := S.got 14 (by kernel_rfl)
      exact wp_pickT ((ev_of (e9 28 (by kernel_rfl))).trans h9) ((ev_of (e14 33 (by kernel_rfl))).trans h14) (done (by kernel_rfl) rbu_refl rfl)
    · refine rs_plain rfl rfl fun a wr S => ?_
      have X := undrew S.ext
      obtain ⟨v15, e15, h15⟩ := S.got 15 (by kernel_rfl)
      exact wp_mv ((ev_of (e15 34 (by kernel_rfl))).trans h15) (done (by kernel_rfl) rbu_refl rfl)
    · refine rs_yes rfl rfl (by kernel_rfl) (by kernel_rfl : _ = some 35) (fun _ _ _ h => h) fun a wr S => ?_
      have X := undrew S.ext
      exact st_call cf_law02_divs (args4 rfl rfl rfl rfl) (by kernel_rfl) rb (cDivs (7) (2) (3) (1) (by omega) (by omega) (by omega) (by omega) (by omega) (by omega) (by omega) (by omega) (by omega) (by decide) (by decide)) (fun _ _ _ h => h)
    · refine rs_plain rfl rfl fun a wr S => ?_
      have X := undrew S.ext
      obtain ⟨v16, e16, h16⟩ := S.got 16 (by kernel_rfl)
      obtain ⟨v17, e17, h17⟩ := S.got 17 (by kernel_rfl)
      exact wp_pickT ((ev_of (e16 35 (by kernel_rfl))).trans h16) ((ev_of (e17 36 (by kernel_rfl))).trans h17) (done (by kernel_rfl) rbu_refl rfl)
    · refine rs_plain rfl rfl fun a wr S => ?_
      have X := undrew S.ext
      obtain ⟨v18, e18, h18⟩ := S.got 18 (by kernel_rfl)
      exact wp_mv ((ev_of (e18 37 (by kernel_rfl))).trans h18) (done (by kernel_rfl) rbu_refl rfl)
    · refine rs_yes rfl rfl (by kernel_rfl) (by kernel_rfl : _ = some 38) (fun _ _ _ h => h) fun a wr S => ?_
      have X := undrew S.ext
      exact st_call cf_law02_divs (args4 rfl rfl rfl rfl) (by kernel_rfl) rb (cDivs (-7) (2) (-4) (1) (by omega) (by omega) (by omega) (by omega) (by omega) (by omega) (by omega) (by omega) (by omega) (by decide) (by decide)) (fun _ _ _ h => h)
    · refine rs_plain rfl rfl fun a wr S => ?_
      have X := undrew S.ext
      obtain ⟨v19, e19, h19⟩ := S.got 19 (by kernel_rfl)
      obtain ⟨v20, e20, h20⟩ := S.got 20 (by kernel_rfl)
      exact wp_pickT ((ev_of (e19 38 (by kernel_rfl))).trans h19) ((ev_of (e20 39 (by kernel_rfl))).trans h20) (done (by kernel_rfl) rbu_refl rfl)
    · refine rs_plain rfl rfl fun a wr S => ?_
      have X := undrew S.ext
      obtain ⟨v21, e21, h21⟩ := S.got 21 (by kernel_rfl)
      exact wp_mv ((ev_of (e21 40 (by kernel_rfl))).trans h21) (done (by kernel_rfl) rbu_refl rfl)
    · refine rs_yes rfl rfl (by kernel_rfl) (by kernel_rfl : _ = some 41) (fun _ _ _ h => h) fun a wr S => ?_
      have X := undrew S.ext
      exact st_call cf_law02_divs (args4 rfl rfl rfl rfl) (by kernel_rfl) rb (cDivs (7) (-2) (-4) (-1) (by omega) (by omega) (by omega) (by omega) (by omega) (by omega) (by omega) (by omega) (by omega) (by decide) (by decide)) (fun _ _ _ h => h)
    · refine rs_plain rfl rfl fun a wr S => ?_
      have X := undrew S.ext
      obtain ⟨v22, e22, h22⟩ := S.got 22 (by kernel_rfl)
      obtain ⟨v23, e23, h23⟩ := S.got 23 (by kernel_rfl)
      exact wp_pickT ((ev_of (e22 41 (by kernel_rfl))).trans h22) ((ev_of (e23 42 (by kernel_rfl))).trans h23) (done (by kernel_rfl) rbu_refl rfl)
    · refine rs_plain rfl rfl fun a wr S => ?_
      have X := undrew S.ext
      obtain ⟨v24, e24, h24⟩ := S.got 24 (by kernel_rfl)
      exact wp_mv ((ev_of (e24 43 (by kernel_rfl))).trans h24) (done (by kernel_rfl) rbu_refl rfl)
    · refine rs_yes rfl rfl (by kernel_rfl) (by kernel_rfl : _ = some 44) (fun _ _ _ h => h) fun a wr S => ?_
      have X := undrew S.ext
      exact st_call cf_law02_divs (args4 rfl rfl rfl rfl) (by kernel_rfl) rb (cDivs (-7) (-2) (3) (-1) (by omega) (by omega) (by omega) (by omega) (by omega) (by omega) (by omega) (by omega) (by omega) (by decide) (by decide)) (fun _ _ _ h => h)
    · refine rs_plain rfl rfl fun a wr S => ?_
      have X := undrew S.ext
      obtain ⟨v25, e25, h25⟩ := S.got 25 (by kernel_rfl)
      obtain ⟨v26, e26, h26⟩ := S.got 26 (by kernel_rfl)
      exact wp_pickT ((ev_of (e25 44 (by kernel_rfl))).trans h25) ((ev_of (e26 45 (by kernel_rfl))).trans h26) (done (by kernel_rfl) rbu_refl rfl)
    · refine rs_plain rfl rfl fun a wr S => ?_
      have X := undrew S.ext
      obtain ⟨v27, e27, h27⟩ := S.got 27 (by kernel_rfl)
      exact wp_mv ((ev_of (e27 46 (by kernel_rfl))).trans h27) (done (by kernel_rfl) rbu_refl rfl)
    · refine rs_yes rfl rfl (by kernel_rfl) (by kernel_rfl : _ = some 47) (fun _ _ _ h => h) fun a wr S => ?_
      have X := undrew S.ext
      exact wp_bsL2 (done' (by kernel_rfl) (rb _ _ _ (bl_alloc _ _)) ⟨_, _, _, rfl, litN2 wr 0 0 _ _ (by decide) (by decide) rfl rfl⟩)
    · refine rs_yes rfl rfl (by kernel_rfl) (by kernel_rfl : _ = some 47) (fun _ _ _ h => h) fun a wr S => ?_
      have X := undrew S.ext
      obtain ⟨v29, e29, h29⟩ := S.got 29 (by kernel_rfl)
      exact st_call cf_big_Of (args2 rfl (ev_of (e29 48 (by kernel_rfl)))) (by kernel_rfl) rb (cOfN true h29 (by omega) X.size) (fun _ _ _ h => h)
    · refine rs_yes rfl rfl (by kernel_rfl) (by kernel_rfl : _ = some 47) (fun _ _ _ h => h) fun a wr S => ?_
      have X := undrew S.ext
      exact wp_build0 (done (by kernel_rfl) rbu_refl (IsT.zero _ 0))
    · refine rs_yes rfl rfl (by kernel_rfl) (by kernel_rfl : _ = some 47) (fun _ _ _ h => h) fun a wr S => ?_
      have X := undrew S.ext
      obtain ⟨v30, e30, h30⟩ := S.got 30 (by kernel_rfl)
      obtain ⟨v31, e31, h31⟩ := S.got 31 (by kernel_rfl)
      exact st_call cf_law02_same (args2 (ev_of (e30 49 (by kernel_rfl))) (ev_of (e31 50 (by kernel_rfl)))) (by kernel_rfl) rb (cSame h30.t h31 (by omega) (by omega) (decide_eq_true (by decide))) (fun _ _ _ h => h)
    · refine rs_plain rfl rfl fun a wr S => ?_
      have X := undrew S.ext
      obtain ⟨v28, e28, h28⟩ := S.got 28 (by kernel_rfl)
      obtain ⟨v32, e32, h32⟩ := S.got 32 (by kernel_rfl)
      exact wp_pickT ((ev_of (e28 47 (by kernel_rfl))).trans h28) ((ev_of (e32 51 (by kernel_rfl))).trans h32) (done (by kernel_rfl) rbu_refl rfl)
    · refine rs_plain rfl rfl fun a wr S => ?_
      have X := undrew S.ext
      obtain ⟨v33, e33, h33⟩ := S.got 33 (by kernel_rfl)
      exact wp_mv ((ev_of (e33 52 (by kernel_rfl))).trans h33) (done (by kernel_rfl) rbu_refl rfl)
    · refine rs_yes rfl rfl (by kernel_rfl) (by kernel_rfl : _ = some 53) (fun _ _ _ h => h) fun a wr S => ?_
      have X := undrew S.ext
      exact st_call cf_big_From (args1 rfl) (by kernel_rfl) rb (cFrom _ (by omega) (by omega) X.size) (fun _ _ _ h => h)
    · refine rs_yes rfl rfl (by kernel_rfl) (by kernel_rfl : _ = some 53) (fun _ _ _ h => h) fun a wr S => ?_
      have X := undrew S.ext
      obtain ⟨v35, e35, h35⟩ := S.got 35 (by kernel_rfl)
      exact st_call cf_law02_is (args2 (ev_of (e35 54 (by kernel_rfl))) rfl) (by kernel_rfl) rb (cIs _ h35.t (by omega) (lit_neg rfl (by decide) (by decide) (by decide))) (fun _ _ _ h => h)
    · refine rs_plain rfl rfl fun a wr S => ?_
      have X := undrew S.ext
      obtain ⟨v34, e34, h34⟩ := S.got 34 (by kernel_rfl)
      obtain ⟨v36, e36, h36⟩ := S.got 36 (by kernel_rfl)
      exact wp_pickT ((ev_of (e34 53 (by kernel_rfl))).trans h34) ((ev_of (e36 55 (by kernel_rfl))).trans h36) (done (by kernel_rfl) rbu_refl rfl)
    · refine rs_plain rfl rfl fun a wr S => ?_
      have X := undrew S.ext
      obtain ⟨v37, e37, h37⟩ := S.got 37 (by kernel_rfl)
      exact wp_mv ((ev_of (e37 56 (by kernel_rfl))).trans h37) (done (by kernel_rfl) rbu_refl rfl)
    · refine rs_yes rfl rfl (by kernel_rfl) (by kernel_rfl : _ = some 57) (fun _ _ _ h => h) fun a wr S => ?_
      have X := undrew S.ext
      exact wp_mv (ev_of ((S.old 2 (by kernel_rfl)).trans rfl)) (done (by kernel_rfl) rbu_refl rfl)
    · refine rs_yes rfl rfl (by kernel_rfl) (by kernel_rfl : _ = some 57) (fun _ _ _ h => h) fun a wr S => ?_
      have X := undrew S.ext
      obtain ⟨v39, e39, h39⟩ := S.got 39 (by kernel_rfl)
      exact wp_not ((ev_of (e39 58 (by kernel_rfl))).trans h39) (done (by kernel_rfl) rbu_refl rfl)
    · refine rs_plain rfl rfl fun a wr S => ?_
      have X := undrew S.ext
      obtain ⟨v38, e38, h38⟩ := S.got 38 (by kernel_rfl)
      obtain ⟨v40, e40, h40⟩ := S.got 40 (by kernel_rfl)
      exact wp_pickT ((ev_of (e38 57 (by kernel_rfl))).trans h38) ((ev_of (e40 59 (by kernel_rfl))).trans h40) (done (by kernel_rfl) rbu_refl rfl)
    · refine rs_plain rfl rfl fun a wr S => ?_
      have X := undrew S.ext
      obtain ⟨v41, e41, h41⟩ := S.got 41 (by kernel_rfl)
      exact wp_mv ((ev_of (e41 60 (by kernel_rfl))).trans h41) (done (by kernel_rfl) rbu_refl rfl)
    · refine rs_yes rfl rfl (by kernel_rfl) (by kernel_rfl : _ = some 61) (fun _ _ _ h => h) fun a wr S => ?_
      have X := undrew S.ext
      exact wp_mv (ev_of ((S.old 4 (by kernel_rfl)).trans rfl)) (done (by kernel_rfl) rbu_refl rfl)
    · refine rs_yes rfl rfl (by kernel_rfl) (by kernel_rfl : _ = some 61) (fun _ _ _ h => h) fun a wr S => ?_
      have X := undrew S.ext
      obtain ⟨v43, e43, h43⟩ := S.got 43 (by kernel_rfl)
      exact wp_not ((ev_of (e43 62 (by kernel_rfl))).trans h43) (done (by kernel_rfl) rbu_refl rfl)
    · refine rs_plain rfl rfl fun a wr S => ?_
      have X := undrew S.ext
      obtain ⟨v42, e42, h42⟩ := S.got 42 (by kernel_rfl)
      obtain ⟨v44, e44, h44⟩ := S.got 44 (by kernel_rfl)
      exact wp_pickT ((ev_of (e42 61 (by kernel_rfl))).trans h42) ((ev_of (e44 63 (by kernel_rfl))).trans h44) (done (by kernel_rfl) rbu_refl rfl)
    · refine rs_plain rfl rfl fun a wr S => ?_
      have X := undrew S.ext
      obtain ⟨v45, e45, h45⟩ := S.got 45 (by kernel_rfl)
      exact wp_mv ((ev_of (e45 64 (by kernel_rfl))).trans h45) (done (by kernel_rfl) rbu_refl rfl)
    · refine rs_yes rfl rfl (by kernel_rfl) (by kernel_rfl : _ = some 65) (fun _ _ _ h => h) fun a wr S => ?_
      have X := undrew S.ext
      exact wp_mv (ev_of ((S.old 6 (by kernel_rfl)).trans rfl)) (done (by kernel_rfl) rbu_refl rfl)
    · refine rs_plain rfl rfl fun a wr S => ?_
      have X := undrew S.ext
      obtain ⟨v46, e46, h46⟩ := S.got 46 (by kernel_rfl)
      obtain ⟨v47, e47, h47⟩ := S.got 47 (by kernel_rfl)
      exact wp_pickT ((ev_of (e46 65 (by kernel_rfl))).trans h46) ((ev_of (e47 66 (by kernel_rfl))).trans h47) (done (by kernel_rfl) rbu_refl rfl)
    · refine rs_plain rfl rfl fun a wr S => ?_
      have X := undrew S.ext
      obtain ⟨v48, e48, h48⟩ := S.got 48 (by kernel_rfl)
      exact wp_mv ((ev_of (e48 67 (by kernel_rfl))).trans h48) (done (by kernel_rfl) rbu_refl rfl)
    · refine rs_yes rfl rfl (by kernel_rfl) (by kernel_rfl : _ = some 68) (fun _ _ _ h => h) fun a wr S => ?_
      have X := undrew S.ext
      exact wp_load (ev_of ((S.old 5 (by kernel_rfl)).trans rfl)) (PX.below X) (done (by kernel_rfl) rbu_refl (QX.below X))
    · refine rs_yes rfl rfl (by kernel_rfl) (by kernel_rfl : _ = some 68) (fun _ _ _ h => h) fun a wr S => ?_
      have X := undrew S.ext
      exact st_call cf_big_From (args1 rfl) (by kernel_rfl) rb (cFrom _ (by omega) (by omega) X.size) (fun _ _ _ h => h)
    · refine rs_yes rfl rfl (by kernel_rfl) (by kernel_rfl : _ = some 68) (fun _ _ _ h => h) fun a wr S => ?_
      have X := undrew S.ext
      obtain ⟨v50, e50, h50⟩ := S.got 50 (by kernel_rfl)
      obtain ⟨v51, e51, h51⟩ := S.got 51 (by kernel_rfl)
      exact st_call cf_law02_same (args2 (ev_of (e50 69 (by kernel_rfl))) (ev_of (e51 70 (by kernel_rfl)))) (by kernel_rfl) rb (cSame h50 h51.t (by omega) (by omega) (decide_eq_true (by decide))) (fun _ _ _ h => h)
    · refine rs_plain rfl rfl fun a wr S => ?_
      have X := undrew S.ext
      obtain ⟨v49, e49, h49⟩ := S.got 49 (by kernel_rfl)
      obtain ⟨v52, e52, h52⟩ := S.got 52 (by kernel_rfl)
      exact wp_pickT ((ev_of (e49 68 (by kernel_rfl))).trans h49) ((ev_of (e52 71 (by kernel_rfl))).trans h52) (done (by kernel_rfl) rbu_refl rfl)
    · refine rs_plain rfl rfl fun a wr S => ?_
      have X := undrew S.ext
      obtain ⟨v53, e53, h53⟩ := S.got 53 (by kernel_rfl)
      exact wp_as ((ev_of (e53 72 (by kernel_rfl))).trans h53) (done (by kernel_rfl) rbu_refl rfl)
  · intro f w' hR hv
    replace hR := undrew hR
    have f4 : f 4 = .bool true := (hvc (hv 4 (by omega))).elim fun _ h => h
    have f5 : f 5 = .bool true := (hvc (hv 5 (by omega))).elim fun _ h => h
    have f7 : f 7 = .bool true := (hvc (hv 7 (by omega))).elim fun _ h => h
    have f8 : f 8 = .bool true := (hvc (hv 8 (by omega))).elim fun _ h => h
    have f9 : f 9 = .bool true := (hvc (hv 9 (by omega))).elim fun _ h => h
    have f14 : f 14 = .bool true := (hvc (hv 14 (by omega))).elim fun _ h => h
    have f15 : f 15 = .bool true := (hvc (hv 15 (by omega))).elim fun _ h => h
    have f16 : f 16 = .bool true := (hvc (hv 16 (by omega))).elim fun _ h => h
    have f17 : f 17 = .bool true := (hvc (hv 17 (by omega))).elim fun _ h => h
    have f18 : f 18 = .bool true := (hvc (hv 18 (by omega))).elim fun _ h => h
    have f19 : f 19 = .bool true := (hvc (hv 19 (by omega))).elim fun _ h => h
    have f20 : f 20 = .bool true := (hvc (hv 20 (by omega))).elim fun _ h => h
    have f21 : f 21 = .bool true := (hvc (hv 21 (by omega))).elim fun _ h => h
    have f22 : f 22 = .bool true := (hvc (hv 22 (by omega))).elim fun _ h => h
    have f23 : f 23 = .bool true := (hvc (hv 23 (by omega))).elim fun _ h => h
    have f24 : f 24 = .bool true := (hvc (hv 24 (by omega))).elim fun _ h => h
    have f25 : f 25 = .bool true := (hvc (hv 25 (by omega))).elim fun _ h => h
    have f26 : f 26 = .bool true := (hvc (hv 26 (by omega))).elim fun _ h => h
    have f27 : f 27 = .bool true := (hvc (hv 27 (by omega))).elim fun _ h => h
    have f28 : f 28 = .bool true := (hvc (hv 28 (by omega))).elim fun _ h => h
    have f32 : f 32 = .bool true := (hvc (hv 32 (by omega))).elim fun _ h => h
    have f33 : f 33 = .bool true := (hvc (hv 33 (by omega))).elim fun _ h => h
    have f34 : f 34 = .bool true := (hvc (hv 34 (by omega))).elim fun _ h => h
    have f36 : f 36 = .bool true := (hvc (hv 36 (by omega))).elim fun _ h => h
    have f37 : f 37 = .bool true := (hvc (hv 37 (by omega))).elim fun _ h => h
    have f38 : f 38 = .bool true := (hvc (hv 38 (by omega))).elim fun _ h => h
    have f39 : f 39 = .bool false := (hvc (hv 39 (by omega))).elim fun _ h => h
    have f40 : f 40 = .bool true := (hvc (hv 40 (by omega))).elim fun _ h => h
    have f41 : f 41 = .bool true := (hvc (hv 41 (by omega))).elim fun _ h => h
    have f42 : f 42 = .bool true := (hvc (hv 42 (by omega))).elim fun _ h => h
    have f43 : f 43 = .bool false := (hvc (hv 43 (by omega))).elim fun _ h => h
    have f44 : f 44 = .bool true := (hvc (hv 44 (by omega))).elim fun _ h => h
    have f45 : f 45 = .bool true := (hvc (hv 45 (by omega))).elim fun _ h => h
    have f46 : f 46 = .bool true := (hvc (hv 46 (by omega))).elim fun _ h => h
    have f47 : f 47 = .bool true := (hvc (hv 47 (by omega))).elim fun _ h => h
    have f48 : f 48 = .bool true := (hvc (hv 48 (by omega))).elim fun _ h => h
    have f49 : f 49 = .bool true := (hvc (hv 49 (by omega))).elim fun _ h => h
    have f52 : f 52 = .bool true := (hvc (hv 52 (by omega))).elim fun _ h => h
    have f53 : f 53 = .bool true := (hvc (hv 53 (by omega))).elim fun _ h => h
    have f54 : f 54 = .bool true := (hvc (hv 54 (by omega))).elim fun _ h => h
    simp only [putFn, Act.put, List.setIfInBounds_toArray, List.set_cons_zero, List.set_cons_succ, f4, f5, f7, f8, f9, f14, f15, f16, f17, f18, f19, f20, f21, f22, f23, f24, f25, f26, f27, f28, f32, f33, f34, f36, f37, f38, f39, f40, f41, f42, f43, f44, f45, f46, f47, f48, f49, f52, f53, f54]
    go_wp2_with fail
    go_ret
    exact ⟨_, rfl, bl_trans BB hR, rfl⟩

end Go.Proofs.Ythjgonfohjgfaaa
