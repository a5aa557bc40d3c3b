/- litmuslaw02.BigFloor, one of its cases, answers true at every input, and changes nothing that was there: its walk. -/
import Derived.Test.YtebchniiiccghaaLBigFloor0
namespace Go.Proofs.Ytebchniiiccghaa
open Go.RowKit
set_option linter.unusedVariables false
set_option maxRecDepth 100000

set_option maxHeartbeats 4000000 in
theorem bigFloor_P1 (sa : Bool) (Aa : Option Addr) (na ca : Nat) (xa : List Nat) (sb : Bool) (Ab : Option Addr) (nb cb : Nat) (xb : List Nat) (sc : Bool) (Ac : Option Addr) (nc cc : Nat) (xc : List Nat) (za zb zc : Int) (w : World) (Ha : Hid (Rd w Aa na ca xa)) (Hb : Hid (Rd w Ab nb cb xb)) (Hc : Hid (Rd w Ac nc cc xc)) (Ga : Hid (na ≤ maxLen)) (Gb : Hid (nb ≤ maxLen)) (Gc : Hid (nc ≤ maxLen)) (BB : Below w.heap.size w (w.alloc (.cells #[.bool sa, .slice Aa na ca, .bool sb, .slice Ab nb cb, .bool sc, .slice Ac nc cc] 59))) (PV : Ar (w.alloc (.cells #[.bool sa, .slice Aa na ca, .bool sb, .slice Ab nb cb, .bool sc, .slice Ac nc cc] 59)) w.heap.size #[.bool sa, .slice Aa na ca, .bool sb, .slice Ab nb cb, .bool sc, .slice Ac nc cc] 59) (Qa : IsM (w.alloc (.cells #[.bool sa, .slice Aa na ca, .bool sb, .slice Ab nb cb, .bool sc, .slice Ac nc cc] 59)) (.agg #[.bool sa, .slice Aa (min na 20) ca]) za 20) (Qb : IsM (w.alloc (.cells #[.bool sa, .slice Aa na ca, .bool sb, .slice Ab nb cb, .bool sc, .slice Ac nc cc] 59)) (.agg #[.bool sb, .slice Ab (min nb 20) cb]) zb 20) (Qc : IsM (w.alloc (.cells #[.bool sa, .slice Aa na ca, .bool sb, .slice Ab nb cb, .bool sc, .slice Ac nc cc] 59)) (.agg #[.bool sc, .slice Ac (min nc 20) cc]) zc 20) (HB : Hid (zb ≠ 0)) (HE : Hid (zb * dq za zb + dr za zb = za)) (HP : Hid (dq (za * zb + dr zc zb) zb = za)) (HL : Hid (dr (za * zb + dr zc zb) zb = dr zc zb)) (HAG : Hid (zc ≠ 0 → dq (za * zc) (zb * zc) = dq za zb)) (HSB : Hid (sgn zb = 1)) (HSR : Hid (sgn (dr za zb) = 1)) (HCM : Hid (cmpI (dr za zb) zb = -1)) : Calls Try.prog 8 #[.agg #[.bool sa, .slice Aa na ca, .bool sb, .slice Ab nb cb, .bool sc, .slice Ac nc cc]] w fun e w' => e = .returned (.bool true) ∧ Below w.heap.size w w' := by
  go_enter Try.func8, Try.ntmps8
  go_wp2_with fail
  refine (cWorks _).mono ?_
  rintro e w1 ⟨_, rfl, hb1, rfl⟩
  replace PV := PV.below hb1
  replace Qa := Qa.below hb1
  replace Qb := Qb.below hb1
  replace Qc := Qc.below hb1
  replace BB := bl_trans BB hb1
  clear hb1
  go_wp2_with fail
  refine wp_region_list (Ext := (BelX (w1).heap.size)) (Rel := (BelU (w1).heap.size)) [fun v _ _ => v = .pointer (some ⟨w.heap.size, 0, none⟩), fun v _ _ => v = .agg #[.bool sa, .slice Aa na ca], fun v _ _ => v = .agg #[.bool sa, .slice Aa (min na 20) ca], fun v _ _ => v = .pointer (some ⟨w.heap.size, 2, none⟩), fun v _ _ => v = .agg #[.bool sb, .slice Ab nb cb], fun v _ _ => v = .agg #[.bool sb, .slice Ab (min nb 20) cb], fun v _ _ => v = .pointer (some ⟨w.heap.size, 4, none⟩), fun v _ _ => v = .agg #[.bool sc, .slice Ac nc cc], fun v _ _ => v = .agg #[.bool sc, .slice Ac (min nc 20) cc], fun v _ w => IsP (w1).heap.size v w, fun v _ w => IsP (w1).heap.size v w, fun v _ w => IsP (w1).heap.size v w, fun _ u w => HasC (w1).heap.size u w sa Aa (min na 20) ca, fun _ u w => HasC (w1).heap.size u w sb Ab (min nb 20) cb, fun _ u w => HasC (w1).heap.size u w sc Ac (min nc 20) cc] (n := 15) (by kernel_rfl) rfl (by kernel_rfl) (by kernel_rfl) (by kernel_rfl) (by kernel_rfl) (by kernel_rfl) (rx_refl _) (rxu_trans _) ⟨sC, ⟨sC, ⟨sC, ⟨sC, ⟨sC, ⟨sC, ⟨sC, ⟨sC, ⟨sC, ⟨xP, ⟨xP, ⟨xP, ⟨xHC, ⟨xHC, ⟨xHC, trivial⟩⟩⟩⟩⟩⟩⟩⟩⟩⟩⟩⟩⟩⟩⟩ ?_ ?_
  · refine ⟨⟨⟨⟨⟨⟨⟨⟨⟨⟨⟨⟨⟨⟨⟨trivial, ?_⟩, ?_⟩, ?_⟩, ?_⟩, ?_⟩, ?_⟩, ?_⟩, ?_⟩, ?_⟩, ?_⟩, ?_⟩, ?_⟩, ?_⟩, ?_⟩, ?_⟩
    · refine rs_plain rfl rfl fun a wr S => ?_
      have X := undrewX S.ext
      exact wp_idx0 (ev_of ((S.old 1 (by kernel_rfl)).trans rfl)) (done (by kernel_rfl) (rxu_refl _) rfl)
    · refine rs_plain rfl rfl fun a wr S => ?_
      have X := undrewX S.ext
      obtain ⟨v0, e0, h0⟩ := S.got 0 (by kernel_rfl)
      exact wp_loadAt ((ev_of (e0 20 (by kernel_rfl))).trans h0) ((PV.below X).at 0 rfl) ((PV.below X).at 1 rfl) (done (by kernel_rfl) (rxu_refl _) rfl)
    · refine rs_plain rfl rfl fun a wr S => ?_
      have X := undrewX S.ext
      obtain ⟨v1, e1, h1⟩ := S.got 1 (by kernel_rfl)
      exact st_call cf_law02_few (args2 ((ev_of (e1 21 (by kernel_rfl))).trans h1) rfl) (by kernel_rfl) (rxu _) (cFew (Ha.out.below (bl_trans BB X)) Ga.out 20 _ rfl (by omega)) (fun _ _ _ h => h)
    · refine rs_plain rfl rfl fun a wr S => ?_
      have X := undrewX S.ext
      exact wp_idx1 (ev_of ((S.old 1 (by kernel_rfl)).trans rfl)) (done (by kernel_rfl) (rxu_refl _) rfl)
    · refine rs_plain rfl rfl fun a wr S => ?_
      have X := undrewX S.ext
      obtain ⟨v3, e3, h3⟩ := S.got 3 (by kernel_rfl)
      exact wp_loadAt ((ev_of (e3 23 (by kernel_rfl))).trans h3) ((PV.below X).at 2 rfl) ((PV.below X).at 3 rfl) (done (by kernel_rfl) (rxu_refl _) rfl)
    · refine rs_plain rfl rfl fun a wr S => ?_
      have X := undrewX S.ext
      obtain ⟨v4, e4, h4⟩ := S.got 4 (by kernel_rfl)
      exact st_call cf_law02_few (args2 ((ev_of (e4 24 (by kernel_rfl))).trans h4) rfl) (by kernel_rfl) (rxu _) (cFew (Hb.out.below (bl_trans BB X)) Gb.out 20 _ rfl (by omega)) (fun _ _ _ h => h)
    · refine rs_plain rfl rfl fun a wr S => ?_
      have X := undrewX S.ext
      exact wp_idx2 (ev_of ((S.old 1 (by kernel_rfl)).trans rfl)) (done (by kernel_rfl) (rxu_refl _) rfl)
    · refine rs_plain rfl rfl fun a wr S => ?_
      have X := undrewX S.ext
      obtain ⟨v6, e6, h6⟩ := S.got 6 (by kernel_rfl)
      exact wp_loadAt ((ev_of (e6 26 (by kernel_rfl))).trans h6) ((PV.below X).at 4 rfl) ((PV.below X).at 5 rfl) (done (by kernel_rfl) (rxu_refl _) rfl)
    · refine rs_plain rfl rfl fun a wr S => ?_
      have X := undrewX S.ext
      obtain ⟨v7, e7, h7⟩ := S.got 7 (by kernel_rfl)
      exact st_call cf_law02_few (args2 ((ev_of (e7 27 (by kernel_rfl))).trans h7) rfl) (by kernel_rfl) (rxu _) (cFew (Hc.out.below (bl_trans BB X)) Gc.out 20 _ rfl (by omega)) (fun _ _ _ h => h)
    · refine rs_plain rfl rfl fun a wr S => ?_
      have X := undrewX S.ext
      refine st_alloc X.size (fun _ _ _ h => h) fun j vj u hj hs => ?_
      have hj' : j ∈ [9, 10, 11] := alloc_cases (by kernel_rfl) j hj
      simp only [List.mem_cons, List.not_mem_nil, or_false] at hj'
      rcases hj' with rfl | rfl | rfl <;> exact hs
    · refine rs_plain rfl rfl fun a wr S => ?_
      have X := undrewX S.ext
      refine st_alloc X.size (fun _ _ _ h => h) fun j vj u hj hs => ?_
      have hj' : j ∈ [9, 10, 11] := alloc_cases (by kernel_rfl) j hj
      simp only [List.mem_cons, List.not_mem_nil, or_false] at hj'
      rcases hj' with rfl | rfl | rfl <;> exact hs
    · refine rs_plain rfl rfl fun a wr S => ?_
      have X := undrewX S.ext
      refine st_alloc X.size (fun _ _ _ h => h) fun j vj u hj hs => ?_
      have hj' : j ∈ [9, 10, 11] := alloc_cases (by kernel_rfl) j hj
      simp only [List.mem_cons, List.not_mem_nil, or_false] at hj'
      rcases hj' with rfl | rfl | rfl <;> exact hs
    · refine rs_plain rfl rfl fun a wr S => ?_
      have X := undrewX S.ext
      obtain ⟨v9, e9, h9⟩ := S.got 9 (by kernel_rfl)
      obtain ⟨v2, e2, h2⟩ := S.got 2 (by kernel_rfl)
      exact st_storeC (by kernel_rfl) (by kernel_rfl) (ev_of (e9 3 (by kernel_rfl))) h9 ((ev_of (e2 22 (by kernel_rfl))).trans h2) (fun _ _ _ h => h)
    · refine rs_plain rfl rfl fun a wr S => ?_
      have X := undrewX S.ext
      obtain ⟨v10, e10, h10⟩ := S.got 10 (by kernel_rfl)
      obtain ⟨v5, e5, h5⟩ := S.got 5 (by kernel_rfl)
      exact st_storeC (by kernel_rfl) (by kernel_rfl) (ev_of (e10 4 (by kernel_rfl))) h10 ((ev_of (e5 25 (by kernel_rfl))).trans h5) (fun _ _ _ h => h)
    · refine rs_plain rfl rfl fun a wr S => ?_
      have X := undrewX S.ext
      obtain ⟨v11, e11, h11⟩ := S.got 11 (by kernel_rfl)
      obtain ⟨v8, e8, h8⟩ := S.got 8 (by kernel_rfl)
      exact st_storeC (by kernel_rfl) (by kernel_rfl) (ev_of (e11 5 (by kernel_rfl))) h11 ((ev_of (e8 28 (by kernel_rfl))).trans h8) (fun _ _ _ h => h)
  · intro f2_ w2 hR hv
    replace hR := undrewX hR
    have f0 : f2_ 0 = .pointer (some ⟨w.heap.size, 0, none⟩) := (hvc (hv 0 (by omega))).elim fun _ h => h
    have f1 : f2_ 1 = .agg #[.bool sa, .slice Aa na ca] := (hvc (hv 1 (by omega))).elim fun _ h => h
    have f2 : f2_ 2 = .agg #[.bool sa, .slice Aa (min na 20) ca] := (hvc (hv 2 (by omega))).elim fun _ h => h
    have f3 : f2_ 3 = .pointer (some ⟨w.heap.size, 2, none⟩) := (hvc (hv 3 (by omega))).elim fun _ h => h
    have f4 : f2_ 4 = .agg #[.bool sb, .slice Ab nb cb] := (hvc (hv 4 (by omega))).elim fun _ h => h
    have f5 : f2_ 5 = .agg #[.bool sb, .slice Ab (min nb 20) cb] := (hvc (hv 5 (by omega))).elim fun _ h => h
    have f6 : f2_ 6 = .pointer (some ⟨w.heap.size, 4, none⟩) := (hvc (hv 6 (by omega))).elim fun _ h => h
    have f7 : f2_ 7 = .agg #[.bool sc, .slice Ac nc cc] := (hvc (hv 7 (by omega))).elim fun _ h => h
    have f8 : f2_ 8 = .agg #[.bool sc, .slice Ac (min nc 20) cc] := (hvc (hv 8 (by omega))).elim fun _ h => h
    obtain ⟨ga, f9, hga, Pa⟩ := (show HasC _ (f2_ 9) w2 sa Aa (min na 20) ca from hvs (hv 12 (by omega)) (by kernel_rfl))
    obtain ⟨gb, f10, hgb, Pb⟩ := (show HasC _ (f2_ 10) w2 sb Ab (min nb 20) cb from hvs (hv 13 (by omega)) (by kernel_rfl))
    obtain ⟨gc, f11, hgc, Pc⟩ := (show HasC _ (f2_ 11) w2 sc Ac (min nc 20) cc from hvs (hv 14 (by omega)) (by kernel_rfl))
    simp only [putFn, Act.put, List.setIfInBounds_toArray, List.set_cons_zero, List.set_cons_succ, f0, f1, f2, f3, f4, f5, f6, f7, f8, f9, f10, f11]
    replace PV := PV.below hR
    replace Qa := Qa.below hR
    replace Qb := Qb.below hR
    replace Qc := Qc.below hR
    replace BB := bl_trans BB hR
    clear hR
    clear hga
    clear hgb
    clear hgc
    clear hv
    clear PV
    have Pa_0 := Pa.c0
    have Pa_1 := Pa.c1
    have Pb_0 := Pb.c0
    have Pb_1 := Pb.c1
    go_wp2_with fail
    refine (cDiv Qa Qb (by omega) (by omega) HB.out (Nat.le_refl _)).mono ?_
    rintro e w3 ⟨_, rfl, hb3, b3, A3, n3, c3, rfl, Z3⟩
    clear Pa_0 Pa_1 Pb_0 Pb_1
    replace Qa := Qa.below hb3
    replace Qb := Qb.below hb3
    replace Qc := Qc.below hb3
    replace Pa := Pa.below hb3
    replace Pb := Pb.below hb3
    replace Pc := Pc.below hb3
    replace BB := bl_trans BB hb3
    clear hb3
    have q3 : IsZ _ w3 (.agg #[.bool b3, .slice A3 n3 c3]) (dq za zb) 21 := ⟨_, _, _, _, rfl, Z3⟩
    clear Z3
    replace BB := bl_trans BB (bl_alloc w3 (.cells #[.bool b3, .slice A3 n3 c3] 32))
    replace Qa := Qa.below (bl_alloc _ (.cells #[.bool b3, .slice A3 n3 c3] 32))
    replace Qb := Qb.below (bl_alloc _ (.cells #[.bool b3, .slice A3 n3 c3] 32))
    replace Qc := Qc.below (bl_alloc _ (.cells #[.bool b3, .slice A3 n3 c3] 32))
    replace Pa := Pa.below (bl_alloc _ (.cells #[.bool b3, .slice A3 n3 c3] 32))
    replace Pb := Pb.below (bl_alloc _ (.cells #[.bool b3, .slice A3 n3 c3] 32))
    replace Pc := Pc.below (bl_alloc _ (.cells #[.bool b3, .slice A3 n3 c3] 32))
    replace q3 := q3.below (bl_alloc _ (.cells #[.bool b3, .slice A3 n3 c3] 32))
    have P4 := Bz.new w3 b3 A3 n3 c3
    have Pa_0 := Pa.c0
    have Pa_1 := Pa.c1
    have Pb_0 := Pb.c0
    have Pb_1 := Pb.c1
    go_wp2_with fail
    refine (cMod Qa Qb (by omega) (by omega) HB.out (Nat.le_refl _)).mono ?_
    rintro e w5 ⟨_, rfl, hb5, b5, A5, n5, c5, rfl, Z5⟩
    clear Pa_0 Pa_1 Pb_0 Pb_1
    replace Qa := Qa.below hb5
    replace Qb := Qb.below hb5
    replace Qc := Qc.below hb5
    replace Pa := Pa.below hb5
    replace Pb := Pb.below hb5
    replace Pc := Pc.below hb5
    replace q3 := q3.below hb5
    replace P4 := P4.below hb5
    replace BB := bl_trans BB hb5
    clear hb5
    have q5 : IsZ _ w5 (.agg #[.bool b5, .slice A5 n5 c5]) (dr za zb) 20 := ⟨_, _, _, _, rfl, Z5⟩
    clear Z5
    replace BB := bl_trans BB (bl_alloc w5 (.cells #[.bool b5, .slice A5 n5 c5] 32))
    replace Qa := Qa.below (bl_alloc _ (.cells #[.bool b5, .slice A5 n5 c5] 32))
    replace Qb := Qb.below (bl_alloc _ (.cells #[.bool b5, .slice A5 n5 c5] 32))
    replace Qc := Qc.below (bl_alloc _ (.cells #[.bool b5, .slice A5 n5 c5] 32))
    replace Pa := Pa.below (bl_alloc _ (.cells #[.bool b5, .slice A5 n5 c5] 32))
    replace Pb := Pb.below (bl_alloc _ (.cells #[.bool b5, .slice A5 n5 c5] 32))
    replace Pc := Pc.below (bl_alloc _ (.cells #[.bool b5, .slice A5 n5 c5] 32))
    replace q3 := q3.below (bl_alloc _ (.cells #[.bool b5, .slice A5 n5 c5] 32))
    replace P4 := P4.below (bl_alloc _ (.cells #[.bool b5, .slice A5 n5 c5] 32))
    replace q5 := q5.below (bl_alloc _ (.cells #[.bool b5, .slice A5 n5 c5] 32))
    have P6 := Bz.new w5 b5 A5 n5 c5
    have Pb_0 := Pb.c0
    have Pb_1 := Pb.c1
    go_wp2_with fail
    refine (cSign Qb (by omega) HSB.out).mono ?_
    rintro e w7 ⟨_, rfl, hb7, rfl⟩
    clear Pb_0 Pb_1
    replace Qa := Qa.below hb7
    replace Qb := Qb.below hb7
    replace Qc := Qc.below hb7
    replace Pa := Pa.below hb7
    replace Pb := Pb.below hb7
    replace Pc := Pc.below hb7
    replace q3 := q3.below hb7
    replace P4 := P4.below hb7
    replace q5 := q5.below hb7
    replace P6 := P6.below hb7
    replace BB := bl_trans BB hb7
    clear hb7
    go_wp2_with fail
    refine wp_region_list (Ext := RB) (Rel := RBu) [fun v _ _ => v = .int .i64 0, fun v _ _ => v = .bool false, fun v _ _ => v = .bool false, fun v _ _ => v = .int .i64 0, fun v _ _ => v = .bool false, fun v _ _ => v = .bool false, fun v _ _ => v = .bool false, fun v _ w => IsM w v (zb) 20, fun v _ w => IsT w v (dq za zb) 21, fun v _ w => IsR2 w v (zb) 20 (dq za zb) 21, fun v _ w => IsZ (w7).heap.size w v (zb * (dq za zb)) 41, fun v _ w => IsT w v (dr za zb) 20, fun v _ w => IsR2 w v (zb * (dq za zb)) 41 (dr za zb) 20, fun v _ w => IsZ (w7).heap.size w v ((zb * (dq za zb)) + (dr za zb)) 42, fun v _ w => IsM w v (za) 20, fun v _ w => IsR1 w v (za) 20, fun v _ w => IsZ (w7).heap.size w v (za) 21, fun v _ _ => v = .bool true, fun v _ _ => v = .bool false, fun v _ _ => v = .bool false, fun v _ _ => v = .bool false, fun v _ w => IsT w v (dr za zb) 20, fun v _ _ => v = .int .i64 1, fun v _ _ => v = .bool true, fun v _ _ => v = .bool true, fun v _ w => IsT w v (dr za zb) 20, fun v _ _ => v = .int .i64 1, fun v _ w => IsM w v (zb) 20, fun v _ _ => v = .int .i64 1, fun v _ _ => v = .bool false, fun v _ _ => v = .bool false, fun v _ _ => v = .bool false, fun v _ _ => v = .bool false, fun v _ w => IsM w v (zb) 20, fun v _ _ => v = .int .i64 1, fun v _ _ => v = .bool true, fun v _ _ => v = .bool true, fun v _ w => IsT w v (dr za zb) 20, fun v _ w => IsM w v (zb) 20, fun v _ _ => v = .int .i64 (-1), fun v _ _ => v = .bool false, fun v _ _ => v = .bool false, fun v _ _ => v = .bool false, fun v _ _ => v = .bool false, fun v _ w => IsM w v (zb) 20, fun v _ _ => v = .int .i64 1, fun v _ _ => v = .bool false, fun v _ _ => v = .bool false, fun v _ _ => v = undef, fun v _ _ => v = undef, fun v _ _ => v = undef, fun v _ _ => v = undef, fun v _ _ => v = Value.bool false, fun v _ _ => v = Value.bool false] (n := 54) (by kernel_rfl) rfl (by kernel_rfl) (by kernel_rfl) (by kernel_rfl) (by kernel_rfl) (by kernel_rfl) rb_refl rb_trans ⟨sC, ⟨sC, ⟨sC, ⟨sC, ⟨sC, ⟨sC, ⟨sC, ⟨sM, ⟨sT, ⟨sR2, ⟨sZ, ⟨sT, ⟨sR2, ⟨sZ, ⟨sM, ⟨sR1, ⟨sZ, ⟨sC, ⟨sC, ⟨sC, ⟨sC, ⟨sT, ⟨sC, ⟨sC, ⟨sC, ⟨sT, ⟨sC, ⟨sM, ⟨sC, ⟨sC, ⟨sC, ⟨sC, ⟨sC, ⟨sM, ⟨sC, ⟨sC, ⟨sC, ⟨sT, ⟨sM, ⟨sC, ⟨sC, ⟨sC, ⟨sC, ⟨sC, ⟨sM, ⟨sC, ⟨sC, ⟨sC, ⟨sC, ⟨sC, ⟨sC, ⟨sC, ⟨sC, ⟨sC, trivial⟩⟩⟩⟩⟩⟩⟩⟩⟩⟩⟩⟩⟩⟩⟩⟩⟩⟩⟩⟩⟩⟩⟩⟩⟩⟩⟩⟩⟩⟩⟩⟩⟩⟩⟩⟩⟩⟩⟩⟩⟩⟩⟩⟩⟩⟩⟩⟩⟩⟩⟩⟩⟩⟩ ?_ ?_
    · refine ⟨⟨⟨⟨⟨⟨⟨⟨⟨⟨⟨⟨⟨⟨⟨⟨⟨⟨⟨⟨⟨⟨⟨⟨⟨⟨⟨⟨⟨⟨⟨⟨⟨⟨⟨⟨⟨⟨⟨⟨⟨⟨⟨⟨⟨⟨⟨⟨⟨⟨⟨⟨⟨⟨trivial, ?_⟩, ?_⟩, ?_⟩, ?_⟩, ?_⟩, ?_⟩, ?_⟩, ?_⟩, ?_⟩, ?_⟩, ?_⟩, ?_⟩, ?_⟩, ?_⟩, ?_⟩, ?_⟩, ?_⟩, ?_⟩, ?_⟩, ?_⟩, ?_⟩, ?_⟩, ?_⟩, ?_⟩, ?_⟩, ?_⟩, ?_⟩, ?_⟩, ?_⟩, ?_⟩, ?_⟩, ?_⟩, ?_⟩, ?_⟩, ?_⟩, ?_⟩, ?_⟩, ?_⟩, ?_⟩, ?_⟩, ?_⟩, ?_⟩, ?_⟩, ?_⟩, ?_⟩, ?_⟩, ?_⟩, ?_⟩, ?_⟩, ?_⟩, ?_⟩, ?_⟩, ?_⟩, ?_⟩
      · refine rs_plain rfl rfl fun a wr S => ?_
        have X := undrew S.ext
        exact wp_mv (ev_of ((S.old 7 (by kernel_rfl)).trans rfl)) (done (by kernel_rfl) rbu_refl rfl)
      · refine rs_plain rfl rfl fun a wr S => ?_
        have X := undrew S.ext
        obtain ⟨v0, e0, h0⟩ := S.got 0 (by kernel_rfl)
        exact wp_neI ((ev_of (e0 60 (by kernel_rfl))).trans h0) rfl (Or.inr rfl) (done (by kernel_rfl) rbu_refl (congrArg Value.bool (by decide)))
      · refine rs_plain rfl rfl fun a wr S => ?_
        have X := undrew S.ext
        obtain ⟨v1, e1, h1⟩ := S.got 1 (by kernel_rfl)
        exact wp_mv ((ev_of (e1 61 (by kernel_rfl))).trans h1) (done (by kernel_rfl) rbu_refl rfl)
      · refine rs_yes rfl rfl (by kernel_rfl) (by kernel_rfl : _ = some 62) (fun _ _ _ h => h) fun a wr S => ?_
        have X := undrew S.ext
        exact wp_mv (ev_of ((S.old 9 (by kernel_rfl)).trans rfl)) (done (by kernel_rfl) rbu_refl rfl)
      · refine rs_yes rfl rfl (by kernel_rfl) (by kernel_rfl : _ = some 62) (fun _ _ _ h => h) fun a wr S => ?_
        have X := undrew S.ext
        obtain ⟨v3, e3, h3⟩ := S.got 3 (by kernel_rfl)
        exact wp_neI ((ev_of (e3 63 (by kernel_rfl))).trans h3) rfl (Or.inr rfl) (done (by kernel_rfl) rbu_refl (congrArg Value.bool (by decide)))
      · refine rs_plain rfl rfl fun a wr S => ?_
        have X := undrew S.ext
        obtain ⟨v2, e2, h2⟩ := S.got 2 (by kernel_rfl)
        obtain ⟨v4, e4, h4⟩ := S.got 4 (by kernel_rfl)
        exact wp_pickF ((ev_of (e2 62 (by kernel_rfl))).trans h2) ((ev_of (e4 64 (by kernel_rfl))).trans h4) (done (by kernel_rfl) rbu_refl rfl)
      · refine rs_plain rfl rfl fun a wr S => ?_
        have X := undrew S.ext
        obtain ⟨v5, e5, h5⟩ := S.got 5 (by kernel_rfl)
        exact wp_mv ((ev_of (e5 65 (by kernel_rfl))).trans h5) (done (by kernel_rfl) rbu_refl rfl)
      · refine rs_yes rfl rfl (by kernel_rfl) (by kernel_rfl : _ = some 66) (fun _ _ _ h => h) fun a wr S => ?_
        have X := undrew S.ext
        exact wp_load (ev_of ((S.old 4 (by kernel_rfl)).trans rfl)) (Pb.below X) (done (by kernel_rfl) rbu_refl (Qb.below X))
      · refine rs_yes rfl rfl (by kernel_rfl) (by kernel_rfl : _ = some 66) (fun _ _ _ h => h) fun a wr S => ?_
        have X := undrew S.ext
        exact wp_load (ev_of ((S.old 6 (by kernel_rfl)).trans rfl)) (P4.below X) (done (by kernel_rfl) rbu_refl (q3.below X).t)
      · refine rs_yes rfl rfl (by kernel_rfl) (by kernel_rfl : _ = some 66) (fun _ _ _ h => h) fun a wr S => ?_
        have X := undrew S.ext
        obtain ⟨v7, e7, h7⟩ := S.got 7 (by kernel_rfl)
        obtain ⟨v8, e8, h8⟩ := S.got 8 (by kernel_rfl)
        obtain ⟨b0, A0, n0, c0, hv0, Z0⟩ := (show IsM wr _ _ _ from h7)
        obtain ⟨b1, A1, n1, c1, hv1, Z1⟩ := (show IsM wr _ _ _ from h8.m)
        exact wp_bs2 ((ev_of (e7 67 (by kernel_rfl))).trans hv0) ((ev_of (e8 68 (by kernel_rfl))).trans hv1) (done' (by kernel_rfl) (rb _ _ _ (bl_alloc _ _)) (IsR2.new Z0 Z1))
      · refine rs_yes rfl rfl (by kernel_rfl) (by kernel_rfl : _ = some 66) (fun _ _ _ h => h) fun a wr S => ?_
        have X := undrew S.ext
        obtain ⟨v9, e9, h9⟩ := S.got 9 (by kernel_rfl)
        exact st_call cf_big_Mul (args1 (ev_of (e9 69 (by kernel_rfl)))) (by kernel_rfl) rb (cMul2 (z := zb) (u := (dq za zb)) h9 (by omega) (by omega) (by omega) X.size) (fun _ _ _ h => h)
      · refine rs_yes rfl rfl (by kernel_rfl) (by kernel_rfl : _ = some 66) (fun _ _ _ h => h) fun a wr S => ?_
        have X := undrew S.ext
        exact wp_load (ev_of ((S.old 8 (by kernel_rfl)).trans rfl)) (P6.below X) (done (by kernel_rfl) rbu_refl (q5.below X).t)
      · refine rs_yes rfl rfl (by kernel_rfl) (by kernel_rfl : _ = some 66) (fun _ _ _ h => h) fun a wr S => ?_
        have X := undrew S.ext
        obtain ⟨v10, e10, h10⟩ := S.got 10 (by kernel_rfl)
        obtain ⟨v11, e11, h11⟩ := S.got 11 (by kernel_rfl)
        obtain ⟨b0, A0, n0, c0, hv0, Z0⟩ := (show IsM wr _ _ _ from h10.m)
        obtain ⟨b1, A1, n1, c1, hv1, Z1⟩ := (show IsM wr _ _ _ from h11.m)
        exact wp_bs2 ((ev_of (e10 70 (by kernel_rfl))).trans hv0) ((ev_of (e11 71 (by kernel_rfl))).trans hv1) (done' (by kernel_rfl) (rb _ _ _ (bl_alloc _ _)) (IsR2.new Z0 Z1))
      · refine rs_yes rfl rfl (by kernel_rfl) (by kernel_rfl : _ = some 66) (fun _ _ _ h => h) fun a wr S => ?_
        have X := undrew S.ext
        obtain ⟨v12, e12, h12⟩ := S.got 12 (by kernel_rfl)
        exact st_call cf_big_Add (args1 (ev_of (e12 72 (by kernel_rfl)))) (by kernel_rfl) rb (cAdd2 (z := (zb * (dq za zb))) (u := (dr za zb)) h12 (by omega) (by omega) X.size) (fun _ _ _ h => h)
      · refine rs_yes rfl rfl (by kernel_rfl) (by kernel_rfl : _ = some 66) (fun _ _ _ h => h) fun a wr S => ?_
        have X := undrew S.ext
        exact wp_load (ev_of ((S.old 3 (by kernel_rfl)).trans rfl)) (Pa.below X) (done (by kernel_rfl) rbu_refl (Qa.below X))
      · refine rs_yes rfl rfl (by kernel_rfl) (by kernel_rfl : _ = some 66) (fun _ _ _ h => h) fun a wr S => ?_
        have X := undrew S.ext
        obtain ⟨v14, e14, h14⟩ := S.got 14 (by kernel_rfl)
        obtain ⟨b0, A0, n0, c0, hv0, Z0⟩ := (show IsM wr _ _ _ from h14)
        exact wp_bs1 ((ev_of (e14 74 (by kernel_rfl))).trans hv0) (done' (by kernel_rfl) (rb _ _ _ (bl_alloc _ _)) (IsR1.new Z0))
      · refine rs_yes rfl rfl (by kernel_rfl) (by kernel_rfl : _ = some 66) (fun _ _ _ h => h) fun a wr S => ?_
        have X := undrew S.ext
        obtain ⟨v15, e15, h15⟩ := S.got 15 (by kernel_rfl)
        exact st_call cf_big_Add (args1 (ev_of (e15 75 (by kernel_rfl)))) (by kernel_rfl) rb (cAdd1 h15 (by omega) X.size) (fun _ _ _ h => h)
      · refine rs_yes rfl rfl (by kernel_rfl) (by kernel_rfl : _ = some 66) (fun _ _ _ h => h) fun a wr S => ?_
        have X := undrew S.ext
        obtain ⟨v13, e13, h13⟩ := S.got 13 (by kernel_rfl)
        obtain ⟨v16, e16, h16⟩ := S.got 16 (by kernel_rfl)
        exact st_call cf_law02_same (args2 (ev_of (e13 73 (by kernel_rfl))) (ev_of (e16 76 (by kernel_rfl)))) (by kernel_rfl) rb (cSame h13.t h16.t (by omega) (by omega) (decide_eq_true (HE.out))) (fun _ _ _ h => h)
      · refine rs_yes rfl rfl (by kernel_rfl) (by kernel_rfl : _ = some 66) (fun _ _ _ h => h) fun a wr S => ?_
        have X := undrew S.ext
        obtain ⟨v17, e17, h17⟩ := S.got 17 (by kernel_rfl)
        exact wp_not ((ev_of (e17 77 (by kernel_rfl))).trans h17) (done (by kernel_rfl) rbu_refl rfl)
      · refine rs_plain rfl rfl fun a wr S => ?_
        have X := undrew S.ext
        obtain ⟨v6, e6, h6⟩ := S.got 6 (by kernel_rfl)
        obtain ⟨v18, e18, h18⟩ := S.got 18 (by kernel_rfl)
        exact wp_pickF ((ev_of (e6 66 (by kernel_rfl))).trans h6) ((ev_of (e18 78 (by kernel_rfl))).trans h18) (done (by kernel_rfl) rbu_refl rfl)
      · refine rs_plain rfl rfl fun a wr S => ?_
        have X := undrew S.ext
        obtain ⟨v19, e19, h19⟩ := S.got 19 (by kernel_rfl)
        exact wp_mv ((ev_of (e19 79 (by kernel_rfl))).trans h19) (done (by kernel_rfl) rbu_refl rfl)
      · refine rs_yes rfl rfl (by kernel_rfl) (by kernel_rfl : _ = some 80) (fun _ _ _ h => h) fun a wr S => ?_
        have X := undrew S.ext
        exact wp_load (ev_of ((S.old 8 (by kernel_rfl)).trans rfl)) (P6.below X) (done (by kernel_rfl) rbu_refl (q5.below X).t)
      · refine rs_yes rfl rfl (by kernel_rfl) (by kernel_rfl : _ = some 80) (fun _ _ _ h => h) fun a wr S => ?_
        have X := undrew S.ext
        obtain ⟨v21, e21, h21⟩ := S.got 21 (by kernel_rfl)
        exact st_call cf_big_Sign (args1 (ev_of (e21 81 (by kernel_rfl)))) (by kernel_rfl) rb (cSign h21.m (by omega) HSR.out) (fun _ _ _ h => h)
      · refine rs_yes rfl rfl (by kernel_rfl) (by kernel_rfl : _ = some 80) (fun _ _ _ h => h) fun a wr S => ?_
        have X := undrew S.ext
        obtain ⟨v22, e22, h22⟩ := S.got 22 (by kernel_rfl)
        exact wp_neI ((ev_of (e22 82 (by kernel_rfl))).trans h22) rfl (Or.inl rfl) (done (by kernel_rfl) rbu_refl (congrArg Value.bool (by decide)))
      · refine rs_yes rfl rfl (by kernel_rfl) (by kernel_rfl : _ = some 80) (fun _ _ _ h => h) fun a wr S => ?_
        have X := undrew S.ext
        obtain ⟨v23, e23, h23⟩ := S.got 23 (by kernel_rfl)
        exact wp_mv ((ev_of (e23 83 (by kernel_rfl))).trans h23) (done (by kernel_rfl) rbu_refl rfl)
      · refine rs_yes rfl rfl (by kernel_rfl) (by kernel_rfl : _ = some 84) (fun _ _ _ h => h) fun a wr S => ?_
        have X := undrew S.ext
        exact wp_load (ev_of ((S.old 8 (by kernel_rfl)).trans rfl)) (P6.below X) (done (by kernel_rfl) rbu_refl (q5.below X).t)
      · refine rs_yes rfl rfl (by kernel_rfl) (by kernel_rfl : _ = some 84) (fun _ _ _ h => h) fun a wr S => ?_
        have X := undrew S.ext
        obtain ⟨v25, e25, h25⟩ := S.got 25 (by kernel_rfl)
        exact st_call cf_big_Sign (args1 (ev_of (e25 85 (by kernel_rfl)))) (by kernel_rfl) rb (cSign h25.m (by omega) HSR.out) (fun _ _ _ h => h)
      · refine rs_yes rfl rfl (by kernel_rfl) (by kernel_rfl : _ = some 84) (fun _ _ _ h => h) fun a wr S => ?_
        have X := undrew S.ext
        exact wp_load (ev_of ((S.old 4 (by kernel_rfl)).trans rfl)) (Pb.below X) (done (by kernel_rfl) rbu_refl (Qb.below X))
      · refine rs_yes rfl rfl (by kernel_rfl) (by kernel_rfl : _ = some 84) (fun _ _ _ h => h) fun a wr S => ?_
        have X := undrew S.ext
        obtain ⟨v27, e27, h27⟩ := S.got 27 (by kernel_rfl)
        exact st_call cf_big_Sign (args1 (ev_of (e27 87 (by kernel_rfl)))) (by kernel_rfl) rb (cSign h27 (by omega) HSB.out) (fun _ _ _ h => h)
      · refine rs_yes rfl rfl (by kernel_rfl) (by kernel_rfl : _ = some 84) (fun _ _ _ h => h) fun a wr S => ?_
        have X := undrew S.ext
        obtain ⟨v26, e26, h26⟩ := S.got 26 (by kernel_rfl)
        obtain ⟨v28, e28, h28⟩ := S.got 28 (by kernel_rfl)
        exact wp_neI ((ev_of (e26 86 (by kernel_rfl))).trans h26) ((ev_of (e28 88 (by kernel_rfl))).trans h28) (Or.inl rfl) (done (by kernel_rfl) rbu_refl (congrArg Value.bool (by decide)))
      · refine rs_yes rfl rfl (by kernel_rfl) (by kernel_rfl : _ = some 80) (fun _ _ _ h => h) fun a wr S => ?_
        have X := undrew S.ext
        obtain ⟨v24, e24, h24⟩ := S.got 24 (by kernel_rfl)
        obtain ⟨v29, e29, h29⟩ := S.got 29 (by kernel_rfl)
        exact wp_pickT ((ev_of (e24 84 (by kernel_rfl))).trans h24) ((ev_of (e29 89 (by kernel_rfl))).trans h29) (done (by kernel_rfl) rbu_refl rfl)
      · refine rs_plain rfl rfl fun a wr S => ?_
        have X := undrew S.ext
        obtain ⟨v20, e20, h20⟩ := S.got 20 (by kernel_rfl)
        obtain ⟨v30, e30, h30⟩ := S.got 30 (by kernel_rfl)
        exact wp_pickF ((ev_of (e20 80 (by kernel_rfl))).trans h20) ((ev_of (e30 90 (by kernel_rfl))).trans h30) (done (by kernel_rfl) rbu_refl rfl)
      · refine rs_plain rfl rfl fun a wr S => ?_
        have X := undrew S.ext
        obtain ⟨v31, e31, h31⟩ := S.got 31 (by kernel_rfl)
        exact wp_mv ((ev_of (e31 91 (by kernel_rfl))).trans h31) (done (by kernel_rfl) rbu_refl rfl)
      · refine rs_yes rfl rfl (by kernel_rfl) (by kernel_rfl : _ = some 92) (fun _ _ _ h => h) fun a wr S => ?_
        have X := undrew S.ext
        exact wp_load (ev_of ((S.old 4 (by kernel_rfl)).trans rfl)) (Pb.below X) (done (by kernel_rfl) rbu_refl (Qb.below X))
      · refine rs_yes rfl rfl (by kernel_rfl) (by kernel_rfl : _ = some 92) (fun _ _ _ h => h) fun a wr S => ?_
        have X := undrew S.ext
        obtain ⟨v33, e33, h33⟩ := S.got 33 (by kernel_rfl)
        exact st_call cf_big_Sign (args1 (ev_of (e33 93 (by kernel_rfl)))) (by kernel_rfl) rb (cSign h33 (by omega) HSB.out) (fun _ _ _ h => h)
      · refine rs_yes rfl rfl (by kernel_rfl) (by kernel_rfl : _ = some 92) (fun _ _ _ h => h) fun a wr S => ?_
        have X := undrew S.ext
        obtain ⟨v34, e34, h34⟩ := S.got 34 (by kernel_rfl)
        exact wp_gtI ((ev_of (e34 94 (by kernel_rfl))).trans h34) rfl (done (by kernel_rfl) rbu_refl (congrArg Value.bool (by decide)))
      · refine rs_yes rfl rfl (by kernel_rfl) (by kernel_rfl : _ = some 92) (fun _ _ _ h => h) fun a wr S => ?_
        have X := undrew S.ext
        obtain ⟨v35, e35, h35⟩ := S.got 35 (by kernel_rfl)
        exact wp_mv ((ev_of (e35 95 (by kernel_rfl))).trans h35) (done (by kernel_rfl) rbu_refl rfl)
      · refine rs_yes rfl rfl (by kernel_rfl) (by kernel_rfl : _ = some 96) (fun _ _ _ h => h) fun a wr S => ?_
        have X := undrew S.ext
        exact wp_load (ev_of ((S.old 8 (by kernel_rfl)).trans rfl)) (P6.below X) (done (by kernel_rfl) rbu_refl (q5.below X).t)
      · refine rs_yes rfl rfl (by kernel_rfl) (by kernel_rfl : _ = some 96) (fun _ _ _ h => h) fun a wr S => ?_
        have X := undrew S.ext
        exact wp_load (ev_of ((S.old 4 (by kernel_rfl)).trans rfl)) (Pb.below X) (done (by kernel_rfl) rbu_refl (Qb.below X))
      · refine rs_yes rfl rfl (by kernel_rfl) (by kernel_rfl : _ = some 96) (fun _ _ _ h => h) fun a wr S => ?_
        have X := undrew S.ext
        obtain ⟨v37, e37, h37⟩ := S.got 37 (by kernel_rfl)
        obtain ⟨v38, e38, h38⟩ := S.got 38 (by kernel_rfl)
        exact st_call cf_big_Cmp (args2 (ev_of (e37 97 (by kernel_rfl))) (ev_of (e38 98 (by kernel_rfl)))) (by kernel_rfl) rb (cCmp h37.m h38 (by omega) (by omega) HCM.out) (fun _ _ _ h => h)
      · refine rs_yes rfl rfl (by kernel_rfl) (by kernel_rfl : _ = some 96) (fun _ _ _ h => h) fun a wr S => ?_
        have X := undrew S.ext
        obtain ⟨v39, e39, h39⟩ := S.got 39 (by kernel_rfl)
        exact wp_geI ((ev_of (e39 99 (by kernel_rfl))).trans h39) rfl (done (by kernel_rfl) rbu_refl (congrArg Value.bool (by decide)))
      · refine rs_yes rfl rfl (by kernel_rfl) (by kernel_rfl : _ = some 92) (fun _ _ _ h => h) fun a wr S => ?_
        have X := undrew S.ext
        obtain ⟨v36, e36, h36⟩ := S.got 36 (by kernel_rfl)
        obtain ⟨v40, e40, h40⟩ := S.got 40 (by kernel_rfl)
        exact wp_pickT ((ev_of (e36 96 (by kernel_rfl))).trans h36) ((ev_of (e40 100 (by kernel_rfl))).trans h40) (done (by kernel_rfl) rbu_refl rfl)
      · refine rs_plain rfl rfl fun a wr S => ?_
        have X := undrew S.ext
        obtain ⟨v32, e32, h32⟩ := S.got 32 (by kernel_rfl)
        obtain ⟨v41, e41, h41⟩ := S.got 41 (by kernel_rfl)
        exact wp_pickF ((ev_of (e32 92 (by kernel_rfl))).trans h32) ((ev_of (e41 101 (by kernel_rfl))).trans h41) (done (by kernel_rfl) rbu_refl rfl)
      · refine rs_plain rfl rfl fun a wr S => ?_
        have X := undrew S.ext
        obtain ⟨v42, e42, h42⟩ := S.got 42 (by kernel_rfl)
        exact wp_mv ((ev_of (e42 102 (by kernel_rfl))).trans h42) (done (by kernel_rfl) rbu_refl rfl)
      · refine rs_yes rfl rfl (by kernel_rfl) (by kernel_rfl : _ = some 103) (fun _ _ _ h => h) fun a wr S => ?_
        have X := undrew S.ext
        exact wp_load (ev_of ((S.old 4 (by kernel_rfl)).trans rfl)) (Pb.below X) (done (by kernel_rfl) rbu_refl (Qb.below X))
      · refine rs_yes rfl rfl (by kernel_rfl) (by kernel_rfl : _ = some 103) (fun _ _ _ h => h) fun a wr S => ?_
        have X := undrew S.ext
        obtain ⟨v44, e44, h44⟩ := S.got 44 (by kernel_rfl)
        exact st_call cf_big_Sign (args1 (ev_of (e44 104 (by kernel_rfl)))) (by kernel_rfl) rb (cSign h44 (by omega) HSB.out) (fun _ _ _ h => h)
      · refine rs_yes rfl rfl (by kernel_rfl) (by kernel_rfl : _ = some 103) (fun _ _ _ h => h) fun a wr S => ?_
        have X := undrew S.ext
        obtain ⟨v45, e45, h45⟩ := S.got 45 (by kernel_rfl)
        exact wp_ltI ((ev_of (e45 105 (by kernel_rfl))).trans h45) rfl (done (by kernel_rfl) rbu_refl (congrArg Value.bool (by decide)))
      · refine rs_yes rfl rfl (by kernel_rfl) (by kernel_rfl : _ = some 103) (fun _ _ _ h => h) fun a wr S => ?_
        have X := undrew S.ext
        obtain ⟨v46, e46, h46⟩ := S.got 46 (by kernel_rfl)
        exact wp_mv ((ev_of (e46 106 (by kernel_rfl))).trans h46) (done (by kernel_rfl) rbu_refl rfl)
      · exact rs_no rfl rfl (by kernel_rfl) (by kernel_rfl : _ = some 107) (fun _ _ _ h => h) (by kernel_rfl) rbu_refl (fun _ _ => rfl)
      · exact rs_no rfl rfl (by kernel_rfl) (by kernel_rfl : _ = some 107) (fun _ _ _ h => h) (by kernel_rfl) rbu_refl (fun _ _ => rfl)
      · exact rs_no rfl rfl (by kernel_rfl) (by kernel_rfl : _ = some 107) (fun _ _ _ h => h) (by kernel_rfl) rbu_refl (fun _ _ => rfl)
      · exact rs_no rfl rfl (by kernel_rfl) (by kernel_rfl : _ = some 107) (fun _ _ _ h => h) (by kernel_rfl) rbu_refl (fun _ _ => rfl)
      · refine rs_yes rfl rfl (by kernel_rfl) (by kernel_rfl : _ = some 103) (fun _ _ _ h => h) fun a wr S => ?_
        have X := undrew S.ext
        obtain ⟨v47, e47, h47⟩ := S.got 47 (by kernel_rfl)
        exact wp_pickF ((ev_of (e47 107 (by kernel_rfl))).trans h47) rfl (done (by kernel_rfl) rbu_refl rfl)
      · refine rs_plain rfl rfl fun a wr S => ?_
        have X := undrew S.ext
        obtain ⟨v43, e43, h43⟩ := S.got 43 (by kernel_rfl)
        obtain ⟨v52, e52, h52⟩ := S.got 52 (by kernel_rfl)
        exact wp_pickF ((ev_of (e43 103 (by kernel_rfl))).trans h43) ((ev_of (e52 112 (by kernel_rfl))).trans h52) (done (by kernel_rfl) rbu_refl rfl)
    · intro f8_ w8 hR hv
      replace hR := undrew hR
      have f0 : f8_ 0 = .int .i64 0 := (hvc (hv 0 (by omega))).elim fun _ h => h
      have f1 : f8_ 1 = .bool false := (hvc (hv 1 (by omega))).elim fun _ h => h
      have f2 : f8_ 2 = .bool false := (hvc (hv 2 (by omega))).elim fun _ h => h
      have f3 : f8_ 3 = .int .i64 0 := (hvc (hv 3 (by omega))).elim fun _ h => h
      have f4 : f8_ 4 = .bool false := (hvc (hv 4 (by omega))).elim fun _ h => h
      have f5 : f8_ 5 = .bool false := (hvc (hv 5 (by omega))).elim fun _ h => h
      have f6 : f8_ 6 = .bool false := (hvc (hv 6 (by omega))).elim fun _ h => h
      have f17 : f8_ 17 = .bool true := (hvc (hv 17 (by omega))).elim fun _ h => h
      have f18 : f8_ 18 = .bool false := (hvc (hv 18 (by omega))).elim fun _ h => h
      have f19 : f8_ 19 = .bool false := (hvc (hv 19 (by omega))).elim fun _ h => h
      have f20 : f8_ 20 = .bool false := (hvc (hv 20 (by omega))).elim fun _ h => h
      have f22 : f8_ 22 = .int .i64 1 := (hvc (hv 22 (by omega))).elim fun _ h => h
      have f23 : f8_ 23 = .bool true := (hvc (hv 23 (by omega))).elim fun _ h => h
      have f24 : f8_ 24 = .bool true := (hvc (hv 24 (by omega))).elim fun _ h => h
      have f26 : f8_ 26 = .int .i64 1 := (hvc (hv 26 (by omega))).elim fun _ h => h
      have f28 : f8_ 28 = .int .i64 1 := (hvc (hv 28 (by omega))).elim fun _ h => h
      have f29 : f8_ 29 = .bool false := (hvc (hv 29 (by omega))).elim fun _ h => h
      have f30 : f8_ 30 = .bool false := (hvc (hv 30 (by omega))).elim fun _ h => h
      have f31 : f8_ 31 = .bool false := (hvc (hv 31 (by omega))).elim fun _ h => h
      have f32 : f8_ 32 = .bool false := (hvc (hv 32 (by omega))).elim fun _ h => h
      have f34 : f8_ 34 = .int .i64 1 := (hvc (hv 34 (by omega))).elim fun _ h => h
      have f35 : f8_ 35 = .bool true := (hvc (hv 35 (by omega))).elim fun _ h => h
      have f36 : f8_ 36 = .bool true := (hvc (hv 36 (by omega))).elim fun _ h => h
      have f39 : f8_ 39 = .int .i64 (-1) := (hvc (hv 39 (by omega))).elim fun _ h => h
      have f40 : f8_ 40 = .bool false := (hvc (hv 40 (by omega))).elim fun _ h => h
      have f41 : f8_ 41 = .bool false := (hvc (hv 41 (by omega))).elim fun _ h => h
      have f42 : f8_ 42 = .bool false := (hvc (hv 42 (by omega))).elim fun _ h => h
      have f43 : f8_ 43 = .bool false := (hvc (hv 43 (by omega))).elim fun _ h => h
      have f45 : f8_ 45 = .int .i64 1 := (hvc (hv 45 (by omega))).elim fun _ h => h
      have f46 : f8_ 46 = .bool false := (hvc (hv 46 (by omega))).elim fun _ h => h
      have f47 : f8_ 47 = .bool false := (hvc (hv 47 (by omega))).elim fun _ h => h
      have f48 : f8_ 48 = undef := (hvc (hv 48 (by omega))).elim fun _ h => h
      have f49 : f8_ 49 = undef := (hvc (hv 49 (by omega))).elim fun _ h => h
      have f50 : f8_ 50 = undef := (hvc (hv 50 (by omega))).elim fun _ h => h
      have f51 : f8_ 51 = undef := (hvc (hv 51 (by omega))).elim fun _ h => h
      have f52 : f8_ 52 = Value.bool false := (hvc (hv 52 (by omega))).elim fun _ h => h
      have f53 : f8_ 53 = Value.bool false := (hvc (hv 53 (by omega))).elim fun _ h => h
      simp only [putFn, Act.put, List.setIfInBounds_toArray, List.set_cons_zero, List.set_cons_succ, f0, f1, f2, f3, f4, f5, f6, f17, f18, f19, f20, f22, f23, f24, f26, f28, f29, f30, f31, f32, f34, f35, f36, f39, f40, f41, f42, f43, f45, f46, f47, f48, f49, f50, f51, f52, f53]
      replace Qa := Qa.below hR
      replace Qb := Qb.below hR
      replace Qc := Qc.below hR
      replace Pa := Pa.below hR
      replace Pb := Pb.below hR
      replace Pc := Pc.below hR
      replace q3 := q3.below hR
      replace P4 := P4.below hR
      replace q5 := q5.below hR
      replace P6 := P6.below hR
      replace BB := bl_trans BB hR
      clear hR
      clear hv
      clear HE HSB HSR HCM
      have Pc_0 := Pc.c0
      have Pc_1 := Pc.c1
      have Pb_0 := Pb.c0
      have Pb_1 := Pb.c1
      go_wp2_with fail
      refine (cMod Qc Qb (by omega) (by omega) HB.out (Nat.le_refl _)).mono ?_
      rintro e w9 ⟨_, rfl, hb9, b9, A9, n9, c9, rfl, Z9⟩
      clear Pc_0 Pc_1 Pb_0 Pb_1
      replace Qa := Qa.below hb9
      replace Qb := Qb.below hb9
      replace Qc := Qc.below hb9
      replace Pa := Pa.below hb9
      replace Pb := Pb.below hb9
      replace Pc := Pc.below hb9
      replace q3 := q3.below hb9
      replace P4 := P4.below hb9
      replace q5 := q5.below hb9
      replace P6 := P6.below hb9
      replace BB := bl_trans BB hb9
      clear hb9
      have q9 : IsZ _ w9 (.agg #[.bool b9, .slice A9 n9 c9]) (dr zc zb) 20 := ⟨_, _, _, _, rfl, Z9⟩
      clear Z9
      replace BB := bl_trans BB (bl_alloc w9 (.cells #[.bool b9, .slice A9 n9 c9] 32))
      replace Qa := Qa.below (bl_alloc _ (.cells #[.bool b9, .slice A9 n9 c9] 32))
      replace Qb := Qb.below (bl_alloc _ (.cells #[.bool b9, .slice A9 n9 c9] 32))
      replace Qc := Qc.below (bl_alloc _ (.cells #[.bool b9, .slice A9 n9 c9] 32))
      replace Pa := Pa.below (bl_alloc _ (.cells #[.bool b9, .slice A9 n9 c9] 32))
      replace Pb := Pb.below (bl_alloc _ (.cells #[.bool b9, .slice A9 n9 c9] 32))
      replace Pc := Pc.below (bl_alloc _ (.cells #[.bool b9, .slice A9 n9 c9] 32))
      replace q3 := q3.below (bl_alloc _ (.cells #[.bool b9, .slice A9 n9 c9] 32))
      replace P4 := P4.below (bl_alloc _ (.cells #[.bool b9, .slice A9 n9 c9] 32))
      replace q5 := q5.below (bl_alloc _ (.cells #[.bool b9, .slice A9 n9 c9] 32))
      replace P6 := P6.below (bl_alloc _ (.cells #[.bool b9, .slice A9 n9 c9] 32))
      replace q9 := q9.below (bl_alloc _ (.cells #[.bool b9, .slice A9 n9 c9] 32))
      have P10 := Bz.new w9 b9 A9 n9 c9
      go_wp2_with fail
      refine wp_region_list (Ext := (BelX ((w9.alloc (.cells #[.bool b9, .slice A9 n9 c9] 32))).heap.size)) (Rel := (BelU ((w9.alloc (.cells #[.bool b9, .slice A9 n9 c9] 32))).heap.size)) [fun v _ w => IsM w v (za) 20, fun v _ w => IsM w v (zb) 20, fun v _ w => IsR2 w v (za) 20 (zb) 20, fun v _ w => IsZ ((w9.alloc (.cells #[.bool b9, .slice A9 n9 c9] 32))).heap.size w v (za * zb) 40, fun v _ w => IsT w v (dr zc zb) 20, fun v _ w => IsR2 w v (za * zb) 40 (dr zc zb) 20, fun v _ w => IsZ ((w9.alloc (.cells #[.bool b9, .slice A9 n9 c9] 32))).heap.size w v ((za * zb) + (dr zc zb)) 41, fun v _ w => IsM w v (zb) 20, fun v _ w => IsZE ((w9.alloc (.cells #[.bool b9, .slice A9 n9 c9] 32))).heap.size w v (dq ((za * zb) + (dr zc zb)) zb) 42 0, fun v _ w => IsZE ((w9.alloc (.cells #[.bool b9, .slice A9 n9 c9] 32))).heap.size w v (dq ((za * zb) + (dr zc zb)) zb) 42 0, fun v _ w => IsZ ((w9.alloc (.cells #[.bool b9, .slice A9 n9 c9] 32))).heap.size w v (dq ((za * zb) + (dr zc zb)) zb) 42, fun v _ _ => v = .int .i64 0, fun v _ w => IsP ((w9.alloc (.cells #[.bool b9, .slice A9 n9 c9] 32))).heap.size v w, fun _ u w => HasZ ((w9.alloc (.cells #[.bool b9, .slice A9 n9 c9] 32))).heap.size u w (dq ((za * zb) + (dr zc zb)) zb) 42, fun v _ _ => v = .int .i64 0] (n := 15) (by kernel_rfl) rfl (by kernel_rfl) (by kernel_rfl) (by kernel_rfl) (by kernel_rfl) (by kernel_rfl) (rx_refl _) (rxu_trans _) ⟨xM, ⟨xM, ⟨xR2, ⟨xZ, ⟨xT, ⟨xR2, ⟨xZ, ⟨xM, ⟨xZE, ⟨xZE, ⟨xZ, ⟨sC, ⟨xP, ⟨xHZ, ⟨sC, trivial⟩⟩⟩⟩⟩⟩⟩⟩⟩⟩⟩⟩⟩⟩⟩ ?_ ?_
      · refine ⟨⟨⟨⟨⟨⟨⟨⟨⟨⟨⟨⟨⟨⟨⟨trivial, ?_⟩, ?_⟩, ?_⟩, ?_⟩, ?_⟩, ?_⟩, ?_⟩, ?_⟩, ?_⟩, ?_⟩, ?_⟩, ?_⟩, ?_⟩, ?_⟩, ?_⟩
        · refine rs_plain rfl rfl fun a wr S => ?_
          have X := undrewX S.ext
          exact wp_load (ev_of ((S.old 3 (by kernel_rfl)).trans rfl)) (Pa.below X) (done (by kernel_rfl) (rxu_refl _) (Qa.below X))
        · refine rs_plain rfl rfl fun a wr S => ?_
          have X := undrewX S.ext
          exact wp_load (ev_of ((S.old 4 (by kernel_rfl)).trans rfl)) (Pb.below X) (done (by kernel_rfl) (rxu_refl _) (Qb.below X))
        · refine rs_plain rfl rfl fun a wr S => ?_
          have X := undrewX S.ext
          obtain ⟨v0, e0, h0⟩ := S.got 0 (by kernel_rfl)
          obtain ⟨v1, e1, h1⟩ := S.got 1 (by kernel_rfl)
          obtain ⟨b0, A0, n0, c0, hv0, Z0⟩ := (show IsM wr _ _ _ from h0)
          obtain ⟨b1, A1, n1, c1, hv1, Z1⟩ := (show IsM wr _ _ _ from h1)
          exact wp_bs2 ((ev_of (e0 121 (by kernel_rfl))).trans hv0) ((ev_of (e1 122 (by kernel_rfl))).trans hv1) (done' (by kernel_rfl) ((rxu _) _ _ _ (bl_alloc _ _)) (IsR2.new Z0 Z1))
        · refine rs_plain rfl rfl fun a wr S => ?_
          have X := undrewX S.ext
          obtain ⟨v2, e2, h2⟩ := S.got 2 (by kernel_rfl)
          exact st_call cf_big_Mul (args1 (ev_of (e2 123 (by kernel_rfl)))) (by kernel_rfl) (rxu _) (cMul2 (z := za) (u := zb) h2 (by omega) (by omega) (by omega) X.size) (fun _ _ _ h => h)
        · refine rs_plain rfl rfl fun a wr S => ?_
          have X := undrewX S.ext
          exact wp_load (ev_of ((S.old 10 (by kernel_rfl)).trans rfl)) (P10.below X) (done (by kernel_rfl) (rxu_refl _) (q9.below X).t)
        · refine rs_plain rfl rfl fun a wr S => ?_
          have X := undrewX S.ext
          obtain ⟨v3, e3, h3⟩ := S.got 3 (by kernel_rfl)
          obtain ⟨v4, e4, h4⟩ := S.got 4 (by kernel_rfl)
          obtain ⟨b0, A0, n0, c0, hv0, Z0⟩ := (show IsM wr _ _ _ from h3.m)
          obtain ⟨b1, A1, n1, c1, hv1, Z1⟩ := (show IsM wr _ _ _ from h4.m)
          exact wp_bs2 ((ev_of (e3 124 (by kernel_rfl))).trans hv0) ((ev_of (e4 125 (by kernel_rfl))).trans hv1) (done' (by kernel_rfl) ((rxu _) _ _ _ (bl_alloc _ _)) (IsR2.new Z0 Z1))
        · refine rs_plain rfl rfl fun a wr S => ?_
          have X := undrewX S.ext
          obtain ⟨v5, e5, h5⟩ := S.got 5 (by kernel_rfl)
          exact st_call cf_big_Add (args1 (ev_of (e5 126 (by kernel_rfl)))) (by kernel_rfl) (rxu _) (cAdd2 (z := (za * zb)) (u := (dr zc zb)) h5 (by omega) (by omega) X.size) (fun _ _ _ h => h)
        · refine rs_plain rfl rfl fun a wr S => ?_
          have X := undrewX S.ext
          exact wp_load (ev_of ((S.old 4 (by kernel_rfl)).trans rfl)) (Pb.below X) (done (by kernel_rfl) (rxu_refl _) (Qb.below X))
        · refine rs_plain rfl rfl fun a wr S => ?_
          have X := undrewX S.ext
          obtain ⟨v6, e6, h6⟩ := S.got 6 (by kernel_rfl)
          obtain ⟨v7, e7, h7⟩ := S.got 7 (by kernel_rfl)
          exact st_call cf_big_Div (args2 (ev_of (e6 127 (by kernel_rfl))) (ev_of (e7 128 (by kernel_rfl)))) (by kernel_rfl) (rxu _) (cDiv h6.m h7 (by omega) (by omega) HB.out X.size) (fun _ _ _ h => h)
        · refine rs_plain rfl rfl fun a wr S => ?_
          have X := undrewX S.ext
          obtain ⟨v8, e8, h8⟩ := S.got 8 (by kernel_rfl)
          exact wp_mv (ev_of (e8 129 (by kernel_rfl))) (done (by kernel_rfl) (rxu_refl _) h8)
        · refine rs_plain rfl rfl fun a wr S => ?_
          have X := undrewX S.ext
          obtain ⟨v9, e9, h9⟩ := S.got 9 (by kernel_rfl)
          obtain ⟨bb, AA, nn, cc, hvv, ZZ⟩ := (show IsZE _ wr _ (dq ((za * zb) + (dr zc zb)) zb) 42 0 from h9)
          exact wp_ext0 ((ev_of (e9 120 (by kernel_rfl))).trans hvv) (done (by kernel_rfl) (rxu_refl _) ⟨_, _, _, _, rfl, ZZ⟩)
        · refine rs_plain rfl rfl fun a wr S => ?_
          have X := undrewX S.ext
          obtain ⟨v9, e9, h9⟩ := S.got 9 (by kernel_rfl)
          obtain ⟨bb, AA, nn, cc, hvv, ZZ⟩ := (show IsZE _ wr _ (dq ((za * zb) + (dr zc zb)) zb) 42 0 from h9)
          exact wp_ext1 ((ev_of (e9 120 (by kernel_rfl))).trans hvv) (done (by kernel_rfl) (rxu_refl _) rfl)
        · refine rs_plain rfl rfl fun a wr S => ?_
          have X := undrewX S.ext
          refine st_alloc X.size (fun _ _ _ h => h) fun j vj u hj hs => ?_
          have hj' : j ∈ [12] := alloc_cases (by kernel_rfl) j hj
          simp only [List.mem_cons, List.not_mem_nil, or_false] at hj'
          subst hj'; exact hs
        · refine rs_plain rfl rfl fun a wr S => ?_
          have X := undrewX S.ext
          obtain ⟨v12, e12, h12⟩ := S.got 12 (by kernel_rfl)
          obtain ⟨v10, e10, h10⟩ := S.got 10 (by kernel_rfl)
          exact st_storeZ (by kernel_rfl) (by kernel_rfl) (ev_of (e12 12 (by kernel_rfl))) h12 (ev_of (e10 130 (by kernel_rfl))) h10 (fun _ _ _ h => h)
        · refine rs_plain rfl rfl fun a wr S => ?_
          have X := undrewX S.ext
          obtain ⟨v11, e11, h11⟩ := S.got 11 (by kernel_rfl)
          exact wp_as ((ev_of (e11 131 (by kernel_rfl))).trans h11) (done (by kernel_rfl) (rxu_refl _) rfl)
      · intro f11_ w11 hR hv
        replace hR := undrewX hR
        have f11 : f11_ 11 = .int .i64 0 := (hvc (hv 11 (by omega))).elim fun _ h => h
        have f14 : f11_ 14 = .int .i64 0 := (hvc (hv 14 (by omega))).elim fun _ h => h
        obtain ⟨gp, bp, Ap, np, cp, f12, hgp, Pp, Zp⟩ := (show HasZ _ (f11_ 12) w11 (dq ((za * zb) + (dr zc zb)) zb) 42 from hvs (hv 13 (by omega)) (by kernel_rfl))
        simp only [putFn, Act.put, List.setIfInBounds_toArray, List.set_cons_zero, List.set_cons_succ, f11, f14, f12]
        replace Qa := Qa.below hR
        replace Qb := Qb.below hR
        replace Qc := Qc.below hR
        replace Pa := Pa.below hR
        replace Pb := Pb.below hR
        replace Pc := Pc.below hR
        replace q3 := q3.below hR
        replace P4 := P4.below hR
        replace q5 := q5.below hR
        replace P6 := P6.below hR
        replace q9 := q9.below hR
        replace P10 := P10.below hR
        replace BB := bl_trans BB hR
        clear hR
        have Qp : IsZ _ w11 (.agg #[.bool bp, .slice Ap np cp]) (dq ((za * zb) + (dr zc zb)) zb) 42 := ⟨_, _, _, _, rfl, Zp⟩
        clear Zp hgp
        clear hv
        go_wp2_with fail
        refine wp_region_list (Ext := (BelX (w11).heap.size)) (Rel := (BelU (w11).heap.size)) [fun v _ w => IsM w v (za) 20, fun v _ w => IsM w v (zb) 20, fun v _ w => IsR2 w v (za) 20 (zb) 20, fun v _ w => IsZ (w11).heap.size w v (za * zb) 40, fun v _ w => IsT w v (dr zc zb) 20, fun v _ w => IsR2 w v (za * zb) 40 (dr zc zb) 20, fun v _ w => IsZ (w11).heap.size w v ((za * zb) + (dr zc zb)) 41, fun v _ w => IsM w v (zb) 20, fun v _ w => IsZE (w11).heap.size w v (dr ((za * zb) + (dr zc zb)) zb) 20 0, fun v _ w => IsZE (w11).heap.size w v (dr ((za * zb) + (dr zc zb)) zb) 20 0, fun v _ w => IsZ (w11).heap.size w v (dr ((za * zb) + (dr zc zb)) zb) 20, fun v _ _ => v = .int .i64 0, fun v _ w => IsP (w11).heap.size v w, fun _ u w => HasZ (w11).heap.size u w (dr ((za * zb) + (dr zc zb)) zb) 20, fun v _ _ => v = .int .i64 0] (n := 15) (by kernel_rfl) rfl (by kernel_rfl) (by kernel_rfl) (by kernel_rfl) (by kernel_rfl) (by kernel_rfl) (rx_refl _) (rxu_trans _) ⟨xM, ⟨xM, ⟨xR2, ⟨xZ, ⟨xT, ⟨xR2, ⟨xZ, ⟨xM, ⟨xZE, ⟨xZE, ⟨xZ, ⟨sC, ⟨xP, ⟨xHZ, ⟨sC, trivial⟩⟩⟩⟩⟩⟩⟩⟩⟩⟩⟩⟩⟩⟩⟩ ?_ ?_
        · refine ⟨⟨⟨⟨⟨⟨⟨⟨⟨⟨⟨⟨⟨⟨⟨trivial, ?_⟩, ?_⟩, ?_⟩, ?_⟩, ?_⟩, ?_⟩, ?_⟩, ?_⟩, ?_⟩, ?_⟩, ?_⟩, ?_⟩, ?_⟩, ?_⟩, ?_⟩
          · refine rs_plain rfl rfl fun a wr S => ?_
            have X := undrewX S.ext
            exact wp_load (ev_of ((S.old 3 (by kernel_rfl)).trans rfl)) (Pa.below X) (done (by kernel_rfl) (rxu_refl _) (Qa.below X))
          · refine rs_plain rfl rfl fun a wr S => ?_
            have X := undrewX S.ext
            exact wp_load (ev_of ((S.old 4 (by kernel_rfl)).trans rfl)) (Pb.below X) (done (by kernel_rfl) (rxu_refl _) (Qb.below X))
          · refine rs_plain rfl rfl fun a wr S => ?_
            have X := undrewX S.ext
            obtain ⟨v0, e0, h0⟩ := S.got 0 (by kernel_rfl)
            obtain ⟨v1, e1, h1⟩ := S.got 1 (by kernel_rfl)
            obtain ⟨b0, A0, n0, c0, hv0, Z0⟩ := (show IsM wr _ _ _ from h0)
            obtain ⟨b1, A1, n1, c1, hv1, Z1⟩ := (show IsM wr _ _ _ from h1)
            exact wp_bs2 ((ev_of (e0 133 (by kernel_rfl))).trans hv0) ((ev_of (e1 134 (by kernel_rfl))).trans hv1) (done' (by kernel_rfl) ((rxu _) _ _ _ (bl_alloc _ _)) (IsR2.new Z0 Z1))
          · refine rs_plain rfl rfl fun a wr S => ?_
            have X := undrewX S.ext
            obtain ⟨v2, e2, h2⟩ := S.got 2 (by kernel_rfl)
            exact st_call cf_big_Mul (args1 (ev_of (e2 135 (by kernel_rfl)))) (by kernel_rfl) (rxu _) (cMul2 (z := za) (u := zb) h2 (by omega) (by omega) (by omega) X.size) (fun _ _ _ h => h)
          · refine rs_plain rfl rfl fun a wr S => ?_
            have X := undrewX S.ext
            exact wp_load (ev_of ((S.old 10 (by kernel_rfl)).trans rfl)) (P10.below X) (done (by kernel_rfl) (rxu_refl _) (q9.below X).t)
          · refine rs_plain rfl rfl fun a wr S => ?_
            have X := undrewX S.ext
            obtain ⟨v3, e3, h3⟩ := S.got 3 (by kernel_rfl)
            obtain ⟨v4, e4, h4⟩ := S.got 4 (by kernel_rfl)
            obtain ⟨b0, A0, n0, c0, hv0, Z0⟩ := (show IsM wr _ _ _ from h3.m)
            obtain ⟨b1, A1, n1, c1, hv1, Z1⟩ := (show IsM wr _ _ _ from h4.m)
            exact wp_bs2 ((ev_of (e3 136 (by kernel_rfl))).trans hv0) ((ev_of (e4 137 (by kernel_rfl))).trans hv1) (done' (by kernel_rfl) ((rxu _) _ _ _ (bl_alloc _ _)) (IsR2.new Z0 Z1))
          · refine rs_plain rfl rfl fun a wr S => ?_
            have X := undrewX S.ext
            obtain ⟨v5, e5, h5⟩ := S.got 5 (by kernel_rfl)
            exact st_call cf_big_Add (args1 (ev_of (e5 138 (by kernel_rfl)))) (by kernel_rfl) (rxu _) (cAdd2 (z := (za * zb)) (u := (dr zc zb)) h5 (by omega) (by omega) X.size) (fun _ _ _ h => h)
          · refine rs_plain rfl rfl fun a wr S => ?_
            have X := undrewX S.ext
            exact wp_load (ev_of ((S.old 4 (by kernel_rfl)).trans rfl)) (Pb.below X) (done (by kernel_rfl) (rxu_refl _) (Qb.below X))
          · refine rs_plain rfl rfl fun a wr S => ?_
            have X := undrewX S.ext
            obtain ⟨v6, e6, h6⟩ := S.got 6 (by kernel_rfl)
            obtain ⟨v7, e7, h7⟩ := S.got 7 (by kernel_rfl)
            exact st_call cf_big_Mod (args2 (ev_of (e6 139 (by kernel_rfl))) (ev_of (e7 140 (by kernel_rfl)))) (by kernel_rfl) (rxu _) (cMod h6.m h7 (by omega) (by omega) HB.out X.size) (fun _ _ _ h => h)
          · refine rs_plain rfl rfl fun a wr S => ?_
            have X := undrewX S.ext
            obtain ⟨v8, e8, h8⟩ := S.got 8 (by kernel_rfl)
            exact wp_mv (ev_of (e8 141 (by kernel_rfl))) (done (by kernel_rfl) (rxu_refl _) h8)
          · refine rs_plain rfl rfl fun a wr S => ?_
            have X := undrewX S.ext
            obtain ⟨v9, e9, h9⟩ := S.got 9 (by kernel_rfl)
            obtain ⟨bb, AA, nn, cc, hvv, ZZ⟩ := (show IsZE _ wr _ (dr ((za * zb) + (dr zc zb)) zb) 20 0 from h9)
            exact wp_ext0 ((ev_of (e9 132 (by kernel_rfl))).trans hvv) (done (by kernel_rfl) (rxu_refl _) ⟨_, _, _, _, rfl, ZZ⟩)
          · refine rs_plain rfl rfl fun a wr S => ?_
            have X := undrewX S.ext
            obtain ⟨v9, e9, h9⟩ := S.got 9 (by kernel_rfl)
            obtain ⟨bb, AA, nn, cc, hvv, ZZ⟩ := (show IsZE _ wr _ (dr ((za * zb) + (dr zc zb)) zb) 20 0 from h9)
            exact wp_ext1 ((ev_of (e9 132 (by kernel_rfl))).trans hvv) (done (by kernel_rfl) (rxu_refl _) rfl)
          · refine rs_plain rfl rfl fun a wr S => ?_
            have X := undrewX S.ext
            refine st_alloc X.size (fun _ _ _ h => h) fun j vj u hj hs => ?_
            have hj' : j ∈ [12] := alloc_cases (by kernel_rfl) j hj
            simp only [List.mem_cons, List.not_mem_nil, or_false] at hj'
            subst hj'; exact hs
          · refine rs_plain rfl rfl fun a wr S => ?_
            have X := undrewX S.ext
            obtain ⟨v12, e12, h12⟩ := S.got 12 (by kernel_rfl)
            obtain ⟨v10, e10, h10⟩ := S.got 10 (by kernel_rfl)
            exact st_storeZ (by kernel_rfl) (by kernel_rfl) (ev_of (e12 14 (by kernel_rfl))) h12 (ev_of (e10 142 (by kernel_rfl))) h10 (fun _ _ _ h => h)
          · refine rs_plain rfl rfl fun a wr S => ?_
            have X := undrewX S.ext
            obtain ⟨v11, e11, h11⟩ := S.got 11 (by kernel_rfl)
            exact wp_as ((ev_of (e11 143 (by kernel_rfl))).trans h11) (done (by kernel_rfl) (rxu_refl _) rfl)
        · intro f12_ w12 hR hv
          replace hR := undrewX hR
          have f11 : f12_ 11 = .int .i64 0 := (hvc (hv 11 (by omega))).elim fun _ h => h
          have f14 : f12_ 14 = .int .i64 0 := (hvc (hv 14 (by omega))).elim fun _ h => h
          obtain ⟨gs, bs, As, ns, cs, f12, hgs, Ps, Zs⟩ := (show HasZ _ (f12_ 12) w12 (dr ((za * zb) + (dr zc zb)) zb) 20 from hvs (hv 13 (by omega)) (by kernel_rfl))
          simp only [putFn, Act.put, List.setIfInBounds_toArray, List.set_cons_zero, List.set_cons_succ, f11, f14, f12]
          replace Qa := Qa.below hR
          replace Qb := Qb.below hR
          replace Qc := Qc.below hR
          replace Pa := Pa.below hR
          replace Pb := Pb.below hR
          replace Pc := Pc.below hR
          replace q3 := q3.below hR
          replace P4 := P4.below hR
          replace q5 := q5.below hR
          replace P6 := P6.below hR
          replace q9 := q9.below hR
          replace P10 := P10.below hR
          replace Pp := Pp.below hR
          replace Qp := Qp.below hR
          replace BB := bl_trans BB hR
          clear hR
          have Qs : IsZ _ w12 (.agg #[.bool bs, .slice As ns cs]) (dr ((za * zb) + (dr zc zb)) zb) 20 := ⟨_, _, _, _, rfl, Zs⟩
          clear Zs hgs
          clear hv
          go_wp2_with fail
          refine wp_region_list (Ext := RB) (Rel := RBu) [fun v _ w => IsT w v (dq ((za * zb) + (dr zc zb)) zb) 42, fun v _ w => IsM w v (za) 20, fun v _ w => IsR1 w v (za) 20, fun v _ w => IsZ (w12).heap.size w v (za) 21, fun v _ _ => v = .bool true, fun v _ _ => v = .bool false, fun v _ _ => v = .bool false, fun v _ w => IsT w v (dr ((za * zb) + (dr zc zb)) zb) 20, fun v _ w => IsT w v (dr zc zb) 20, fun v _ _ => v = .bool true, fun v _ _ => v = .bool false, fun v _ _ => v = .bool false] (n := 12) (by kernel_rfl) rfl (by kernel_rfl) (by kernel_rfl) (by kernel_rfl) (by kernel_rfl) (by kernel_rfl) rb_refl rb_trans ⟨sT, ⟨sM, ⟨sR1, ⟨sZ, ⟨sC, ⟨sC, ⟨sC, ⟨sT, ⟨sT, ⟨sC, ⟨sC, ⟨sC, trivial⟩⟩⟩⟩⟩⟩⟩⟩⟩⟩⟩⟩ ?_ ?_
          · refine ⟨⟨⟨⟨⟨⟨⟨⟨⟨⟨⟨⟨trivial, ?_⟩, ?_⟩, ?_⟩, ?_⟩, ?_⟩, ?_⟩, ?_⟩, ?_⟩, ?_⟩, ?_⟩, ?_⟩, ?_⟩
            · refine rs_plain rfl rfl fun a wr S => ?_
              have X := undrew S.ext
              exact wp_load (ev_of ((S.old 12 (by kernel_rfl)).trans rfl)) (Pp.below X) (done (by kernel_rfl) rbu_refl (Qp.below X).t)
            · refine rs_plain rfl rfl fun a wr S => ?_
              have X := undrew S.ext
              exact wp_load (ev_of ((S.old 3 (by kernel_rfl)).trans rfl)) (Pa.below X) (done (by kernel_rfl) rbu_refl (Qa.below X))
            · refine rs_plain rfl rfl fun a wr S => ?_
              have X := undrew S.ext
              obtain ⟨v1, e1, h1⟩ := S.got 1 (by kernel_rfl)
              obtain ⟨b0, A0, n0, c0, hv0, Z0⟩ := (show IsM wr _ _ _ from h1)
              exact wp_bs1 ((ev_of (e1 145 (by kernel_rfl))).trans hv0) (done' (by kernel_rfl) (rb _ _ _ (bl_alloc _ _)) (IsR1.new Z0))
            · refine rs_plain rfl rfl fun a wr S => ?_
              have X := undrew S.ext
              obtain ⟨v2, e2, h2⟩ := S.got 2 (by kernel_rfl)
              exact st_call cf_big_Add (args1 (ev_of (e2 146 (by kernel_rfl)))) (by kernel_rfl) rb (cAdd1 h2 (by omega) X.size) (fun _ _ _ h => h)
            · refine rs_plain rfl rfl fun a wr S => ?_
              have X := undrew S.ext
              obtain ⟨v0, e0, h0⟩ := S.got 0 (by kernel_rfl)
              obtain ⟨v3, e3, h3⟩ := S.got 3 (by kernel_rfl)
              exact st_call cf_law02_same (args2 (ev_of (e0 144 (by kernel_rfl))) (ev_of (e3 147 (by kernel_rfl)))) (by kernel_rfl) rb (cSame h0 h3.t (by omega) (by omega) (decide_eq_true (HP.out))) (fun _ _ _ h => h)
            · refine rs_plain rfl rfl fun a wr S => ?_
              have X := undrew S.ext
              obtain ⟨v4, e4, h4⟩ := S.got 4 (by kernel_rfl)
              exact wp_not ((ev_of (e4 148 (by kernel_rfl))).trans h4) (done (by kernel_rfl) rbu_refl rfl)
            · refine rs_plain rfl rfl fun a wr S => ?_
              have X := undrew S.ext
              obtain ⟨v5, e5, h5⟩ := S.got 5 (by kernel_rfl)
              exact wp_mv ((ev_of (e5 149 (by kernel_rfl))).trans h5) (done (by kernel_rfl) rbu_refl rfl)
            · refine rs_yes rfl rfl (by kernel_rfl) (by kernel_rfl : _ = some 150) (fun _ _ _ h => h) fun a wr S => ?_
              have X := undrew S.ext
              exact wp_load (ev_of ((S.old 14 (by kernel_rfl)).trans rfl)) (Ps.below X) (done (by kernel_rfl) rbu_refl (Qs.below X).t)
            · refine rs_yes rfl rfl (by kernel_rfl) (by kernel_rfl : _ = some 150) (fun _ _ _ h => h) fun a wr S => ?_
              have X := undrew S.ext
              exact wp_load (ev_of ((S.old 10 (by kernel_rfl)).trans rfl)) (P10.below X) (done (by kernel_rfl) rbu_refl (q9.below X).t)
            · refine rs_yes rfl rfl (by kernel_rfl) (by kernel_rfl : _ = some 150) (fun _ _ _ h => h) fun a wr S => ?_
              have X := undrew S.ext
              obtain ⟨v7, e7, h7⟩ := S.got 7 (by kernel_rfl)
              obtain ⟨v8, e8, h8⟩ := S.got 8 (by kernel_rfl)
              exact st_call cf_law02_same (args2 (ev_of (e7 151 (by kernel_rfl))) (ev_of (e8 152 (by kernel_rfl)))) (by kernel_rfl) rb (cSame h7 h8 (by omega) (by omega) (decide_eq_true (HL.out))) (fun _ _ _ h => h)
            · refine rs_yes rfl rfl (by kernel_rfl) (by kernel_rfl : _ = some 150) (fun _ _ _ h => h) fun a wr S => ?_
              have X := undrew S.ext
              obtain ⟨v9, e9, h9⟩ := S.got 9 (by kernel_rfl)
              exact wp_not ((ev_of (e9 153 (by kernel_rfl))).trans h9) (done (by kernel_rfl) rbu_refl rfl)
            · refine rs_plain rfl rfl fun a wr S => ?_
              have X := undrew S.ext
              obtain ⟨v6, e6, h6⟩ := S.got 6 (by kernel_rfl)
              obtain ⟨v10, e10, h10⟩ := S.got 10 (by kernel_rfl)
              exact wp_pickF ((ev_of (e6 150 (by kernel_rfl))).trans h6) ((ev_of (e10 154 (by kernel_rfl))).trans h10) (done (by kernel_rfl) rbu_refl rfl)
          · intro f13_ w13 hR hv
            replace hR := undrew hR
            have f4 : f13_ 4 = .bool true := (hvc (hv 4 (by omega))).elim fun _ h => h
            have f5 : f13_ 5 = .bool false := (hvc (hv 5 (by omega))).elim fun _ h => h
            have f6 : f13_ 6 = .bool false := (hvc (hv 6 (by omega))).elim fun _ h => h
            have f9 : f13_ 9 = .bool true := (hvc (hv 9 (by omega))).elim fun _ h => h
            have f10 : f13_ 10 = .bool false := (hvc (hv 10 (by omega))).elim fun _ h => h
            have f11 : f13_ 11 = .bool false := (hvc (hv 11 (by omega))).elim fun _ h => h
            simp only [putFn, Act.put, List.setIfInBounds_toArray, List.set_cons_zero, List.set_cons_succ, f4, f5, f6, f9, f10, f11]
            replace Qa := Qa.below hR
            replace Qb := Qb.below hR
            replace Qc := Qc.below hR
            replace Pa := Pa.below hR
            replace Pb := Pb.below hR
            replace Pc := Pc.below hR
            replace q3 := q3.below hR
            replace P4 := P4.below hR
            replace q5 := q5.below hR
            replace P6 := P6.below hR
            replace q9 := q9.below hR
            replace P10 := P10.below hR
            replace Pp := Pp.below hR
            replace Qp := Qp.below hR
            replace Ps := Ps.below hR
            replace Qs := Qs.below hR
            replace BB := bl_trans BB hR
            clear hR
            clear hv
            clear HP HL
            by_cases hc0 : zc = 0
            · have HC := Lib.hid hc0
              clear hc0
              have Pc_0 := Pc.c0
              have Pc_1 := Pc.c1
              go_wp2_with fail
              refine (cSign Qc (by omega) (sgn_zero HC.out)).mono ?_
              rintro e w14 ⟨_, rfl, hb14, rfl⟩
              clear Pc_0 Pc_1
              replace Qa := Qa.below hb14
              replace Qb := Qb.below hb14
              replace Qc := Qc.below hb14
              replace Pa := Pa.below hb14
              replace Pb := Pb.below hb14
              replace Pc := Pc.below hb14
              replace q3 := q3.below hb14
              replace P4 := P4.below hb14
              replace q5 := q5.below hb14
              replace P6 := P6.below hb14
              replace q9 := q9.below hb14
              replace P10 := P10.below hb14
              replace Pp := Pp.below hb14
              replace Qp := Qp.below hb14
              replace Ps := Ps.below hb14
              replace Qs := Qs.below hb14
              replace BB := bl_trans BB hb14
              clear hb14
              have Pc_0 := Pc.c0
              have Pc_1 := Pc.c1
              go_wp2_with fail
              go_ret
              exact ⟨rfl, BB⟩
            · have HBC := Lib.hid (Int.mul_ne_zero HB.out hc0)
              have HGA := Lib.hid (HAG.out hc0)
              obtain ⟨qc, hqc, hqn⟩ := sgn_ne hc0
              have HSC := Lib.hid hqc
              have HQC := Lib.hid hqn
              clear hc0 hqc hqn HAG
              have Pc_0 := Pc.c0
              have Pc_1 := Pc.c1
              go_wp2_with fail
              refine (cSign Qc (by omega) HSC.out).mono ?_
              rintro e w14 ⟨_, rfl, hb14, rfl⟩
              clear Pc_0 Pc_1
              replace Qa := Qa.below hb14
              replace Qb := Qb.below hb14
              replace Qc := Qc.below hb14
              replace Pa := Pa.below hb14
              replace Pb := Pb.below hb14
              replace Pc := Pc.below hb14
              replace q3 := q3.below hb14
              replace P4 := P4.below hb14
              replace q5 := q5.below hb14
              replace P6 := P6.below hb14
              replace q9 := q9.below hb14
              replace P10 := P10.below hb14
              replace Pp := Pp.below hb14
              replace Qp := Qp.below hb14
              replace Ps := Ps.below hb14
              replace Qs := Qs.below hb14
              replace BB := bl_trans BB hb14
              clear hb14
              have hqc0 := HQC.out
              go_wp2_with fail
              refine wp_region_list (Ext := (BelX (w14).heap.size)) (Rel := (BelU (w14).heap.size)) [fun v _ w => IsM w v (za) 20, fun v _ w => IsM w v (zc) 20, fun v _ w => IsR2 w v (za) 20 (zc) 20, fun v _ w => IsZ (w14).heap.size w v (za * zc) 40, fun v _ w => IsM w v (zb) 20, fun v _ w => IsM w v (zc) 20, fun v _ w => IsR2 w v (zb) 20 (zc) 20, fun v _ w => IsZ (w14).heap.size w v (zb * zc) 40, fun v _ w => IsZE (w14).heap.size w v (dq (za * zc) (zb * zc)) 41 0, fun v _ w => IsZE (w14).heap.size w v (dq (za * zc) (zb * zc)) 41 0, fun v _ w => IsZ (w14).heap.size w v (dq (za * zc) (zb * zc)) 41, fun v _ _ => v = .int .i64 0, fun v _ w => IsP (w14).heap.size v w, fun _ u w => HasZ (w14).heap.size u w (dq (za * zc) (zb * zc)) 41, fun v _ _ => v = .int .i64 0] (n := 15) (by kernel_rfl) rfl (by kernel_rfl) (by kernel_rfl) (by kernel_rfl) (by kernel_rfl) (by kernel_rfl) (rx_refl _) (rxu_trans _) ⟨xM, ⟨xM, ⟨xR2, ⟨xZ, ⟨xM, ⟨xM, ⟨xR2, ⟨xZ, ⟨xZE, ⟨xZE, ⟨xZ, ⟨sC, ⟨xP, ⟨xHZ, ⟨sC, trivial⟩⟩⟩⟩⟩⟩⟩⟩⟩⟩⟩⟩⟩⟩⟩ ?_ ?_
              · refine ⟨⟨⟨⟨⟨⟨⟨⟨⟨⟨⟨⟨⟨⟨⟨trivial, ?_⟩, ?_⟩, ?_⟩, ?_⟩, ?_⟩, ?_⟩, ?_⟩, ?_⟩, ?_⟩, ?_⟩, ?_⟩, ?_⟩, ?_⟩, ?_⟩, ?_⟩
                · refine rs_plain rfl rfl fun a wr S => ?_
                  have X := undrewX S.ext
                  exact wp_load (ev_of ((S.old 3 (by kernel_rfl)).trans rfl)) (Pa.below X) (done (by kernel_rfl) (rxu_refl _) (Qa.below X))
                · refine rs_plain rfl rfl fun a wr S => ?_
                  have X := undrewX S.ext
                  exact wp_load (ev_of ((S.old 5 (by kernel_rfl)).trans rfl)) (Pc.below X) (done (by kernel_rfl) (rxu_refl _) (Qc.below X))
                · refine rs_plain rfl rfl fun a wr S => ?_
                  have X := undrewX S.ext
                  obtain ⟨v0, e0, h0⟩ := S.got 0 (by kernel_rfl)
                  obtain ⟨v1, e1, h1⟩ := S.got 1 (by kernel_rfl)
                  obtain ⟨b0, A0, n0, c0, hv0, Z0⟩ := (show IsM wr _ _ _ from h0)
                  obtain ⟨b1, A1, n1, c1, hv1, Z1⟩ := (show IsM wr _ _ _ from h1)
                  exact wp_bs2 ((ev_of (e0 160 (by kernel_rfl))).trans hv0) ((ev_of (e1 161 (by kernel_rfl))).trans hv1) (done' (by kernel_rfl) ((rxu _) _ _ _ (bl_alloc _ _)) (IsR2.new Z0 Z1))
                · refine rs_plain rfl rfl fun a wr S => ?_
                  have X := undrewX S.ext
                  obtain ⟨v2, e2, h2⟩ := S.got 2 (by kernel_rfl)
                  exact st_call cf_big_Mul (args1 (ev_of (e2 162 (by kernel_rfl)))) (by kernel_rfl) (rxu _) (cMul2 (z := za) (u := zc) h2 (by omega) (by omega) (by omega) X.size) (fun _ _ _ h => h)
                · refine rs_plain rfl rfl fun a wr S => ?_
                  have X := undrewX S.ext
                  exact wp_load (ev_of ((S.old 4 (by kernel_rfl)).trans rfl)) (Pb.below X) (done (by kernel_rfl) (rxu_refl _) (Qb.below X))
                · refine rs_plain rfl rfl fun a wr S => ?_
                  have X := undrewX S.ext
                  exact wp_load (ev_of ((S.old 5 (by kernel_rfl)).trans rfl)) (Pc.below X) (done (by kernel_rfl) (rxu_refl _) (Qc.below X))
                · refine rs_plain rfl rfl fun a wr S => ?_
                  have X := undrewX S.ext
                  obtain ⟨v4, e4, h4⟩ := S.got 4 (by kernel_rfl)
                  obtain ⟨v5, e5, h5⟩ := S.got 5 (by kernel_rfl)
                  obtain ⟨b0, A0, n0, c0, hv0, Z0⟩ := (show IsM wr _ _ _ from h4)
                  obtain ⟨b1, A1, n1, c1, hv1, Z1⟩ := (show IsM wr _ _ _ from h5)
                  exact wp_bs2 ((ev_of (e4 164 (by kernel_rfl))).trans hv0) ((ev_of (e5 165 (by kernel_rfl))).trans hv1) (done' (by kernel_rfl) ((rxu _) _ _ _ (bl_alloc _ _)) (IsR2.new Z0 Z1))
                · refine rs_plain rfl rfl fun a wr S => ?_
                  have X := undrewX S.ext
                  obtain ⟨v6, e6, h6⟩ := S.got 6 (by kernel_rfl)
                  exact st_call cf_big_Mul (args1 (ev_of (e6 166 (by kernel_rfl)))) (by kernel_rfl) (rxu _) (cMul2 (z := zb) (u := zc) h6 (by omega) (by omega) (by omega) X.size) (fun _ _ _ h => h)
                · refine rs_plain rfl rfl fun a wr S => ?_
                  have X := undrewX S.ext
                  obtain ⟨v3, e3, h3⟩ := S.got 3 (by kernel_rfl)
                  obtain ⟨v7, e7, h7⟩ := S.got 7 (by kernel_rfl)
                  exact st_call cf_big_Div (args2 (ev_of (e3 163 (by kernel_rfl))) (ev_of (e7 167 (by kernel_rfl)))) (by kernel_rfl) (rxu _) (cDiv h3.m h7.m (by omega) (by omega) HBC.out X.size) (fun _ _ _ h => h)
                · refine rs_plain rfl rfl fun a wr S => ?_
                  have X := undrewX S.ext
                  obtain ⟨v8, e8, h8⟩ := S.got 8 (by kernel_rfl)
                  exact wp_mv (ev_of (e8 168 (by kernel_rfl))) (done (by kernel_rfl) (rxu_refl _) h8)
                · refine rs_plain rfl rfl fun a wr S => ?_
                  have X := undrewX S.ext
                  obtain ⟨v9, e9, h9⟩ := S.got 9 (by kernel_rfl)
                  obtain ⟨bb, AA, nn, cc, hvv, ZZ⟩ := (show IsZE _ wr _ (dq (za * zc) (zb * zc)) 41 0 from h9)
                  exact wp_ext0 ((ev_of (e9 159 (by kernel_rfl))).trans hvv) (done (by kernel_rfl) (rxu_refl _) ⟨_, _, _, _, rfl, ZZ⟩)
                · refine rs_plain rfl rfl fun a wr S => ?_
                  have X := undrewX S.ext
                  obtain ⟨v9, e9, h9⟩ := S.got 9 (by kernel_rfl)
                  obtain ⟨bb, AA, nn, cc, hvv, ZZ⟩ := (show IsZE _ wr _ (dq (za * zc) (zb * zc)) 41 0 from h9)
                  exact wp_ext1 ((ev_of (e9 159 (by kernel_rfl))).trans hvv) (done (by kernel_rfl) (rxu_refl _) rfl)
                · refine rs_plain rfl rfl fun a wr S => ?_
                  have X := undrewX S.ext
                  refine st_alloc X.size (fun _ _ _ h => h) fun j vj u hj hs => ?_
                  have hj' : j ∈ [12] := alloc_cases (by kernel_rfl) j hj
                  simp only [List.mem_cons, List.not_mem_nil, or_false] at hj'
                  subst hj'; exact hs
                · refine rs_plain rfl rfl fun a wr S => ?_
                  have X := undrewX S.ext
                  obtain ⟨v12, e12, h12⟩ := S.got 12 (by kernel_rfl)
                  obtain ⟨v10, e10, h10⟩ := S.got 10 (by kernel_rfl)
                  exact st_storeZ (by kernel_rfl) (by kernel_rfl) (ev_of (e12 16 (by kernel_rfl))) h12 (ev_of (e10 169 (by kernel_rfl))) h10 (fun _ _ _ h => h)
                · refine rs_plain rfl rfl fun a wr S => ?_
                  have X := undrewX S.ext
                  obtain ⟨v11, e11, h11⟩ := S.got 11 (by kernel_rfl)
                  exact wp_as ((ev_of (e11 170 (by kernel_rfl))).trans h11) (done (by kernel_rfl) (rxu_refl _) rfl)
              · intro f15_ w15 hR hv
                replace hR := undrewX hR
                have f11 : f15_ 11 = .int .i64 0 := (hvc (hv 11 (by omega))).elim fun _ h => h
                have f14 : f15_ 14 = .int .i64 0 := (hvc (hv 14 (by omega))).elim fun _ h => h
                obtain ⟨gg, bg, Ag, ng, cg, f12, hgg, Pg, Zg⟩ := (show HasZ _ (f15_ 12) w15 (dq (za * zc) (zb * zc)) 41 from hvs (hv 13 (by omega)) (by kernel_rfl))
                simp only [putFn, Act.put, List.setIfInBounds_toArray, List.set_cons_zero, List.set_cons_succ, f11, f14, f12]
                replace Qa := Qa.below hR
                replace Qb := Qb.below hR
                replace Qc := Qc.below hR
                replace Pa := Pa.below hR
                replace Pb := Pb.below hR
                replace Pc := Pc.below hR
                replace q3 := q3.below hR
                replace P4 := P4.below hR
                replace q5 := q5.below hR
                replace P6 := P6.below hR
                replace q9 := q9.below hR
                replace P10 := P10.below hR
                replace Pp := Pp.below hR
                replace Qp := Qp.below hR
                replace Ps := Ps.below hR
                replace Qs := Qs.below hR
                replace BB := bl_trans BB hR
                clear hR
                have Qg : IsZ _ w15 (.agg #[.bool bg, .slice Ag ng cg]) (dq (za * zc) (zb * zc)) 41 := ⟨_, _, _, _, rfl, Zg⟩
                clear Zg hgg
                clear hv
                clear hqc0
                have Pg_0 := Pg.c0
                have Pg_1 := Pg.c1
                have P4_0 := P4.c0
                have P4_1 := P4.c1
                go_wp2_with fail
                refine (cSame Qg.t q3.t (by omega) (by omega) (decide_eq_true (HGA.out))).mono ?_
                rintro e w16 ⟨_, rfl, hb16, rfl⟩
                clear Pg_0 Pg_1 P4_0 P4_1
                replace Qa := Qa.below hb16
                replace Qb := Qb.below hb16
                replace Qc := Qc.below hb16
                replace Pa := Pa.below hb16
                replace Pb := Pb.below hb16
                replace Pc := Pc.below hb16
                replace q3 := q3.below hb16
                replace P4 := P4.below hb16
                replace q5 := q5.below hb16
                replace P6 := P6.below hb16
                replace q9 := q9.below hb16
                replace P10 := P10.below hb16
                replace Pp := Pp.below hb16
                replace Qp := Qp.below hb16
                replace Ps := Ps.below hb16
                replace Qs := Qs.below hb16
                replace Pg := Pg.below hb16
                replace Qg := Qg.below hb16
                replace BB := bl_trans BB hb16
                clear hb16
                have Pg_0 := Pg.c0
                have Pg_1 := Pg.c1
                have P4_0 := P4.c0
                have P4_1 := P4.c1
                go_wp2_with fail
                go_ret
                exact ⟨rfl, BB⟩

end Go.Proofs.Ytebchniiiccghaa
