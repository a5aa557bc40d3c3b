/- litmuslaw02.BigOrder answers true at every input, and changes nothing that was there: its walk. -/
import Derived.Test.YtebchniiiccghaaZX
namespace Go.Proofs.Ytebchniiiccghaa
open Go.RowKit
set_option linter.unusedVariables false
set_option maxRecDepth 100000

theorem cmpI_chain {a b c q r : Int} (h : a ≤ b) (hq : cmpI b c = q) (hr : cmpI a c = r) (h1 : q ≤ 0) : r ≤ 0 := by
  subst hq hr
  have hbc : b ≤ c := by
    rcases Int.lt_or_le c b with h2 | h2
    · rw [cmpI_gt h2] at h1; omega
    · exact h2
  rcases Int.lt_trichotomy a c with h3 | h3 | h3
  · rw [cmpI_lt h3]; omega
  · rw [cmpI_eq h3]; omega
  · omega

set_option maxHeartbeats 4000000 in
theorem bigOrder_L (sa : Bool) (Aa : Option Addr) (na ca : Nat) (xa : List Nat) (sb : Bool) (Ab : Option Addr) (nb cb : Nat) (xb : List Nat) (sc : Bool) (Ac : Option Addr) (nc cc : Nat) (xc : List Nat) (za zb zc : Int) (w : World) (n m : Int) (n0 : -9223372036854775808 ≤ n) (n1 : n < 9223372036854775808) (m0 : -9223372036854775808 ≤ m) (m1 : m < 9223372036854775808) (Ha : Hid (Rd w Aa na ca xa)) (Hb : Hid (Rd w Ab nb cb xb)) (Hc : Hid (Rd w Ac nc cc xc)) (Ga : Hid (na ≤ maxLen)) (Gb : Hid (nb ≤ maxLen)) (Gc : Hid (nc ≤ maxLen)) (BB : Below w.heap.size w (w.alloc (.cells #[.bool sa, .slice Aa na ca, .bool sb, .slice Ab nb cb, .bool sc, .slice Ac nc cc] 59))) (PV : Ar (w.alloc (.cells #[.bool sa, .slice Aa na ca, .bool sb, .slice Ab nb cb, .bool sc, .slice Ac nc cc] 59)) w.heap.size #[.bool sa, .slice Aa na ca, .bool sb, .slice Ab nb cb, .bool sc, .slice Ac nc cc] 59) (Qa : IsM (w.alloc (.cells #[.bool sa, .slice Aa na ca, .bool sb, .slice Ab nb cb, .bool sc, .slice Ac nc cc] 59)) (.agg #[.bool sa, .slice Aa (min na 10) ca]) za 10) (Qb : IsM (w.alloc (.cells #[.bool sa, .slice Aa na ca, .bool sb, .slice Ab nb cb, .bool sc, .slice Ac nc cc] 59)) (.agg #[.bool sb, .slice Ab (min nb 10) cb]) zb 10) (Qc : IsM (w.alloc (.cells #[.bool sa, .slice Aa na ca, .bool sb, .slice Ab nb cb, .bool sc, .slice Ac nc cc] 59)) (.agg #[.bool sc, .slice Ac (min nc 10) cc]) zc 10) (HK : Hid (cmpI za zb = -1)) (HBA : Hid (cmpI zb za = 1)) (HSU : Hid (sgn (za - zb) = -1)) (HEQ : Hid (za ≠ zb)) (HAC : Hid (cmpI (za + zc) (zb + zc) = -1)) (HNE : Hid (cmpI (-za) (-zb) = 1)) (HKL : Hid (za ≤ zb)) : Calls Try.prog 9 #[.agg #[.bool sa, .slice Aa na ca, .bool sb, .slice Ab nb cb, .bool sc, .slice Ac nc cc], .int .i64 n, .int .i64 m] w fun e w' => e = .returned (.bool true) ∧ Below w.heap.size w w' := by
  go_enter Try.func9, Try.ntmps9
  go_wp2_with fail
  refine (cWorks _).mono ?_
  rintro e w1 ⟨_, rfl, hb1, rfl⟩
  replace PV := PV.below hb1
  replace Qa := Qa.below hb1
  replace Qb := Qb.below hb1
  replace Qc := Qc.below hb1
  replace BB := bl_trans BB hb1
  clear hb1
  go_wp2_with fail
  refine wp_region_list (Ext := (BelX (w1).heap.size)) (Rel := (BelU (w1).heap.size)) [fun v _ _ => v = .pointer (some ⟨w.heap.size, 0, none⟩), fun v _ _ => v = .agg #[.bool sa, .slice Aa na ca], fun v _ _ => v = .agg #[.bool sa, .slice Aa (min na 10) ca], fun v _ _ => v = .pointer (some ⟨w.heap.size, 2, none⟩), fun v _ _ => v = .agg #[.bool sb, .slice Ab nb cb], fun v _ _ => v = .agg #[.bool sb, .slice Ab (min nb 10) cb], fun v _ _ => v = .pointer (some ⟨w.heap.size, 4, none⟩), fun v _ _ => v = .agg #[.bool sc, .slice Ac nc cc], fun v _ _ => v = .agg #[.bool sc, .slice Ac (min nc 10) cc], fun v _ w => IsP (w1).heap.size v w, fun v _ w => IsP (w1).heap.size v w, fun v _ w => IsP (w1).heap.size v w, fun _ u w => HasC (w1).heap.size u w sa Aa (min na 10) ca, fun _ u w => HasC (w1).heap.size u w sb Ab (min nb 10) cb, fun _ u w => HasC (w1).heap.size u w sc Ac (min nc 10) cc] (n := 15) (by kernel_rfl) rfl (by kernel_rfl) (by kernel_rfl) (by kernel_rfl) (by kernel_rfl) (by kernel_rfl) (rx_refl _) (rxu_trans _) ⟨sC, ⟨sC, ⟨sC, ⟨sC, ⟨sC, ⟨sC, ⟨sC, ⟨sC, ⟨sC, ⟨xP, ⟨xP, ⟨xP, ⟨xHC, ⟨xHC, ⟨xHC, trivial⟩⟩⟩⟩⟩⟩⟩⟩⟩⟩⟩⟩⟩⟩⟩ ?_ ?_
  · refine ⟨⟨⟨⟨⟨⟨⟨⟨⟨⟨⟨⟨⟨⟨⟨trivial, ?_⟩, ?_⟩, ?_⟩, ?_⟩, ?_⟩, ?_⟩, ?_⟩, ?_⟩, ?_⟩, ?_⟩, ?_⟩, ?_⟩, ?_⟩, ?_⟩, ?_⟩
    · refine rs_plain rfl rfl fun a wr S => ?_
      have X := undrewX S.ext
      exact wp_idx0 (ev_of ((S.old 3 (by kernel_rfl)).trans rfl)) (done (by kernel_rfl) (rxu_refl _) rfl)
    · refine rs_plain rfl rfl fun a wr S => ?_
      have X := undrewX S.ext
      obtain ⟨v0, e0, h0⟩ := S.got 0 (by kernel_rfl)
      exact wp_loadAt ((ev_of (e0 14 (by kernel_rfl))).trans h0) ((PV.below X).at 0 rfl) ((PV.below X).at 1 rfl) (done (by kernel_rfl) (rxu_refl _) rfl)
    · refine rs_plain rfl rfl fun a wr S => ?_
      have X := undrewX S.ext
      obtain ⟨v1, e1, h1⟩ := S.got 1 (by kernel_rfl)
      exact st_call cf_law02_few (args2 ((ev_of (e1 15 (by kernel_rfl))).trans h1) rfl) (by kernel_rfl) (rxu _) (cFew (Ha.out.below (bl_trans BB X)) Ga.out 10 _ rfl (by omega)) (fun _ _ _ h => h)
    · refine rs_plain rfl rfl fun a wr S => ?_
      have X := undrewX S.ext
      exact wp_idx1 (ev_of ((S.old 3 (by kernel_rfl)).trans rfl)) (done (by kernel_rfl) (rxu_refl _) rfl)
    · refine rs_plain rfl rfl fun a wr S => ?_
      have X := undrewX S.ext
      obtain ⟨v3, e3, h3⟩ := S.got 3 (by kernel_rfl)
      exact wp_loadAt ((ev_of (e3 17 (by kernel_rfl))).trans h3) ((PV.below X).at 2 rfl) ((PV.below X).at 3 rfl) (done (by kernel_rfl) (rxu_refl _) rfl)
    · refine rs_plain rfl rfl fun a wr S => ?_
      have X := undrewX S.ext
      obtain ⟨v4, e4, h4⟩ := S.got 4 (by kernel_rfl)
      exact st_call cf_law02_few (args2 ((ev_of (e4 18 (by kernel_rfl))).trans h4) rfl) (by kernel_rfl) (rxu _) (cFew (Hb.out.below (bl_trans BB X)) Gb.out 10 _ rfl (by omega)) (fun _ _ _ h => h)
    · refine rs_plain rfl rfl fun a wr S => ?_
      have X := undrewX S.ext
      exact wp_idx2 (ev_of ((S.old 3 (by kernel_rfl)).trans rfl)) (done (by kernel_rfl) (rxu_refl _) rfl)
    · refine rs_plain rfl rfl fun a wr S => ?_
      have X := undrewX S.ext
      obtain ⟨v6, e6, h6⟩ := S.got 6 (by kernel_rfl)
      exact wp_loadAt ((ev_of (e6 20 (by kernel_rfl))).trans h6) ((PV.below X).at 4 rfl) ((PV.below X).at 5 rfl) (done (by kernel_rfl) (rxu_refl _) rfl)
    · refine rs_plain rfl rfl fun a wr S => ?_
      have X := undrewX S.ext
      obtain ⟨v7, e7, h7⟩ := S.got 7 (by kernel_rfl)
      exact st_call cf_law02_few (args2 ((ev_of (e7 21 (by kernel_rfl))).trans h7) rfl) (by kernel_rfl) (rxu _) (cFew (Hc.out.below (bl_trans BB X)) Gc.out 10 _ rfl (by omega)) (fun _ _ _ h => h)
    · refine rs_plain rfl rfl fun a wr S => ?_
      have X := undrewX S.ext
      refine st_alloc X.size (fun _ _ _ h => h) fun j vj u hj hs => ?_
      have hj' : j ∈ [9, 10, 11] := alloc_cases (by kernel_rfl) j hj
      simp only [List.mem_cons, List.not_mem_nil, or_false] at hj'
      rcases hj' with rfl | rfl | rfl <;> exact hs
    · refine rs_plain rfl rfl fun a wr S => ?_
      have X := undrewX S.ext
      refine st_alloc X.size (fun _ _ _ h => h) fun j vj u hj hs => ?_
      have hj' : j ∈ [9, 10, 11] := alloc_cases (by kernel_rfl) j hj
      simp only [List.mem_cons, List.not_mem_nil, or_false] at hj'
      rcases hj' with rfl | rfl | rfl <;> exact hs
    · refine rs_plain rfl rfl fun a wr S => ?_
      have X := undrewX S.ext
      refine st_alloc X.size (fun _ _ _ h => h) fun j vj u hj hs => ?_
      have hj' : j ∈ [9, 10, 11] := alloc_cases (by kernel_rfl) j hj
      simp only [List.mem_cons, List.not_mem_nil, or_false] at hj'
      rcases hj' with rfl | rfl | rfl <;> exact hs
    · refine rs_plain rfl rfl fun a wr S => ?_
      have X := undrewX S.ext
      obtain ⟨v9, e9, h9⟩ := S.got 9 (by kernel_rfl)
      obtain ⟨v2, e2, h2⟩ := S.got 2 (by kernel_rfl)
      exact st_storeC (by kernel_rfl) (by kernel_rfl) (ev_of (e9 7 (by kernel_rfl))) h9 ((ev_of (e2 16 (by kernel_rfl))).trans h2) (fun _ _ _ h => h)
    · refine rs_plain rfl rfl fun a wr S => ?_
      have X := undrewX S.ext
      obtain ⟨v10, e10, h10⟩ := S.got 10 (by kernel_rfl)
      obtain ⟨v5, e5, h5⟩ := S.got 5 (by kernel_rfl)
      exact st_storeC (by kernel_rfl) (by kernel_rfl) (ev_of (e10 8 (by kernel_rfl))) h10 ((ev_of (e5 19 (by kernel_rfl))).trans h5) (fun _ _ _ h => h)
    · refine rs_plain rfl rfl fun a wr S => ?_
      have X := undrewX S.ext
      obtain ⟨v11, e11, h11⟩ := S.got 11 (by kernel_rfl)
      obtain ⟨v8, e8, h8⟩ := S.got 8 (by kernel_rfl)
      exact st_storeC (by kernel_rfl) (by kernel_rfl) (ev_of (e11 9 (by kernel_rfl))) h11 ((ev_of (e8 22 (by kernel_rfl))).trans h8) (fun _ _ _ h => h)
  · intro f2_ w2 hR hv
    replace hR := undrewX hR
    have f0 : f2_ 0 = .pointer (some ⟨w.heap.size, 0, none⟩) := (hvc (hv 0 (by omega))).elim fun _ h => h
    have f1 : f2_ 1 = .agg #[.bool sa, .slice Aa na ca] := (hvc (hv 1 (by omega))).elim fun _ h => h
    have f2 : f2_ 2 = .agg #[.bool sa, .slice Aa (min na 10) ca] := (hvc (hv 2 (by omega))).elim fun _ h => h
    have f3 : f2_ 3 = .pointer (some ⟨w.heap.size, 2, none⟩) := (hvc (hv 3 (by omega))).elim fun _ h => h
    have f4 : f2_ 4 = .agg #[.bool sb, .slice Ab nb cb] := (hvc (hv 4 (by omega))).elim fun _ h => h
    have f5 : f2_ 5 = .agg #[.bool sb, .slice Ab (min nb 10) cb] := (hvc (hv 5 (by omega))).elim fun _ h => h
    have f6 : f2_ 6 = .pointer (some ⟨w.heap.size, 4, none⟩) := (hvc (hv 6 (by omega))).elim fun _ h => h
    have f7 : f2_ 7 = .agg #[.bool sc, .slice Ac nc cc] := (hvc (hv 7 (by omega))).elim fun _ h => h
    have f8 : f2_ 8 = .agg #[.bool sc, .slice Ac (min nc 10) cc] := (hvc (hv 8 (by omega))).elim fun _ h => h
    obtain ⟨ga, f9, hga, Pa⟩ := (show HasC _ (f2_ 9) w2 sa Aa (min na 10) ca from hvs (hv 12 (by omega)) (by kernel_rfl))
    obtain ⟨gb, f10, hgb, Pb⟩ := (show HasC _ (f2_ 10) w2 sb Ab (min nb 10) cb from hvs (hv 13 (by omega)) (by kernel_rfl))
    obtain ⟨gc, f11, hgc, Pc⟩ := (show HasC _ (f2_ 11) w2 sc Ac (min nc 10) cc from hvs (hv 14 (by omega)) (by kernel_rfl))
    simp only [putFn, Act.put, List.setIfInBounds_toArray, List.set_cons_zero, List.set_cons_succ, f0, f1, f2, f3, f4, f5, f6, f7, f8, f9, f10, f11]
    replace PV := PV.below hR
    replace Qa := Qa.below hR
    replace Qb := Qb.below hR
    replace Qc := Qc.below hR
    replace BB := bl_trans BB hR
    clear hR
    clear hga
    clear hgb
    clear hgc
    clear hv
    clear PV
    clear Ha Ga Hb Gb Hc Gc
    have Pa_0 := Pa.c0
    have Pa_1 := Pa.c1
    have Pb_0 := Pb.c0
    have Pb_1 := Pb.c1
    go_wp2_with fail
    refine (cCmp Qa Qb (by omega) (by omega) HK.out).mono ?_
    rintro e w3 ⟨_, rfl, hb3, rfl⟩
    clear Pa_0 Pa_1 Pb_0 Pb_1
    replace Qa := Qa.below hb3
    replace Qb := Qb.below hb3
    replace Qc := Qc.below hb3
    replace Pa := Pa.below hb3
    replace Pb := Pb.below hb3
    replace Pc := Pc.below hb3
    replace BB := bl_trans BB hb3
    clear hb3
    go_wp2_with fail
    refine wp_region_list (Ext := RB) (Rel := RBu) [fun v _ _ => v = .int .i64 (-1), fun v _ _ => v = .bool false, fun v _ _ => v = .bool false, fun v _ _ => v = .int .i64 (-1), fun v _ _ => v = .bool false, fun v _ _ => v = .bool false, fun v _ _ => v = .bool false, fun v _ w => IsM w v (zb) 10, fun v _ w => IsM w v (za) 10, fun v _ _ => v = .int .i64 1, fun v _ _ => v = .int .i64 (-1), fun v _ _ => v = .int .i64 (-(-1)), fun v _ _ => v = .bool false, fun v _ _ => v = .bool false, fun v _ _ => v = .bool false, fun v _ w => IsM w v (za) 10, fun v _ w => IsM w v (zb) 10, fun v _ w => IsZ (w3).heap.size w v (za - zb) 11, fun v _ _ => v = .int .i64 (-1), fun v _ _ => v = .int .i64 (-1), fun v _ _ => v = .bool false, fun v _ _ => v = .bool false, fun v _ _ => v = .bool false, fun v _ _ => v = .int .i64 (-1), fun v _ _ => v = .bool false, fun v _ w => IsM w v (za) 10, fun v _ w => IsR1 w v (za) 10, fun v _ w => IsZ (w3).heap.size w v (za) 11, fun v _ w => IsM w v (zb) 10, fun v _ w => IsR1 w v (zb) 10, fun v _ w => IsZ (w3).heap.size w v (zb) 11, fun v _ _ => v = .bool false, fun v _ _ => v = .bool false, fun v _ _ => v = .bool false, fun v _ _ => v = .bool false, fun v _ w => IsM w v (za) 10, fun v _ w => IsM w v (zc) 10, fun v _ w => IsR2 w v (za) 10 (zc) 10, fun v _ w => IsZ (w3).heap.size w v (za + zc) 11, fun v _ w => IsM w v (zb) 10, fun v _ w => IsM w v (zc) 10, fun v _ w => IsR2 w v (zb) 10 (zc) 10, fun v _ w => IsZ (w3).heap.size w v (zb + zc) 11, fun v _ _ => v = .int .i64 (-1), fun v _ _ => v = .int .i64 (-1), fun v _ _ => v = .bool false, fun v _ _ => v = .bool false, fun v _ _ => v = .bool false, fun v _ w => IsM w v (za) 10, fun v _ w => IsZ (w3).heap.size w v (-za) 10, fun v _ w => IsM w v (zb) 10, fun v _ w => IsZ (w3).heap.size w v (-zb) 10, fun v _ _ => v = .int .i64 1, fun v _ _ => v = .int .i64 (-1), fun v _ _ => v = .int .i64 (-(-1)), fun v _ _ => v = .bool false, fun v _ _ => v = .bool false] (n := 57) (by kernel_rfl) rfl (by kernel_rfl) (by kernel_rfl) (by kernel_rfl) (by kernel_rfl) (by kernel_rfl) rb_refl rb_trans ⟨sC, ⟨sC, ⟨sC, ⟨sC, ⟨sC, ⟨sC, ⟨sC, ⟨sM, ⟨sM, ⟨sC, ⟨sC, ⟨sC, ⟨sC, ⟨sC, ⟨sC, ⟨sM, ⟨sM, ⟨sZ, ⟨sC, ⟨sC, ⟨sC, ⟨sC, ⟨sC, ⟨sC, ⟨sC, ⟨sM, ⟨sR1, ⟨sZ, ⟨sM, ⟨sR1, ⟨sZ, ⟨sC, ⟨sC, ⟨sC, ⟨sC, ⟨sM, ⟨sM, ⟨sR2, ⟨sZ, ⟨sM, ⟨sM, ⟨sR2, ⟨sZ, ⟨sC, ⟨sC, ⟨sC, ⟨sC, ⟨sC, ⟨sM, ⟨sZ, ⟨sM, ⟨sZ, ⟨sC, ⟨sC, ⟨sC, ⟨sC, ⟨sC, trivial⟩⟩⟩⟩⟩⟩⟩⟩⟩⟩⟩⟩⟩⟩⟩⟩⟩⟩⟩⟩⟩⟩⟩⟩⟩⟩⟩⟩⟩⟩⟩⟩⟩⟩⟩⟩⟩⟩⟩⟩⟩⟩⟩⟩⟩⟩⟩⟩⟩⟩⟩⟩⟩⟩⟩⟩⟩ ?_ ?_
    · refine ⟨⟨⟨⟨⟨⟨⟨⟨⟨⟨⟨⟨⟨⟨⟨⟨⟨⟨⟨⟨⟨⟨⟨⟨⟨⟨⟨⟨⟨⟨⟨⟨⟨⟨⟨⟨⟨⟨⟨⟨⟨⟨⟨⟨⟨⟨⟨⟨⟨⟨⟨⟨⟨⟨⟨⟨⟨trivial, ?_⟩, ?_⟩, ?_⟩, ?_⟩, ?_⟩, ?_⟩, ?_⟩, ?_⟩, ?_⟩, ?_⟩, ?_⟩, ?_⟩, ?_⟩, ?_⟩, ?_⟩, ?_⟩, ?_⟩, ?_⟩, ?_⟩, ?_⟩, ?_⟩, ?_⟩, ?_⟩, ?_⟩, ?_⟩, ?_⟩, ?_⟩, ?_⟩, ?_⟩, ?_⟩, ?_⟩, ?_⟩, ?_⟩, ?_⟩, ?_⟩, ?_⟩, ?_⟩, ?_⟩, ?_⟩, ?_⟩, ?_⟩, ?_⟩, ?_⟩, ?_⟩, ?_⟩, ?_⟩, ?_⟩, ?_⟩, ?_⟩, ?_⟩, ?_⟩, ?_⟩, ?_⟩, ?_⟩, ?_⟩, ?_⟩, ?_⟩
      · refine rs_plain rfl rfl fun a wr S => ?_
        have X := undrew S.ext
        exact wp_mv (ev_of ((S.old 10 (by kernel_rfl)).trans rfl)) (done (by kernel_rfl) rbu_refl rfl)
      · refine rs_plain rfl rfl fun a wr S => ?_
        have X := undrew S.ext
        obtain ⟨v0, e0, h0⟩ := S.got 0 (by kernel_rfl)
        exact wp_ltI ((ev_of (e0 26 (by kernel_rfl))).trans h0) rfl (done (by kernel_rfl) rbu_refl (congrArg Value.bool (by decide)))
      · refine rs_plain rfl rfl fun a wr S => ?_
        have X := undrew S.ext
        obtain ⟨v1, e1, h1⟩ := S.got 1 (by kernel_rfl)
        exact wp_mv ((ev_of (e1 27 (by kernel_rfl))).trans h1) (done (by kernel_rfl) rbu_refl rfl)
      · refine rs_yes rfl rfl (by kernel_rfl) (by kernel_rfl : _ = some 28) (fun _ _ _ h => h) fun a wr S => ?_
        have X := undrew S.ext
        exact wp_mv (ev_of ((S.old 10 (by kernel_rfl)).trans rfl)) (done (by kernel_rfl) rbu_refl rfl)
      · refine rs_yes rfl rfl (by kernel_rfl) (by kernel_rfl : _ = some 28) (fun _ _ _ h => h) fun a wr S => ?_
        have X := undrew S.ext
        obtain ⟨v3, e3, h3⟩ := S.got 3 (by kernel_rfl)
        exact wp_gtI ((ev_of (e3 29 (by kernel_rfl))).trans h3) rfl (done (by kernel_rfl) rbu_refl (congrArg Value.bool (by decide)))
      · refine rs_plain rfl rfl fun a wr S => ?_
        have X := undrew S.ext
        obtain ⟨v2, e2, h2⟩ := S.got 2 (by kernel_rfl)
        obtain ⟨v4, e4, h4⟩ := S.got 4 (by kernel_rfl)
        exact wp_pickF ((ev_of (e2 28 (by kernel_rfl))).trans h2) ((ev_of (e4 30 (by kernel_rfl))).trans h4) (done (by kernel_rfl) rbu_refl rfl)
      · refine rs_plain rfl rfl fun a wr S => ?_
        have X := undrew S.ext
        obtain ⟨v5, e5, h5⟩ := S.got 5 (by kernel_rfl)
        exact wp_mv ((ev_of (e5 31 (by kernel_rfl))).trans h5) (done (by kernel_rfl) rbu_refl rfl)
      · refine rs_yes rfl rfl (by kernel_rfl) (by kernel_rfl : _ = some 32) (fun _ _ _ h => h) fun a wr S => ?_
        have X := undrew S.ext
        exact wp_load (ev_of ((S.old 8 (by kernel_rfl)).trans rfl)) (Pb.below X) (done (by kernel_rfl) rbu_refl (Qb.below X))
      · refine rs_yes rfl rfl (by kernel_rfl) (by kernel_rfl : _ = some 32) (fun _ _ _ h => h) fun a wr S => ?_
        have X := undrew S.ext
        exact wp_load (ev_of ((S.old 7 (by kernel_rfl)).trans rfl)) (Pa.below X) (done (by kernel_rfl) rbu_refl (Qa.below X))
      · refine rs_yes rfl rfl (by kernel_rfl) (by kernel_rfl : _ = some 32) (fun _ _ _ h => h) fun a wr S => ?_
        have X := undrew S.ext
        obtain ⟨v7, e7, h7⟩ := S.got 7 (by kernel_rfl)
        obtain ⟨v8, e8, h8⟩ := S.got 8 (by kernel_rfl)
        exact st_call cf_big_Cmp (args2 (ev_of (e7 33 (by kernel_rfl))) (ev_of (e8 34 (by kernel_rfl)))) (by kernel_rfl) rb (cCmp h7 h8 (by omega) (by omega) HBA.out) (fun _ _ _ h => h)
      · refine rs_yes rfl rfl (by kernel_rfl) (by kernel_rfl : _ = some 32) (fun _ _ _ h => h) fun a wr S => ?_
        have X := undrew S.ext
        exact wp_mv (ev_of ((S.old 10 (by kernel_rfl)).trans rfl)) (done (by kernel_rfl) rbu_refl rfl)
      · refine rs_yes rfl rfl (by kernel_rfl) (by kernel_rfl : _ = some 32) (fun _ _ _ h => h) fun a wr S => ?_
        have X := undrew S.ext
        obtain ⟨v10, e10, h10⟩ := S.got 10 (by kernel_rfl)
        exact wp_negI ((ev_of (e10 36 (by kernel_rfl))).trans h10) (by decide) (by decide) (done (by kernel_rfl) rbu_refl rfl)
      · refine rs_yes rfl rfl (by kernel_rfl) (by kernel_rfl : _ = some 32) (fun _ _ _ h => h) fun a wr S => ?_
        have X := undrew S.ext
        obtain ⟨v9, e9, h9⟩ := S.got 9 (by kernel_rfl)
        obtain ⟨v11, e11, h11⟩ := S.got 11 (by kernel_rfl)
        exact wp_neI ((ev_of (e9 35 (by kernel_rfl))).trans h9) ((ev_of (e11 37 (by kernel_rfl))).trans h11) (Or.inl rfl) (done (by kernel_rfl) rbu_refl (congrArg Value.bool (by decide)))
      · refine rs_plain rfl rfl fun a wr S => ?_
        have X := undrew S.ext
        obtain ⟨v6, e6, h6⟩ := S.got 6 (by kernel_rfl)
        obtain ⟨v12, e12, h12⟩ := S.got 12 (by kernel_rfl)
        exact wp_pickF ((ev_of (e6 32 (by kernel_rfl))).trans h6) ((ev_of (e12 38 (by kernel_rfl))).trans h12) (done (by kernel_rfl) rbu_refl rfl)
      · refine rs_plain rfl rfl fun a wr S => ?_
        have X := undrew S.ext
        obtain ⟨v13, e13, h13⟩ := S.got 13 (by kernel_rfl)
        exact wp_mv ((ev_of (e13 39 (by kernel_rfl))).trans h13) (done (by kernel_rfl) rbu_refl rfl)
      · refine rs_yes rfl rfl (by kernel_rfl) (by kernel_rfl : _ = some 40) (fun _ _ _ h => h) fun a wr S => ?_
        have X := undrew S.ext
        exact wp_load (ev_of ((S.old 7 (by kernel_rfl)).trans rfl)) (Pa.below X) (done (by kernel_rfl) rbu_refl (Qa.below X))
      · refine rs_yes rfl rfl (by kernel_rfl) (by kernel_rfl : _ = some 40) (fun _ _ _ h => h) fun a wr S => ?_
        have X := undrew S.ext
        exact wp_load (ev_of ((S.old 8 (by kernel_rfl)).trans rfl)) (Pb.below X) (done (by kernel_rfl) rbu_refl (Qb.below X))
      · refine rs_yes rfl rfl (by kernel_rfl) (by kernel_rfl : _ = some 40) (fun _ _ _ h => h) fun a wr S => ?_
        have X := undrew S.ext
        obtain ⟨v15, e15, h15⟩ := S.got 15 (by kernel_rfl)
        obtain ⟨v16, e16, h16⟩ := S.got 16 (by kernel_rfl)
        exact st_call cf_big_Sub (args2 (ev_of (e15 41 (by kernel_rfl))) (ev_of (e16 42 (by kernel_rfl)))) (by kernel_rfl) rb (cSub h15 h16 (by omega) (by omega) X.size) (fun _ _ _ h => h)
      · refine rs_yes rfl rfl (by kernel_rfl) (by kernel_rfl : _ = some 40) (fun _ _ _ h => h) fun a wr S => ?_
        have X := undrew S.ext
        obtain ⟨v17, e17, h17⟩ := S.got 17 (by kernel_rfl)
        exact st_call cf_big_Sign (args1 (ev_of (e17 43 (by kernel_rfl)))) (by kernel_rfl) rb (cSign h17.m (by omega) HSU.out) (fun _ _ _ h => h)
      · refine rs_yes rfl rfl (by kernel_rfl) (by kernel_rfl : _ = some 40) (fun _ _ _ h => h) fun a wr S => ?_
        have X := undrew S.ext
        exact wp_mv (ev_of ((S.old 10 (by kernel_rfl)).trans rfl)) (done (by kernel_rfl) rbu_refl rfl)
      · refine rs_yes rfl rfl (by kernel_rfl) (by kernel_rfl : _ = some 40) (fun _ _ _ h => h) fun a wr S => ?_
        have X := undrew S.ext
        obtain ⟨v18, e18, h18⟩ := S.got 18 (by kernel_rfl)
        obtain ⟨v19, e19, h19⟩ := S.got 19 (by kernel_rfl)
        exact wp_neI ((ev_of (e18 44 (by kernel_rfl))).trans h18) ((ev_of (e19 45 (by kernel_rfl))).trans h19) (Or.inl rfl) (done (by kernel_rfl) rbu_refl (congrArg Value.bool (by decide)))
      · refine rs_plain rfl rfl fun a wr S => ?_
        have X := undrew S.ext
        obtain ⟨v14, e14, h14⟩ := S.got 14 (by kernel_rfl)
        obtain ⟨v20, e20, h20⟩ := S.got 20 (by kernel_rfl)
        exact wp_pickF ((ev_of (e14 40 (by kernel_rfl))).trans h14) ((ev_of (e20 46 (by kernel_rfl))).trans h20) (done (by kernel_rfl) rbu_refl rfl)
      · refine rs_plain rfl rfl fun a wr S => ?_
        have X := undrew S.ext
        obtain ⟨v21, e21, h21⟩ := S.got 21 (by kernel_rfl)
        exact wp_mv ((ev_of (e21 47 (by kernel_rfl))).trans h21) (done (by kernel_rfl) rbu_refl rfl)
      · refine rs_yes rfl rfl (by kernel_rfl) (by kernel_rfl : _ = some 48) (fun _ _ _ h => h) fun a wr S => ?_
        have X := undrew S.ext
        exact wp_mv (ev_of ((S.old 10 (by kernel_rfl)).trans rfl)) (done (by kernel_rfl) rbu_refl rfl)
      · refine rs_yes rfl rfl (by kernel_rfl) (by kernel_rfl : _ = some 48) (fun _ _ _ h => h) fun a wr S => ?_
        have X := undrew S.ext
        obtain ⟨v23, e23, h23⟩ := S.got 23 (by kernel_rfl)
        exact wp_eqI ((ev_of (e23 49 (by kernel_rfl))).trans h23) rfl (Or.inl rfl) (done (by kernel_rfl) rbu_refl (congrArg Value.bool (by decide)))
      · refine rs_yes rfl rfl (by kernel_rfl) (by kernel_rfl : _ = some 48) (fun _ _ _ h => h) fun a wr S => ?_
        have X := undrew S.ext
        exact wp_load (ev_of ((S.old 7 (by kernel_rfl)).trans rfl)) (Pa.below X) (done (by kernel_rfl) rbu_refl (Qa.below X))
      · refine rs_yes rfl rfl (by kernel_rfl) (by kernel_rfl : _ = some 48) (fun _ _ _ h => h) fun a wr S => ?_
        have X := undrew S.ext
        obtain ⟨v25, e25, h25⟩ := S.got 25 (by kernel_rfl)
        obtain ⟨b0, A0, n0, c0, hv0, Z0⟩ := (show IsM wr _ _ _ from h25)
        exact wp_bs1 ((ev_of (e25 51 (by kernel_rfl))).trans hv0) (done' (by kernel_rfl) (rb _ _ _ (bl_alloc _ _)) (IsR1.new Z0))
      · refine rs_yes rfl rfl (by kernel_rfl) (by kernel_rfl : _ = some 48) (fun _ _ _ h => h) fun a wr S => ?_
        have X := undrew S.ext
        obtain ⟨v26, e26, h26⟩ := S.got 26 (by kernel_rfl)
        exact st_call cf_big_Add (args1 (ev_of (e26 52 (by kernel_rfl)))) (by kernel_rfl) rb (cAdd1 h26 (by omega) X.size) (fun _ _ _ h => h)
      · refine rs_yes rfl rfl (by kernel_rfl) (by kernel_rfl : _ = some 48) (fun _ _ _ h => h) fun a wr S => ?_
        have X := undrew S.ext
        exact wp_load (ev_of ((S.old 8 (by kernel_rfl)).trans rfl)) (Pb.below X) (done (by kernel_rfl) rbu_refl (Qb.below X))
      · refine rs_yes rfl rfl (by kernel_rfl) (by kernel_rfl : _ = some 48) (fun _ _ _ h => h) fun a wr S => ?_
        have X := undrew S.ext
        obtain ⟨v28, e28, h28⟩ := S.got 28 (by kernel_rfl)
        obtain ⟨b0, A0, n0, c0, hv0, Z0⟩ := (show IsM wr _ _ _ from h28)
        exact wp_bs1 ((ev_of (e28 54 (by kernel_rfl))).trans hv0) (done' (by kernel_rfl) (rb _ _ _ (bl_alloc _ _)) (IsR1.new Z0))
      · refine rs_yes rfl rfl (by kernel_rfl) (by kernel_rfl : _ = some 48) (fun _ _ _ h => h) fun a wr S => ?_
        have X := undrew S.ext
        obtain ⟨v29, e29, h29⟩ := S.got 29 (by kernel_rfl)
        exact st_call cf_big_Add (args1 (ev_of (e29 55 (by kernel_rfl)))) (by kernel_rfl) rb (cAdd1 h29 (by omega) X.size) (fun _ _ _ h => h)
      · refine rs_yes rfl rfl (by kernel_rfl) (by kernel_rfl : _ = some 48) (fun _ _ _ h => h) fun a wr S => ?_
        have X := undrew S.ext
        obtain ⟨v27, e27, h27⟩ := S.got 27 (by kernel_rfl)
        obtain ⟨v30, e30, h30⟩ := S.got 30 (by kernel_rfl)
        exact st_call cf_law02_same (args2 (ev_of (e27 53 (by kernel_rfl))) (ev_of (e30 56 (by kernel_rfl)))) (by kernel_rfl) rb (cSame h27.t h30.t (by omega) (by omega) (decide_eq_false (HEQ.out))) (fun _ _ _ h => h)
      · refine rs_yes rfl rfl (by kernel_rfl) (by kernel_rfl : _ = some 48) (fun _ _ _ h => h) fun a wr S => ?_
        have X := undrew S.ext
        obtain ⟨v24, e24, h24⟩ := S.got 24 (by kernel_rfl)
        obtain ⟨v31, e31, h31⟩ := S.got 31 (by kernel_rfl)
        exact wp_neB ((ev_of (e24 50 (by kernel_rfl))).trans h24) ((ev_of (e31 57 (by kernel_rfl))).trans h31) (done (by kernel_rfl) rbu_refl (congrArg Value.bool (by decide)))
      · refine rs_plain rfl rfl fun a wr S => ?_
        have X := undrew S.ext
        obtain ⟨v22, e22, h22⟩ := S.got 22 (by kernel_rfl)
        obtain ⟨v32, e32, h32⟩ := S.got 32 (by kernel_rfl)
        exact wp_pickF ((ev_of (e22 48 (by kernel_rfl))).trans h22) ((ev_of (e32 58 (by kernel_rfl))).trans h32) (done (by kernel_rfl) rbu_refl rfl)
      · refine rs_plain rfl rfl fun a wr S => ?_
        have X := undrew S.ext
        obtain ⟨v33, e33, h33⟩ := S.got 33 (by kernel_rfl)
        exact wp_mv ((ev_of (e33 59 (by kernel_rfl))).trans h33) (done (by kernel_rfl) rbu_refl rfl)
      · refine rs_yes rfl rfl (by kernel_rfl) (by kernel_rfl : _ = some 60) (fun _ _ _ h => h) fun a wr S => ?_
        have X := undrew S.ext
        exact wp_load (ev_of ((S.old 7 (by kernel_rfl)).trans rfl)) (Pa.below X) (done (by kernel_rfl) rbu_refl (Qa.below X))
      · refine rs_yes rfl rfl (by kernel_rfl) (by kernel_rfl : _ = some 60) (fun _ _ _ h => h) fun a wr S => ?_
        have X := undrew S.ext
        exact wp_load (ev_of ((S.old 9 (by kernel_rfl)).trans rfl)) (Pc.below X) (done (by kernel_rfl) rbu_refl (Qc.below X))
      · refine rs_yes rfl rfl (by kernel_rfl) (by kernel_rfl : _ = some 60) (fun _ _ _ h => h) fun a wr S => ?_
        have X := undrew S.ext
        obtain ⟨v35, e35, h35⟩ := S.got 35 (by kernel_rfl)
        obtain ⟨v36, e36, h36⟩ := S.got 36 (by kernel_rfl)
        obtain ⟨b0, A0, n0, c0, hv0, Z0⟩ := (show IsM wr _ _ _ from h35)
        obtain ⟨b1, A1, n1, c1, hv1, Z1⟩ := (show IsM wr _ _ _ from h36)
        exact wp_bs2 ((ev_of (e35 61 (by kernel_rfl))).trans hv0) ((ev_of (e36 62 (by kernel_rfl))).trans hv1) (done' (by kernel_rfl) (rb _ _ _ (bl_alloc _ _)) (IsR2.new Z0 Z1))
      · refine rs_yes rfl rfl (by kernel_rfl) (by kernel_rfl : _ = some 60) (fun _ _ _ h => h) fun a wr S => ?_
        have X := undrew S.ext
        obtain ⟨v37, e37, h37⟩ := S.got 37 (by kernel_rfl)
        exact st_call cf_big_Add (args1 (ev_of (e37 63 (by kernel_rfl)))) (by kernel_rfl) rb (cAdd2 (z := za) (u := zc) h37 (by omega) (by omega) X.size) (fun _ _ _ h => h)
      · refine rs_yes rfl rfl (by kernel_rfl) (by kernel_rfl : _ = some 60) (fun _ _ _ h => h) fun a wr S => ?_
        have X := undrew S.ext
        exact wp_load (ev_of ((S.old 8 (by kernel_rfl)).trans rfl)) (Pb.below X) (done (by kernel_rfl) rbu_refl (Qb.below X))
      · refine rs_yes rfl rfl (by kernel_rfl) (by kernel_rfl : _ = some 60) (fun _ _ _ h => h) fun a wr S => ?_
        have X := undrew S.ext
        exact wp_load (ev_of ((S.old 9 (by kernel_rfl)).trans rfl)) (Pc.below X) (done (by kernel_rfl) rbu_refl (Qc.below X))
      · refine rs_yes rfl rfl (by kernel_rfl) (by kernel_rfl : _ = some 60) (fun _ _ _ h => h) fun a wr S => ?_
        have X := undrew S.ext
        obtain ⟨v39, e39, h39⟩ := S.got 39 (by kernel_rfl)
        obtain ⟨v40, e40, h40⟩ := S.got 40 (by kernel_rfl)
        obtain ⟨b0, A0, n0, c0, hv0, Z0⟩ := (show IsM wr _ _ _ from h39)
        obtain ⟨b1, A1, n1, c1, hv1, Z1⟩ := (show IsM wr _ _ _ from h40)
        exact wp_bs2 ((ev_of (e39 65 (by kernel_rfl))).trans hv0) ((ev_of (e40 66 (by kernel_rfl))).trans hv1) (done' (by kernel_rfl) (rb _ _ _ (bl_alloc _ _)) (IsR2.new Z0 Z1))
      · refine rs_yes rfl rfl (by kernel_rfl) (by kernel_rfl : _ = some 60) (fun _ _ _ h => h) fun a wr S => ?_
        have X := undrew S.ext
        obtain ⟨v41, e41, h41⟩ := S.got 41 (by kernel_rfl)
        exact st_call cf_big_Add (args1 (ev_of (e41 67 (by kernel_rfl)))) (by kernel_rfl) rb (cAdd2 (z := zb) (u := zc) h41 (by omega) (by omega) X.size) (fun _ _ _ h => h)
      · refine rs_yes rfl rfl (by kernel_rfl) (by kernel_rfl : _ = some 60) (fun _ _ _ h => h) fun a wr S => ?_
        have X := undrew S.ext
        obtain ⟨v38, e38, h38⟩ := S.got 38 (by kernel_rfl)
        obtain ⟨v42, e42, h42⟩ := S.got 42 (by kernel_rfl)
        exact st_call cf_big_Cmp (args2 (ev_of (e38 64 (by kernel_rfl))) (ev_of (e42 68 (by kernel_rfl)))) (by kernel_rfl) rb (cCmp h38.m h42.m (by omega) (by omega) HAC.out) (fun _ _ _ h => h)
      · refine rs_yes rfl rfl (by kernel_rfl) (by kernel_rfl : _ = some 60) (fun _ _ _ h => h) fun a wr S => ?_
        have X := undrew S.ext
        exact wp_mv (ev_of ((S.old 10 (by kernel_rfl)).trans rfl)) (done (by kernel_rfl) rbu_refl rfl)
      · refine rs_yes rfl rfl (by kernel_rfl) (by kernel_rfl : _ = some 60) (fun _ _ _ h => h) fun a wr S => ?_
        have X := undrew S.ext
        obtain ⟨v43, e43, h43⟩ := S.got 43 (by kernel_rfl)
        obtain ⟨v44, e44, h44⟩ := S.got 44 (by kernel_rfl)
        exact wp_neI ((ev_of (e43 69 (by kernel_rfl))).trans h43) ((ev_of (e44 70 (by kernel_rfl))).trans h44) (Or.inl rfl) (done (by kernel_rfl) rbu_refl (congrArg Value.bool (by decide)))
      · refine rs_plain rfl rfl fun a wr S => ?_
        have X := undrew S.ext
        obtain ⟨v34, e34, h34⟩ := S.got 34 (by kernel_rfl)
        obtain ⟨v45, e45, h45⟩ := S.got 45 (by kernel_rfl)
        exact wp_pickF ((ev_of (e34 60 (by kernel_rfl))).trans h34) ((ev_of (e45 71 (by kernel_rfl))).trans h45) (done (by kernel_rfl) rbu_refl rfl)
      · refine rs_plain rfl rfl fun a wr S => ?_
        have X := undrew S.ext
        obtain ⟨v46, e46, h46⟩ := S.got 46 (by kernel_rfl)
        exact wp_mv ((ev_of (e46 72 (by kernel_rfl))).trans h46) (done (by kernel_rfl) rbu_refl rfl)
      · refine rs_yes rfl rfl (by kernel_rfl) (by kernel_rfl : _ = some 73) (fun _ _ _ h => h) fun a wr S => ?_
        have X := undrew S.ext
        exact wp_load (ev_of ((S.old 7 (by kernel_rfl)).trans rfl)) (Pa.below X) (done (by kernel_rfl) rbu_refl (Qa.below X))
      · refine rs_yes rfl rfl (by kernel_rfl) (by kernel_rfl : _ = some 73) (fun _ _ _ h => h) fun a wr S => ?_
        have X := undrew S.ext
        obtain ⟨v48, e48, h48⟩ := S.got 48 (by kernel_rfl)
        exact st_call cf_big_Neg (args1 (ev_of (e48 74 (by kernel_rfl)))) (by kernel_rfl) rb (cNeg h48 (by omega) X.size) (fun _ _ _ h => h)
      · refine rs_yes rfl rfl (by kernel_rfl) (by kernel_rfl : _ = some 73) (fun _ _ _ h => h) fun a wr S => ?_
        have X := undrew S.ext
        exact wp_load (ev_of ((S.old 8 (by kernel_rfl)).trans rfl)) (Pb.below X) (done (by kernel_rfl) rbu_refl (Qb.below X))
      · refine rs_yes rfl rfl (by kernel_rfl) (by kernel_rfl : _ = some 73) (fun _ _ _ h => h) fun a wr S => ?_
        have X := undrew S.ext
        obtain ⟨v50, e50, h50⟩ := S.got 50 (by kernel_rfl)
        exact st_call cf_big_Neg (args1 (ev_of (e50 76 (by kernel_rfl)))) (by kernel_rfl) rb (cNeg h50 (by omega) X.size) (fun _ _ _ h => h)
      · refine rs_yes rfl rfl (by kernel_rfl) (by kernel_rfl : _ = some 73) (fun _ _ _ h => h) fun a wr S => ?_
        have X := undrew S.ext
        obtain ⟨v49, e49, h49⟩ := S.got 49 (by kernel_rfl)
        obtain ⟨v51, e51, h51⟩ := S.got 51 (by kernel_rfl)
        exact st_call cf_big_Cmp (args2 (ev_of (e49 75 (by kernel_rfl))) (ev_of (e51 77 (by kernel_rfl)))) (by kernel_rfl) rb (cCmp h49.m h51.m (by omega) (by omega) HNE.out) (fun _ _ _ h => h)
      · refine rs_yes rfl rfl (by kernel_rfl) (by kernel_rfl : _ = some 73) (fun _ _ _ h => h) fun a wr S => ?_
        have X := undrew S.ext
        exact wp_mv (ev_of ((S.old 10 (by kernel_rfl)).trans rfl)) (done (by kernel_rfl) rbu_refl rfl)
      · refine rs_yes rfl rfl (by kernel_rfl) (by kernel_rfl : _ = some 73) (fun _ _ _ h => h) fun a wr S => ?_
        have X := undrew S.ext
        obtain ⟨v53, e53, h53⟩ := S.got 53 (by kernel_rfl)
        exact wp_negI ((ev_of (e53 79 (by kernel_rfl))).trans h53) (by decide) (by decide) (done (by kernel_rfl) rbu_refl rfl)
      · refine rs_yes rfl rfl (by kernel_rfl) (by kernel_rfl : _ = some 73) (fun _ _ _ h => h) fun a wr S => ?_
        have X := undrew S.ext
        obtain ⟨v52, e52, h52⟩ := S.got 52 (by kernel_rfl)
        obtain ⟨v54, e54, h54⟩ := S.got 54 (by kernel_rfl)
        exact wp_neI ((ev_of (e52 78 (by kernel_rfl))).trans h52) ((ev_of (e54 80 (by kernel_rfl))).trans h54) (Or.inl rfl) (done (by kernel_rfl) rbu_refl (congrArg Value.bool (by decide)))
      · refine rs_plain rfl rfl fun a wr S => ?_
        have X := undrew S.ext
        obtain ⟨v47, e47, h47⟩ := S.got 47 (by kernel_rfl)
        obtain ⟨v55, e55, h55⟩ := S.got 55 (by kernel_rfl)
        exact wp_pickF ((ev_of (e47 73 (by kernel_rfl))).trans h47) ((ev_of (e55 81 (by kernel_rfl))).trans h55) (done (by kernel_rfl) rbu_refl rfl)
    · intro f4_ w4 hR hv
      replace hR := undrew hR
      have f0 : f4_ 0 = .int .i64 (-1) := (hvc (hv 0 (by omega))).elim fun _ h => h
      have f1 : f4_ 1 = .bool false := (hvc (hv 1 (by omega))).elim fun _ h => h
      have f2 : f4_ 2 = .bool false := (hvc (hv 2 (by omega))).elim fun _ h => h
      have f3 : f4_ 3 = .int .i64 (-1) := (hvc (hv 3 (by omega))).elim fun _ h => h
      have f4 : f4_ 4 = .bool false := (hvc (hv 4 (by omega))).elim fun _ h => h
      have f5 : f4_ 5 = .bool false := (hvc (hv 5 (by omega))).elim fun _ h => h
      have f6 : f4_ 6 = .bool false := (hvc (hv 6 (by omega))).elim fun _ h => h
      have f9 : f4_ 9 = .int .i64 1 := (hvc (hv 9 (by omega))).elim fun _ h => h
      have f10 : f4_ 10 = .int .i64 (-1) := (hvc (hv 10 (by omega))).elim fun _ h => h
      have f11 : f4_ 11 = .int .i64 (-(-1)) := (hvc (hv 11 (by omega))).elim fun _ h => h
      have f12 : f4_ 12 = .bool false := (hvc (hv 12 (by omega))).elim fun _ h => h
      have f13 : f4_ 13 = .bool false := (hvc (hv 13 (by omega))).elim fun _ h => h
      have f14 : f4_ 14 = .bool false := (hvc (hv 14 (by omega))).elim fun _ h => h
      have f18 : f4_ 18 = .int .i64 (-1) := (hvc (hv 18 (by omega))).elim fun _ h => h
      have f19 : f4_ 19 = .int .i64 (-1) := (hvc (hv 19 (by omega))).elim fun _ h => h
      have f20 : f4_ 20 = .bool false := (hvc (hv 20 (by omega))).elim fun _ h => h
      have f21 : f4_ 21 = .bool false := (hvc (hv 21 (by omega))).elim fun _ h => h
      have f22 : f4_ 22 = .bool false := (hvc (hv 22 (by omega))).elim fun _ h => h
      have f23 : f4_ 23 = .int .i64 (-1) := (hvc (hv 23 (by omega))).elim fun _ h => h
      have f24 : f4_ 24 = .bool false := (hvc (hv 24 (by omega))).elim fun _ h => h
      have f31 : f4_ 31 = .bool false := (hvc (hv 31 (by omega))).elim fun _ h => h
      have f32 : f4_ 32 = .bool false := (hvc (hv 32 (by omega))).elim fun _ h => h
      have f33 : f4_ 33 = .bool false := (hvc (hv 33 (by omega))).elim fun _ h => h
      have f34 : f4_ 34 = .bool false := (hvc (hv 34 (by omega))).elim fun _ h => h
      have f43 : f4_ 43 = .int .i64 (-1) := (hvc (hv 43 (by omega))).elim fun _ h => h
      have f44 : f4_ 44 = .int .i64 (-1) := (hvc (hv 44 (by omega))).elim fun _ h => h
      have f45 : f4_ 45 = .bool false := (hvc (hv 45 (by omega))).elim fun _ h => h
      have f46 : f4_ 46 = .bool false := (hvc (hv 46 (by omega))).elim fun _ h => h
      have f47 : f4_ 47 = .bool false := (hvc (hv 47 (by omega))).elim fun _ h => h
      have f52 : f4_ 52 = .int .i64 1 := (hvc (hv 52 (by omega))).elim fun _ h => h
      have f53 : f4_ 53 = .int .i64 (-1) := (hvc (hv 53 (by omega))).elim fun _ h => h
      have f54 : f4_ 54 = .int .i64 (-(-1)) := (hvc (hv 54 (by omega))).elim fun _ h => h
      have f55 : f4_ 55 = .bool false := (hvc (hv 55 (by omega))).elim fun _ h => h
      have f56 : f4_ 56 = .bool false := (hvc (hv 56 (by omega))).elim fun _ h => h
      simp only [putFn, Act.put, List.setIfInBounds_toArray, List.set_cons_zero, List.set_cons_succ, f0, f1, f2, f3, f4, f5, f6, f9, f10, f11, f12, f13, f14, f18, f19, f20, f21, f22, f23, f24, f31, f32, f33, f34, f43, f44, f45, f46, f47, f52, f53, f54, f55, f56]
      replace Qa := Qa.below hR
      replace Qb := Qb.below hR
      replace Qc := Qc.below hR
      replace Pa := Pa.below hR
      replace Pb := Pb.below hR
      replace Pc := Pc.below hR
      replace BB := bl_trans BB hR
      clear hR
      clear hv
      clear HBA HSU HEQ HAC HNE
      obtain ⟨qb, hqb⟩ : ∃ q, cmpI zb zc = q := ⟨_, rfl⟩
      have HQB := Lib.hid hqb
      obtain ⟨qa, hqa⟩ : ∃ q, cmpI za zc = q := ⟨_, rfl⟩
      have HQA := Lib.hid hqa
      have hle := cmpI_chain HKL.out hqb hqa
      clear hqb hqa HKL
      by_cases hb1 : qb ≤ 0
      · have ha1 := hle hb1
        clear hle
        have Pb_0 := Pb.c0
        have Pb_1 := Pb.c1
        have Pc_0 := Pc.c0
        have Pc_1 := Pc.c1
        have Pa_0 := Pa.c0
        have Pa_1 := Pa.c1
        go_wp2_with fail
        refine (cCmp Qb Qc (by omega) (by omega) HQB.out).mono ?_
        rintro e w5 ⟨_, rfl, hb5, rfl⟩
        clear Pb_0 Pb_1 Pc_0 Pc_1 Pa_0 Pa_1
        replace Qa := Qa.below hb5
        replace Qb := Qb.below hb5
        replace Qc := Qc.below hb5
        replace Pa := Pa.below hb5
        replace Pb := Pb.below hb5
        replace Pc := Pc.below hb5
        replace BB := bl_trans BB hb5
        clear hb5
        have Pb_0 := Pb.c0
        have Pb_1 := Pb.c1
        have Pc_0 := Pc.c0
        have Pc_1 := Pc.c1
        have Pa_0 := Pa.c0
        have Pa_1 := Pa.c1
        go_wp2_with fail
        refine (cCmp Qa Qc (by omega) (by omega) HQA.out).mono ?_
        rintro e w6 ⟨_, rfl, hb6, rfl⟩
        clear Pb_0 Pb_1 Pc_0 Pc_1 Pa_0 Pa_1
        replace Qa := Qa.below hb6
        replace Qb := Qb.below hb6
        replace Qc := Qc.below hb6
        replace Pa := Pa.below hb6
        replace Pb := Pb.below hb6
        replace Pc := Pc.below hb6
        replace BB := bl_trans BB hb6
        clear hb6
        rcases Int.lt_trichotomy n m with hlt | heq | hgt
        · have HN := Lib.hid (cmpI_lt hlt)
          go_wp2_with fail
          refine (cFrom _ (by omega) (by omega) (Nat.le_refl _)).mono ?_
          rintro e w7 ⟨_, rfl, hb7, b7, A7, n7, c7, rfl, Z7⟩
          replace Qa := Qa.below hb7
          replace Qb := Qb.below hb7
          replace Qc := Qc.below hb7
          replace Pa := Pa.below hb7
          replace Pb := Pb.below hb7
          replace Pc := Pc.below hb7
          replace BB := bl_trans BB hb7
          clear hb7
          have q7 : IsZ _ w7 (.agg #[.bool b7, .slice A7 n7 c7]) (n) 2 := ⟨_, _, _, _, rfl, Z7⟩
          clear Z7
          go_wp2_with fail
          refine (cFrom _ (by omega) (by omega) (Nat.le_refl _)).mono ?_
          rintro e w8 ⟨_, rfl, hb8, b8, A8, n8, c8, rfl, Z8⟩
          replace Qa := Qa.below hb8
          replace Qb := Qb.below hb8
          replace Qc := Qc.below hb8
          replace Pa := Pa.below hb8
          replace Pb := Pb.below hb8
          replace Pc := Pc.below hb8
          replace q7 := q7.below hb8
          replace BB := bl_trans BB hb8
          clear hb8
          have q8 : IsZ _ w8 (.agg #[.bool b8, .slice A8 n8 c8]) (m) 2 := ⟨_, _, _, _, rfl, Z8⟩
          clear Z8
          go_wp2_with fail
          refine (cCmp q7.m q8.m (by omega) (by omega) HN.out).mono ?_
          rintro e w9 ⟨_, rfl, hb9, rfl⟩
          replace Qa := Qa.below hb9
          replace Qb := Qb.below hb9
          replace Qc := Qc.below hb9
          replace Pa := Pa.below hb9
          replace Pb := Pb.below hb9
          replace Pc := Pc.below hb9
          replace q7 := q7.below hb9
          replace q8 := q8.below hb9
          replace BB := bl_trans BB hb9
          clear hb9
          go_wp2_with fail
          go_ret
          exact ⟨rfl, BB⟩
        · have HN := Lib.hid (cmpI_eq heq)
          have hx1 : ¬ n < m := by omega
          have hx2 : ¬ m < n := by omega
          clear heq
          go_wp2_with fail
          refine (cFrom _ (by omega) (by omega) (Nat.le_refl _)).mono ?_
          rintro e w7 ⟨_, rfl, hb7, b7, A7, n7, c7, rfl, Z7⟩
          replace Qa := Qa.below hb7
          replace Qb := Qb.below hb7
          replace Qc := Qc.below hb7
          replace Pa := Pa.below hb7
          replace Pb := Pb.below hb7
          replace Pc := Pc.below hb7
          replace BB := bl_trans BB hb7
          clear hb7
          have q7 : IsZ _ w7 (.agg #[.bool b7, .slice A7 n7 c7]) (n) 2 := ⟨_, _, _, _, rfl, Z7⟩
          clear Z7
          go_wp2_with fail
          refine (cFrom _ (by omega) (by omega) (Nat.le_refl _)).mono ?_
          rintro e w8 ⟨_, rfl, hb8, b8, A8, n8, c8, rfl, Z8⟩
          replace Qa := Qa.below hb8
          replace Qb := Qb.below hb8
          replace Qc := Qc.below hb8
          replace Pa := Pa.below hb8
          replace Pb := Pb.below hb8
          replace Pc := Pc.below hb8
          replace q7 := q7.below hb8
          replace BB := bl_trans BB hb8
          clear hb8
          have q8 : IsZ _ w8 (.agg #[.bool b8, .slice A8 n8 c8]) (m) 2 := ⟨_, _, _, _, rfl, Z8⟩
          clear Z8
          go_wp2_with fail
          refine (cCmp q7.m q8.m (by omega) (by omega) HN.out).mono ?_
          rintro e w9 ⟨_, rfl, hb9, rfl⟩
          replace Qa := Qa.below hb9
          replace Qb := Qb.below hb9
          replace Qc := Qc.below hb9
          replace Pa := Pa.below hb9
          replace Pb := Pb.below hb9
          replace Pc := Pc.below hb9
          replace q7 := q7.below hb9
          replace q8 := q8.below hb9
          replace BB := bl_trans BB hb9
          clear hb9
          go_wp2_with fail
          go_ret
          exact ⟨rfl, BB⟩
        · have HN := Lib.hid (cmpI_gt hgt)
          go_wp2_with fail
          refine (cFrom _ (by omega) (by omega) (Nat.le_refl _)).mono ?_
          rintro e w7 ⟨_, rfl, hb7, b7, A7, n7, c7, rfl, Z7⟩
          replace Qa := Qa.below hb7
          replace Qb := Qb.below hb7
          replace Qc := Qc.below hb7
          replace Pa := Pa.below hb7
          replace Pb := Pb.below hb7
          replace Pc := Pc.below hb7
          replace BB := bl_trans BB hb7
          clear hb7
          have q7 : IsZ _ w7 (.agg #[.bool b7, .slice A7 n7 c7]) (n) 2 := ⟨_, _, _, _, rfl, Z7⟩
          clear Z7
          go_wp2_with fail
          refine (cFrom _ (by omega) (by omega) (Nat.le_refl _)).mono ?_
          rintro e w8 ⟨_, rfl, hb8, b8, A8, n8, c8, rfl, Z8⟩
          replace Qa := Qa.below hb8
          replace Qb := Qb.below hb8
          replace Qc := Qc.below hb8
          replace Pa := Pa.below hb8
          replace Pb := Pb.below hb8
          replace Pc := Pc.below hb8
          replace q7 := q7.below hb8
          replace BB := bl_trans BB hb8
          clear hb8
          have q8 : IsZ _ w8 (.agg #[.bool b8, .slice A8 n8 c8]) (m) 2 := ⟨_, _, _, _, rfl, Z8⟩
          clear Z8
          go_wp2_with fail
          refine (cCmp q7.m q8.m (by omega) (by omega) HN.out).mono ?_
          rintro e w9 ⟨_, rfl, hb9, rfl⟩
          replace Qa := Qa.below hb9
          replace Qb := Qb.below hb9
          replace Qc := Qc.below hb9
          replace Pa := Pa.below hb9
          replace Pb := Pb.below hb9
          replace Pc := Pc.below hb9
          replace q7 := q7.below hb9
          replace q8 := q8.below hb9
          replace BB := bl_trans BB hb9
          clear hb9
          go_wp2_with fail
          go_ret
          exact ⟨rfl, BB⟩
      · clear hle
        have Pb_0 := Pb.c0
        have Pb_1 := Pb.c1
        have Pc_0 := Pc.c0
        have Pc_1 := Pc.c1
        have Pa_0 := Pa.c0
        have Pa_1 := Pa.c1
        go_wp2_with fail
        refine (cCmp Qb Qc (by omega) (by omega) HQB.out).mono ?_
        rintro e w5 ⟨_, rfl, hb5, rfl⟩
        clear Pb_0 Pb_1 Pc_0 Pc_1 Pa_0 Pa_1
        replace Qa := Qa.below hb5
        replace Qb := Qb.below hb5
        replace Qc := Qc.below hb5
        replace Pa := Pa.below hb5
        replace Pb := Pb.below hb5
        replace Pc := Pc.below hb5
        replace BB := bl_trans BB hb5
        clear hb5
        rcases Int.lt_trichotomy n m with hlt | heq | hgt
        · have HN := Lib.hid (cmpI_lt hlt)
          go_wp2_with fail
          refine (cFrom _ (by omega) (by omega) (Nat.le_refl _)).mono ?_
          rintro e w6 ⟨_, rfl, hb6, b6, A6, n6, c6, rfl, Z6⟩
          replace Qa := Qa.below hb6
          replace Qb := Qb.below hb6
          replace Qc := Qc.below hb6
          replace Pa := Pa.below hb6
          replace Pb := Pb.below hb6
          replace Pc := Pc.below hb6
          replace BB := bl_trans BB hb6
          clear hb6
          have q6 : IsZ _ w6 (.agg #[.bool b6, .slice A6 n6 c6]) (n) 2 := ⟨_, _, _, _, rfl, Z6⟩
          clear Z6
          go_wp2_with fail
          refine (cFrom _ (by omega) (by omega) (Nat.le_refl _)).mono ?_
          rintro e w7 ⟨_, rfl, hb7, b7, A7, n7, c7, rfl, Z7⟩
          replace Qa := Qa.below hb7
          replace Qb := Qb.below hb7
          replace Qc := Qc.below hb7
          replace Pa := Pa.below hb7
          replace Pb := Pb.below hb7
          replace Pc := Pc.below hb7
          replace q6 := q6.below hb7
          replace BB := bl_trans BB hb7
          clear hb7
          have q7 : IsZ _ w7 (.agg #[.bool b7, .slice A7 n7 c7]) (m) 2 := ⟨_, _, _, _, rfl, Z7⟩
          clear Z7
          go_wp2_with fail
          refine (cCmp q6.m q7.m (by omega) (by omega) HN.out).mono ?_
          rintro e w8 ⟨_, rfl, hb8, rfl⟩
          replace Qa := Qa.below hb8
          replace Qb := Qb.below hb8
          replace Qc := Qc.below hb8
          replace Pa := Pa.below hb8
          replace Pb := Pb.below hb8
          replace Pc := Pc.below hb8
          replace q6 := q6.below hb8
          replace q7 := q7.below hb8
          replace BB := bl_trans BB hb8
          clear hb8
          go_wp2_with fail
          go_ret
          exact ⟨rfl, BB⟩
        · have HN := Lib.hid (cmpI_eq heq)
          have hx1 : ¬ n < m := by omega
          have hx2 : ¬ m < n := by omega
          clear heq
          go_wp2_with fail
          refine (cFrom _ (by omega) (by omega) (Nat.le_refl _)).mono ?_
          rintro e w6 ⟨_, rfl, hb6, b6, A6, n6, c6, rfl, Z6⟩
          replace Qa := Qa.below hb6
          replace Qb := Qb.below hb6
          replace Qc := Qc.below hb6
          replace Pa := Pa.below hb6
          replace Pb := Pb.below hb6
          replace Pc := Pc.below hb6
          replace BB := bl_trans BB hb6
          clear hb6
          have q6 : IsZ _ w6 (.agg #[.bool b6, .slice A6 n6 c6]) (n) 2 := ⟨_, _, _, _, rfl, Z6⟩
          clear Z6
          go_wp2_with fail
          refine (cFrom _ (by omega) (by omega) (Nat.le_refl _)).mono ?_
          rintro e w7 ⟨_, rfl, hb7, b7, A7, n7, c7, rfl, Z7⟩
          replace Qa := Qa.below hb7
          replace Qb := Qb.below hb7
          replace Qc := Qc.below hb7
          replace Pa := Pa.below hb7
          replace Pb := Pb.below hb7
          replace Pc := Pc.below hb7
          replace q6 := q6.below hb7
          replace BB := bl_trans BB hb7
          clear hb7
          have q7 : IsZ _ w7 (.agg #[.bool b7, .slice A7 n7 c7]) (m) 2 := ⟨_, _, _, _, rfl, Z7⟩
          clear Z7
          go_wp2_with fail
          refine (cCmp q6.m q7.m (by omega) (by omega) HN.out).mono ?_
          rintro e w8 ⟨_, rfl, hb8, rfl⟩
          replace Qa := Qa.below hb8
          replace Qb := Qb.below hb8
          replace Qc := Qc.below hb8
          replace Pa := Pa.below hb8
          replace Pb := Pb.below hb8
          replace Pc := Pc.below hb8
          replace q6 := q6.below hb8
          replace q7 := q7.below hb8
          replace BB := bl_trans BB hb8
          clear hb8
          go_wp2_with fail
          go_ret
          exact ⟨rfl, BB⟩
        · have HN := Lib.hid (cmpI_gt hgt)
          go_wp2_with fail
          refine (cFrom _ (by omega) (by omega) (Nat.le_refl _)).mono ?_
          rintro e w6 ⟨_, rfl, hb6, b6, A6, n6, c6, rfl, Z6⟩
          replace Qa := Qa.below hb6
          replace Qb := Qb.below hb6
          replace Qc := Qc.below hb6
          replace Pa := Pa.below hb6
          replace Pb := Pb.below hb6
          replace Pc := Pc.below hb6
          replace BB := bl_trans BB hb6
          clear hb6
          have q6 : IsZ _ w6 (.agg #[.bool b6, .slice A6 n6 c6]) (n) 2 := ⟨_, _, _, _, rfl, Z6⟩
          clear Z6
          go_wp2_with fail
          refine (cFrom _ (by omega) (by omega) (Nat.le_refl _)).mono ?_
          rintro e w7 ⟨_, rfl, hb7, b7, A7, n7, c7, rfl, Z7⟩
          replace Qa := Qa.below hb7
          replace Qb := Qb.below hb7
          replace Qc := Qc.below hb7
          replace Pa := Pa.below hb7
          replace Pb := Pb.below hb7
          replace Pc := Pc.below hb7
          replace q6 := q6.below hb7
          replace BB := bl_trans BB hb7
          clear hb7
          have q7 : IsZ _ w7 (.agg #[.bool b7, .slice A7 n7 c7]) (m) 2 := ⟨_, _, _, _, rfl, Z7⟩
          clear Z7
          go_wp2_with fail
          refine (cCmp q6.m q7.m (by omega) (by omega) HN.out).mono ?_
          rintro e w8 ⟨_, rfl, hb8, rfl⟩
          replace Qa := Qa.below hb8
          replace Qb := Qb.below hb8
          replace Qc := Qc.below hb8
          replace Pa := Pa.below hb8
          replace Pb := Pb.below hb8
          replace Pc := Pc.below hb8
          replace q6 := q6.below hb8
          replace q7 := q7.below hb8
          replace BB := bl_trans BB hb8
          clear hb8
          go_wp2_with fail
          go_ret
          exact ⟨rfl, BB⟩

set_option maxHeartbeats 4000000 in
theorem bigOrder_E (sa : Bool) (Aa : Option Addr) (na ca : Nat) (xa : List Nat) (sb : Bool) (Ab : Option Addr) (nb cb : Nat) (xb : List Nat) (sc : Bool) (Ac : Option Addr) (nc cc : Nat) (xc : List Nat) (za zb zc : Int) (w : World) (n m : Int) (n0 : -9223372036854775808 ≤ n) (n1 : n < 9223372036854775808) (m0 : -9223372036854775808 ≤ m) (m1 : m < 9223372036854775808) (Ha : Hid (Rd w Aa na ca xa)) (Hb : Hid (Rd w Ab nb cb xb)) (Hc : Hid (Rd w Ac nc cc xc)) (Ga : Hid (na ≤ maxLen)) (Gb : Hid (nb ≤ maxLen)) (Gc : Hid (nc ≤ maxLen)) (BB : Below w.heap.size w (w.alloc (.cells #[.bool sa, .slice Aa na ca, .bool sb, .slice Ab nb cb, .bool sc, .slice Ac nc cc] 59))) (PV : Ar (w.alloc (.cells #[.bool sa, .slice Aa na ca, .bool sb, .slice Ab nb cb, .bool sc, .slice Ac nc cc] 59)) w.heap.size #[.bool sa, .slice Aa na ca, .bool sb, .slice Ab nb cb, .bool sc, .slice Ac nc cc] 59) (Qa : IsM (w.alloc (.cells #[.bool sa, .slice Aa na ca, .bool sb, .slice Ab nb cb, .bool sc, .slice Ac nc cc] 59)) (.agg #[.bool sa, .slice Aa (min na 10) ca]) za 10) (Qb : IsM (w.alloc (.cells #[.bool sa, .slice Aa na ca, .bool sb, .slice Ab nb cb, .bool sc, .slice Ac nc cc] 59)) (.agg #[.bool sb, .slice Ab (min nb 10) cb]) zb 10) (Qc : IsM (w.alloc (.cells #[.bool sa, .slice Aa na ca, .bool sb, .slice Ab nb cb, .bool sc, .slice Ac nc cc] 59)) (.agg #[.bool sc, .slice Ac (min nc 10) cc]) zc 10) (HK : Hid (cmpI za zb = 0)) (HBA : Hid (cmpI zb za = 0)) (HSU : Hid (sgn (za - zb) = 0)) (HEQ : Hid (za = zb)) (HAC : Hid (cmpI (za + zc) (zb + zc) = 0)) (HNE : Hid (cmpI (-za) (-zb) = 0)) (HKL : Hid (za ≤ zb)) : Calls Try.prog 9 #[.agg #[.bool sa, .slice Aa na ca, .bool sb, .slice Ab nb cb, .bool sc, .slice Ac nc cc], .int .i64 n, .int .i64 m] w fun e w' => e = .returned (.bool true) ∧ Below w.heap.size w w' := by
  go_enter Try.func9, Try.ntmps9
  go_wp2_with fail
  refine (cWorks _).mono ?_
  rintro e w1 ⟨_, rfl, hb1, rfl⟩
  replace PV := PV.below hb1
  replace Qa := Qa.below hb1
  replace Qb := Qb.below hb1
  replace Qc := Qc.below hb1
  replace BB := bl_trans BB hb1
  clear hb1
  go_wp2_with fail
  refine wp_region_list (Ext := (BelX (w1).heap.size)) (Rel := (BelU (w1).heap.size)) [fun v _ _ => v = .pointer (some ⟨w.heap.size, 0, none⟩), fun v _ _ => v = .agg #[.bool sa, .slice Aa na ca], fun v _ _ => v = .agg #[.bool sa, .slice Aa (min na 10) ca], fun v _ _ => v = .pointer (some ⟨w.heap.size, 2, none⟩), fun v _ _ => v = .agg #[.bool sb, .slice Ab nb cb], fun v _ _ => v = .agg #[.bool sb, .slice Ab (min nb 10) cb], fun v _ _ => v = .pointer (some ⟨w.heap.size, 4, none⟩), fun v _ _ => v = .agg #[.bool sc, .slice Ac nc cc], fun v _ _ => v = .agg #[.bool sc, .slice Ac (min nc 10) cc], fun v _ w => IsP (w1).heap.size v w, fun v _ w => IsP (w1).heap.size v w, fun v _ w => IsP (w1).heap.size v w, fun _ u w => HasC (w1).heap.size u w sa Aa (min na 10) ca, fun _ u w => HasC (w1).heap.size u w sb Ab (min nb 10) cb, fun _ u w => HasC (w1).heap.size u w sc Ac (min nc 10) cc] (n := 15) (by kernel_rfl) rfl (by kernel_rfl) (by kernel_rfl) (by kernel_rfl) (by kernel_rfl) (by kernel_rfl) (rx_refl _) (rxu_trans _) ⟨sC, ⟨sC, ⟨sC, ⟨sC, ⟨sC, ⟨sC, ⟨sC, ⟨sC, ⟨sC, ⟨xP, ⟨xP, ⟨xP, ⟨xHC, ⟨xHC, ⟨xHC, trivial⟩⟩⟩⟩⟩⟩⟩⟩⟩⟩⟩⟩⟩⟩⟩ ?_ ?_
  · refine ⟨⟨⟨⟨⟨⟨⟨⟨⟨⟨⟨⟨⟨⟨⟨trivial, ?_⟩, ?_⟩, ?_⟩, ?_⟩, ?_⟩, ?_⟩, ?_⟩, ?_⟩, ?_⟩, ?_⟩, ?_⟩, ?_⟩, ?_⟩, ?_⟩, ?_⟩
    · refine rs_plain rfl rfl fun a wr S => ?_
      have X := undrewX S.ext
      exact wp_idx0 (ev_of ((S.old 3 (by kernel_rfl)).trans rfl)) (done (by kernel_rfl) (rxu_refl _) rfl)
    · refine rs_plain rfl rfl fun a wr S => ?_
      have X := undrewX S.ext
      obtain ⟨v0, e0, h0⟩ := S.got 0 (by kernel_rfl)
      exact wp_loadAt ((ev_of (e0 14 (by kernel_rfl))).trans h0) ((PV.below X).at 0 rfl) ((PV.below X).at 1 rfl) (done (by kernel_rfl) (rxu_refl _) rfl)
    · refine rs_plain rfl rfl fun a wr S => ?_
      have X := undrewX S.ext
      obtain ⟨v1, e1, h1⟩ := S.got 1 (by kernel_rfl)
      exact st_call cf_law02_few (args2 ((ev_of (e1 15 (by kernel_rfl))).trans h1) rfl) (by kernel_rfl) (rxu _) (cFew (Ha.out.below (bl_trans BB X)) Ga.out 10 _ rfl (by omega)) (fun _ _ _ h => h)
    · refine rs_plain rfl rfl fun a wr S => ?_
      have X := undrewX S.ext
      exact wp_idx1 (ev_of ((S.old 3 (by kernel_rfl)).trans rfl)) (done (by kernel_rfl) (rxu_refl _) rfl)
    · refine rs_plain rfl rfl fun a wr S => ?_
      have X := undrewX S.ext
      obtain ⟨v3, e3, h3⟩ := S.got 3 (by kernel_rfl)
      exact wp_loadAt ((ev_of (e3 17 (by kernel_rfl))).trans h3) ((PV.below X).at 2 rfl) ((PV.below X).at 3 rfl) (done (by kernel_rfl) (rxu_refl _) rfl)
    · refine rs_plain rfl rfl fun a wr S => ?_
      have X := undrewX S.ext
      obtain ⟨v4, e4, h4⟩ := S.got 4 (by kernel_rfl)
      exact st_call cf_law02_few (args2 ((ev_of (e4 18 (by kernel_rfl))).trans h4) rfl) (by kernel_rfl) (rxu _) (cFew (Hb.out.below (bl_trans BB X)) Gb.out 10 _ rfl (by omega)) (fun _ _ _ h => h)
    · refine rs_plain rfl rfl fun a wr S => ?_
      have X := undrewX S.ext
      exact wp_idx2 (ev_of ((S.old 3 (by kernel_rfl)).trans rfl)) (done (by kernel_rfl) (rxu_refl _) rfl)
    · refine rs_plain rfl rfl fun a wr S => ?_
      have X := undrewX S.ext
      obtain ⟨v6, e6, h6⟩ := S.got 6 (by kernel_rfl)
      exact wp_loadAt ((ev_of (e6 20 (by kernel_rfl))).trans h6) ((PV.below X).at 4 rfl) ((PV.below X).at 5 rfl) (done (by kernel_rfl) (rxu_refl _) rfl)
    · refine rs_plain rfl rfl fun a wr S => ?_
      have X := undrewX S.ext
      obtain ⟨v7, e7, h7⟩ := S.got 7 (by kernel_rfl)
      exact st_call cf_law02_few (args2 ((ev_of (e7 21 (by kernel_rfl))).trans h7) rfl) (by kernel_rfl) (rxu _) (cFew (Hc.out.below (bl_trans BB X)) Gc.out 10 _ rfl (by omega)) (fun _ _ _ h => h)
    · refine rs_plain rfl rfl fun a wr S => ?_
      have X := undrewX S.ext
      refine st_alloc X.size (fun _ _ _ h => h) fun j vj u hj hs => ?_
      have hj' : j ∈ [9, 10, 11] := alloc_cases (by kernel_rfl) j hj
      simp only [List.mem_cons, List.not_mem_nil, or_false] at hj'
      rcases hj' with rfl | rfl | rfl <;> exact hs
    · refine rs_plain rfl rfl fun a wr S => ?_
      have X := undrewX S.ext
      refine st_alloc X.size (fun _ _ _ h => h) fun j vj u hj hs => ?_
      have hj' : j ∈ [9, 10, 11] := alloc_cases (by kernel_rfl) j hj
      simp only [List.mem_cons, List.not_mem_nil, or_false] at hj'
      rcases hj' with rfl | rfl | rfl <;> exact hs
    · refine rs_plain rfl rfl fun a wr S => ?_
      have X := undrewX S.ext
      refine st_alloc X.size (fun _ _ _ h => h) fun j vj u hj hs => ?_
      have hj' : j ∈ [9, 10, 11] := alloc_cases (by kernel_rfl) j hj
      simp only [List.mem_cons, List.not_mem_nil, or_false] at hj'
      rcases hj' with rfl | rfl | rfl <;> exact hs
    · refine rs_plain rfl rfl fun a wr S => ?_
      have X := undrewX S.ext
      obtain ⟨v9, e9, h9⟩ := S.got 9 (by kernel_rfl)
      obtain ⟨v2, e2, h2⟩ := S.got 2 (by kernel_rfl)
      exact st_storeC (by kernel_rfl) (by kernel_rfl) (ev_of (e9 7 (by kernel_rfl))) h9 ((ev_of (e2 16 (by kernel_rfl))).trans h2) (fun _ _ _ h => h)
    · refine rs_plain rfl rfl fun a wr S => ?_
      have X := undrewX S.ext
      obtain ⟨v10, e10, h10⟩ := S.got 10 (by kernel_rfl)
      obtain ⟨v5, e5, h5⟩ := S.got 5 (by kernel_rfl)
      exact st_storeC (by kernel_rfl) (by kernel_rfl) (ev_of (e10 8 (by kernel_rfl))) h10 ((ev_of (e5 19 (by kernel_rfl))).trans h5) (fun _ _ _ h => h)
    · refine rs_plain rfl rfl fun a wr S => ?_
      have X := undrewX S.ext
      obtain ⟨v11, e11, h11⟩ := S.got 11 (by kernel_rfl)
      obtain ⟨v8, e8, h8⟩ := S.got 8 (by kernel_rfl)
      exact st_storeC (by kernel_rfl) (by kernel_rfl) (ev_of (e11 9 (by kernel_rfl))) h11 ((ev_of (e8 22 (by kernel_rfl))).trans h8) (fun _ _ _ h => h)
  · intro f2_ w2 hR hv
    replace hR := undrewX hR
    have f0 : f2_ 0 = .pointer (some ⟨w.heap.size, 0, none⟩) := (hvc (hv 0 (by omega))).elim fun _ h => h
    have f1 : f2_ 1 = .agg #[.bool sa, .slice Aa na ca] := (hvc (hv 1 (by omega))).elim fun _ h => h
    have f2 : f2_ 2 = .agg #[.bool sa, .slice Aa (min na 10) ca] := (hvc (hv 2 (by omega))).elim fun _ h => h
    have f3 : f2_ 3 = .pointer (some ⟨w.heap.size, 2, none⟩) := (hvc (hv 3 (by omega))).elim fun _ h => h
    have f4 : f2_ 4 = .agg #[.bool sb, .slice Ab nb cb] := (hvc (hv 4 (by omega))).elim fun _ h => h
    have f5 : f2_ 5 = .agg #[.bool sb, .slice Ab (min nb 10) cb] := (hvc (hv 5 (by omega))).elim fun _ h => h
    have f6 : f2_ 6 = .pointer (some ⟨w.heap.size, 4, none⟩) := (hvc (hv 6 (by omega))).elim fun _ h => h
    have f7 : f2_ 7 = .agg #[.bool sc, .slice Ac nc cc] := (hvc (hv 7 (by omega))).elim fun _ h => h
    have f8 : f2_ 8 = .agg #[.bool sc, .slice Ac (min nc 10) cc] := (hvc (hv 8 (by omega))).elim fun _ h => h
    obtain ⟨ga, f9, hga, Pa⟩ := (show HasC _ (f2_ 9) w2 sa Aa (min na 10) ca from hvs (hv 12 (by omega)) (by kernel_rfl))
    obtain ⟨gb, f10, hgb, Pb⟩ := (show HasC _ (f2_ 10) w2 sb Ab (min nb 10) cb from hvs (hv 13 (by omega)) (by kernel_rfl))
    obtain ⟨gc, f11, hgc, Pc⟩ := (show HasC _ (f2_ 11) w2 sc Ac (min nc 10) cc from hvs (hv 14 (by omega)) (by kernel_rfl))
    simp only [putFn, Act.put, List.setIfInBounds_toArray, List.set_cons_zero, List.set_cons_succ, f0, f1, f2, f3, f4, f5, f6, f7, f8, f9, f10, f11]
    replace PV := PV.below hR
    replace Qa := Qa.below hR
    replace Qb := Qb.below hR
    replace Qc := Qc.below hR
    replace BB := bl_trans BB hR
    clear hR
    clear hga
    clear hgb
    clear hgc
    clear hv
    clear PV
    clear Ha Ga Hb Gb Hc Gc
    have Pa_0 := Pa.c0
    have Pa_1 := Pa.c1
    have Pb_0 := Pb.c0
    have Pb_1 := Pb.c1
    go_wp2_with fail
    refine (cCmp Qa Qb (by omega) (by omega) HK.out).mono ?_
    rintro e w3 ⟨_, rfl, hb3, rfl⟩
    clear Pa_0 Pa_1 Pb_0 Pb_1
    replace Qa := Qa.below hb3
    replace Qb := Qb.below hb3
    replace Qc := Qc.below hb3
    replace Pa := Pa.below hb3
    replace Pb := Pb.below hb3
    replace Pc := Pc.below hb3
    replace BB := bl_trans BB hb3
    clear hb3
    go_wp2_with fail
    refine wp_region_list (Ext := RB) (Rel := RBu) [fun v _ _ => v = .int .i64 0, fun v _ _ => v = .bool false, fun v _ _ => v = .bool false, fun v _ _ => v = .int .i64 0, fun v _ _ => v = .bool false, fun v _ _ => v = .bool false, fun v _ _ => v = .bool false, fun v _ w => IsM w v (zb) 10, fun v _ w => IsM w v (za) 10, fun v _ _ => v = .int .i64 0, fun v _ _ => v = .int .i64 0, fun v _ _ => v = .int .i64 (-0), fun v _ _ => v = .bool false, fun v _ _ => v = .bool false, fun v _ _ => v = .bool false, fun v _ w => IsM w v (za) 10, fun v _ w => IsM w v (zb) 10, fun v _ w => IsZ (w3).heap.size w v (za - zb) 11, fun v _ _ => v = .int .i64 0, fun v _ _ => v = .int .i64 0, fun v _ _ => v = .bool false, fun v _ _ => v = .bool false, fun v _ _ => v = .bool false, fun v _ _ => v = .int .i64 0, fun v _ _ => v = .bool true, fun v _ w => IsM w v (za) 10, fun v _ w => IsR1 w v (za) 10, fun v _ w => IsZ (w3).heap.size w v (za) 11, fun v _ w => IsM w v (zb) 10, fun v _ w => IsR1 w v (zb) 10, fun v _ w => IsZ (w3).heap.size w v (zb) 11, fun v _ _ => v = .bool true, fun v _ _ => v = .bool false, fun v _ _ => v = .bool false, fun v _ _ => v = .bool false, fun v _ w => IsM w v (za) 10, fun v _ w => IsM w v (zc) 10, fun v _ w => IsR2 w v (za) 10 (zc) 10, fun v _ w => IsZ (w3).heap.size w v (za + zc) 11, fun v _ w => IsM w v (zb) 10, fun v _ w => IsM w v (zc) 10, fun v _ w => IsR2 w v (zb) 10 (zc) 10, fun v _ w => IsZ (w3).heap.size w v (zb + zc) 11, fun v _ _ => v = .int .i64 0, fun v _ _ => v = .int .i64 0, fun v _ _ => v = .bool false, fun v _ _ => v = .bool false, fun v _ _ => v = .bool false, fun v _ w => IsM w v (za) 10, fun v _ w => IsZ (w3).heap.size w v (-za) 10, fun v _ w => IsM w v (zb) 10, fun v _ w => IsZ (w3).heap.size w v (-zb) 10, fun v _ _ => v = .int .i64 0, fun v _ _ => v = .int .i64 0, fun v _ _ => v = .int .i64 (-0), fun v _ _ => v = .bool false, fun v _ _ => v = .bool false] (n := 57) (by kernel_rfl) rfl (by kernel_rfl) (by kernel_rfl) (by kernel_rfl) (by kernel_rfl) (by kernel_rfl) rb_refl rb_trans ⟨sC, ⟨sC, ⟨sC, ⟨sC, ⟨sC, ⟨sC, ⟨sC, ⟨sM, ⟨sM, ⟨sC, ⟨sC, ⟨sC, ⟨sC, ⟨sC, ⟨sC, ⟨sM, ⟨sM, ⟨sZ, ⟨sC, ⟨sC, ⟨sC, ⟨sC, ⟨sC, ⟨sC, ⟨sC, ⟨sM, ⟨sR1, ⟨sZ, ⟨sM, ⟨sR1, ⟨sZ, ⟨sC, ⟨sC, ⟨sC, ⟨sC, ⟨sM, ⟨sM, ⟨sR2, ⟨sZ, ⟨sM, ⟨sM, ⟨sR2, ⟨sZ, ⟨sC, ⟨sC, ⟨sC, ⟨sC, ⟨sC, ⟨sM, ⟨sZ, ⟨sM, ⟨sZ, ⟨sC, ⟨sC, ⟨sC, ⟨sC, ⟨sC, trivial⟩⟩⟩⟩⟩⟩⟩⟩⟩⟩⟩⟩⟩⟩⟩⟩⟩⟩⟩⟩⟩⟩⟩⟩⟩⟩⟩⟩⟩⟩⟩⟩⟩⟩⟩⟩⟩⟩⟩⟩⟩⟩⟩⟩⟩⟩⟩⟩⟩⟩⟩⟩⟩⟩⟩⟩⟩ ?_ ?_
    · refine ⟨⟨⟨⟨⟨⟨⟨⟨⟨⟨⟨⟨⟨⟨⟨⟨⟨⟨⟨⟨⟨⟨⟨⟨⟨⟨⟨⟨⟨⟨⟨⟨⟨⟨⟨⟨⟨⟨⟨⟨⟨⟨⟨⟨⟨⟨⟨⟨⟨⟨⟨⟨⟨⟨⟨⟨⟨trivial, ?_⟩, ?_⟩, ?_⟩, ?_⟩, ?_⟩, ?_⟩, ?_⟩, ?_⟩, ?_⟩, ?_⟩, ?_⟩, ?_⟩, ?_⟩, ?_⟩, ?_⟩, ?_⟩, ?_⟩, ?_⟩, ?_⟩, ?_⟩, ?_⟩, ?_⟩, ?_⟩, ?_⟩, ?_⟩, ?_⟩, ?_⟩, ?_⟩, ?_⟩, ?_⟩, ?_⟩, ?_⟩, ?_⟩, ?_⟩, ?_⟩, ?_⟩, ?_⟩, ?_⟩, ?_⟩, ?_⟩, ?_⟩, ?_⟩, ?_⟩, ?_⟩, ?_⟩, ?_⟩, ?_⟩, ?_⟩, ?_⟩, ?_⟩, ?_⟩, ?_⟩, ?_⟩, ?_⟩, ?_⟩, ?_⟩, ?_⟩
      · refine rs_plain rfl rfl fun a wr S => ?_
        have X := undrew S.ext
        exact wp_mv (ev_of ((S.old 10 (by kernel_rfl)).trans rfl)) (done (by kernel_rfl) rbu_refl rfl)
      · refine rs_plain rfl rfl fun a wr S => ?_
        have X := undrew S.ext
        obtain ⟨v0, e0, h0⟩ := S.got 0 (by kernel_rfl)
        exact wp_ltI ((ev_of (e0 26 (by kernel_rfl))).trans h0) rfl (done (by kernel_rfl) rbu_refl (congrArg Value.bool (by decide)))
      · refine rs_plain rfl rfl fun a wr S => ?_
        have X := undrew S.ext
        obtain ⟨v1, e1, h1⟩ := S.got 1 (by kernel_rfl)
        exact wp_mv ((ev_of (e1 27 (by kernel_rfl))).trans h1) (done (by kernel_rfl) rbu_refl rfl)
      · refine rs_yes rfl rfl (by kernel_rfl) (by kernel_rfl : _ = some 28) (fun _ _ _ h => h) fun a wr S => ?_
        have X := undrew S.ext
        exact wp_mv (ev_of ((S.old 10 (by kernel_rfl)).trans rfl)) (done (by kernel_rfl) rbu_refl rfl)
      · refine rs_yes rfl rfl (by kernel_rfl) (by kernel_rfl : _ = some 28) (fun _ _ _ h => h) fun a wr S => ?_
        have X := undrew S.ext
        obtain ⟨v3, e3, h3⟩ := S.got 3 (by kernel_rfl)
        exact wp_gtI ((ev_of (e3 29 (by kernel_rfl))).trans h3) rfl (done (by kernel_rfl) rbu_refl (congrArg Value.bool (by decide)))
      · refine rs_plain rfl rfl fun a wr S => ?_
        have X := undrew S.ext
        obtain ⟨v2, e2, h2⟩ := S.got 2 (by kernel_rfl)
        obtain ⟨v4, e4, h4⟩ := S.got 4 (by kernel_rfl)
        exact wp_pickF ((ev_of (e2 28 (by kernel_rfl))).trans h2) ((ev_of (e4 30 (by kernel_rfl))).trans h4) (done (by kernel_rfl) rbu_refl rfl)
      · refine rs_plain rfl rfl fun a wr S => ?_
        have X := undrew S.ext
        obtain ⟨v5, e5, h5⟩ := S.got 5 (by kernel_rfl)
        exact wp_mv ((ev_of (e5 31 (by kernel_rfl))).trans h5) (done (by kernel_rfl) rbu_refl rfl)
      · refine rs_yes rfl rfl (by kernel_rfl) (by kernel_rfl : _ = some 32) (fun _ _ _ h => h) fun a wr S => ?_
        have X := undrew S.ext
        exact wp_load (ev_of ((S.old 8 (by kernel_rfl)).trans rfl)) (Pb.below X) (done (by kernel_rfl) rbu_refl (Qb.below X))
      · refine rs_yes rfl rfl (by kernel_rfl) (by kernel_rfl : _ = some 32) (fun _ _ _ h => h) fun a wr S => ?_
        have X := undrew S.ext
        exact wp_load (ev_of ((S.old 7 (by kernel_rfl)).trans rfl)) (Pa.below X) (done (by kernel_rfl) rbu_refl (Qa.below X))
      · refine rs_yes rfl rfl (by kernel_rfl) (by kernel_rfl : _ = some 32) (fun _ _ _ h => h) fun a wr S => ?_
        have X := undrew S.ext
        obtain ⟨v7, e7, h7⟩ := S.got 7 (by kernel_rfl)
        obtain ⟨v8, e8, h8⟩ := S.got 8 (by kernel_rfl)
        exact st_call cf_big_Cmp (args2 (ev_of (e7 33 (by kernel_rfl))) (ev_of (e8 34 (by kernel_rfl)))) (by kernel_rfl) rb (cCmp h7 h8 (by omega) (by omega) HBA.out) (fun _ _ _ h => h)
      · refine rs_yes rfl rfl (by kernel_rfl) (by kernel_rfl : _ = some 32) (fun _ _ _ h => h) fun a wr S => ?_
        have X := undrew S.ext
        exact wp_mv (ev_of ((S.old 10 (by kernel_rfl)).trans rfl)) (done (by kernel_rfl) rbu_refl rfl)
      · refine rs_yes rfl rfl (by kernel_rfl) (by kernel_rfl : _ = some 32) (fun _ _ _ h => h) fun a wr S => ?_
        have X := undrew S.ext
        obtain ⟨v10, e10, h10⟩ := S.got 10 (by kernel_rfl)
        exact wp_negI ((ev_of (e10 36 (by kernel_rfl))).trans h10) (by decide) (by decide) (done (by kernel_rfl) rbu_refl rfl)
      · refine rs_yes rfl rfl (by kernel_rfl) (by kernel_rfl : _ = some 32) (fun _ _ _ h => h) fun a wr S => ?_
        have X := undrew S.ext
        obtain ⟨v9, e9, h9⟩ := S.got 9 (by kernel_rfl)
        obtain ⟨v11, e11, h11⟩ := S.got 11 (by kernel_rfl)
        exact wp_neI ((ev_of (e9 35 (by kernel_rfl))).trans h9) ((ev_of (e11 37 (by kernel_rfl))).trans h11) (Or.inl rfl) (done (by kernel_rfl) rbu_refl (congrArg Value.bool (by decide)))
      · refine rs_plain rfl rfl fun a wr S => ?_
        have X := undrew S.ext
        obtain ⟨v6, e6, h6⟩ := S.got 6 (by kernel_rfl)
        obtain ⟨v12, e12, h12⟩ := S.got 12 (by kernel_rfl)
        exact wp_pickF ((ev_of (e6 32 (by kernel_rfl))).trans h6) ((ev_of (e12 38 (by kernel_rfl))).trans h12) (done (by kernel_rfl) rbu_refl rfl)
      · refine rs_plain rfl rfl fun a wr S => ?_
        have X := undrew S.ext
        obtain ⟨v13, e13, h13⟩ := S.got 13 (by kernel_rfl)
        exact wp_mv ((ev_of (e13 39 (by kernel_rfl))).trans h13) (done (by kernel_rfl) rbu_refl rfl)
      · refine rs_yes rfl rfl (by kernel_rfl) (by kernel_rfl : _ = some 40) (fun _ _ _ h => h) fun a wr S => ?_
        have X := undrew S.ext
        exact wp_load (ev_of ((S.old 7 (by kernel_rfl)).trans rfl)) (Pa.below X) (done (by kernel_rfl) rbu_refl (Qa.below X))
      · refine rs_yes rfl rfl (by kernel_rfl) (by kernel_rfl : _ = some 40) (fun _ _ _ h => h) fun a wr S => ?_
        have X := undrew S.ext
        exact wp_load (ev_of ((S.old 8 (by kernel_rfl)).trans rfl)) (Pb.below X) (done (by kernel_rfl) rbu_refl (Qb.below X))
      · refine rs_yes rfl rfl (by kernel_rfl) (by kernel_rfl : _ = some 40) (fun _ _ _ h => h) fun a wr S => ?_
        have X := undrew S.ext
        obtain ⟨v15, e15, h15⟩ := S.got 15 (by kernel_rfl)
        obtain ⟨v16, e16, h16⟩ := S.got 16 (by kernel_rfl)
        exact st_call cf_big_Sub (args2 (ev_of (e15 41 (by kernel_rfl))) (ev_of (e16 42 (by kernel_rfl)))) (by kernel_rfl) rb (cSub h15 h16 (by omega) (by omega) X.size) (fun _ _ _ h => h)
      · refine rs_yes rfl rfl (by kernel_rfl) (by kernel_rfl : _ = some 40) (fun _ _ _ h => h) fun a wr S => ?_
        have X := undrew S.ext
        obtain ⟨v17, e17, h17⟩ := S.got 17 (by kernel_rfl)
        exact st_call cf_big_Sign (args1 (ev_of (e17 43 (by kernel_rfl)))) (by kernel_rfl) rb (cSign h17.m (by omega) HSU.out) (fun _ _ _ h => h)
      · refine rs_yes rfl rfl (by kernel_rfl) (by kernel_rfl : _ = some 40) (fun _ _ _ h => h) fun a wr S => ?_
        have X := undrew S.ext
        exact wp_mv (ev_of ((S.old 10 (by kernel_rfl)).trans rfl)) (done (by kernel_rfl) rbu_refl rfl)
      · refine rs_yes rfl rfl (by kernel_rfl) (by kernel_rfl : _ = some 40) (fun _ _ _ h => h) fun a wr S => ?_
        have X := undrew S.ext
        obtain ⟨v18, e18, h18⟩ := S.got 18 (by kernel_rfl)
        obtain ⟨v19, e19, h19⟩ := S.got 19 (by kernel_rfl)
        exact wp_neI ((ev_of (e18 44 (by kernel_rfl))).trans h18) ((ev_of (e19 45 (by kernel_rfl))).trans h19) (Or.inl rfl) (done (by kernel_rfl) rbu_refl (congrArg Value.bool (by decide)))
      · refine rs_plain rfl rfl fun a wr S => ?_
        have X := undrew S.ext
        obtain ⟨v14, e14, h14⟩ := S.got 14 (by kernel_rfl)
        obtain ⟨v20, e20, h20⟩ := S.got 20 (by kernel_rfl)
        exact wp_pickF ((ev_of (e14 40 (by kernel_rfl))).trans h14) ((ev_of (e20 46 (by kernel_rfl))).trans h20) (done (by kernel_rfl) rbu_refl rfl)
      · refine rs_plain rfl rfl fun a wr S => ?_
        have X := undrew S.ext
        obtain ⟨v21, e21, h21⟩ := S.got 21 (by kernel_rfl)
        exact wp_mv ((ev_of (e21 47 (by kernel_rfl))).trans h21) (done (by kernel_rfl) rbu_refl rfl)
      · refine rs_yes rfl rfl (by kernel_rfl) (by kernel_rfl : _ = some 48) (fun _ _ _ h => h) fun a wr S => ?_
        have X := undrew S.ext
        exact wp_mv (ev_of ((S.old 10 (by kernel_rfl)).trans rfl)) (done (by kernel_rfl) rbu_refl rfl)
      · refine rs_yes rfl rfl (by kernel_rfl) (by kernel_rfl : _ = some 48) (fun _ _ _ h => h) fun a wr S => ?_
        have X := undrew S.ext
        obtain ⟨v23, e23, h23⟩ := S.got 23 (by kernel_rfl)
        exact wp_eqI ((ev_of (e23 49 (by kernel_rfl))).trans h23) rfl (Or.inl rfl) (done (by kernel_rfl) rbu_refl (congrArg Value.bool (by decide)))
      · refine rs_yes rfl rfl (by kernel_rfl) (by kernel_rfl : _ = some 48) (fun _ _ _ h => h) fun a wr S => ?_
        have X := undrew S.ext
        exact wp_load (ev_of ((S.old 7 (by kernel_rfl)).trans rfl)) (Pa.below X) (done (by kernel_rfl) rbu_refl (Qa.below X))
      · refine rs_yes rfl rfl (by kernel_rfl) (by kernel_rfl : _ = some 48) (fun _ _ _ h => h) fun a wr S => ?_
        have X := undrew S.ext
        obtain ⟨v25, e25, h25⟩ := S.got 25 (by kernel_rfl)
        obtain ⟨b0, A0, n0, c0, hv0, Z0⟩ := (show IsM wr _ _ _ from h25)
        exact wp_bs1 ((ev_of (e25 51 (by kernel_rfl))).trans hv0) (done' (by kernel_rfl) (rb _ _ _ (bl_alloc _ _)) (IsR1.new Z0))
      · refine rs_yes rfl rfl (by kernel_rfl) (by kernel_rfl : _ = some 48) (fun _ _ _ h => h) fun a wr S => ?_
        have X := undrew S.ext
        obtain ⟨v26, e26, h26⟩ := S.got 26 (by kernel_rfl)
        exact st_call cf_big_Add (args1 (ev_of (e26 52 (by kernel_rfl)))) (by kernel_rfl) rb (cAdd1 h26 (by omega) X.size) (fun _ _ _ h => h)
      · refine rs_yes rfl rfl (by kernel_rfl) (by kernel_rfl : _ = some 48) (fun _ _ _ h => h) fun a wr S => ?_
        have X := undrew S.ext
        exact wp_load (ev_of ((S.old 8 (by kernel_rfl)).trans rfl)) (Pb.below X) (done (by kernel_rfl) rbu_refl (Qb.below X))
      · refine rs_yes rfl rfl (by kernel_rfl) (by kernel_rfl : _ = some 48) (fun _ _ _ h => h) fun a wr S => ?_
        have X := undrew S.ext
        obtain ⟨v28, e28, h28⟩ := S.got 28 (by kernel_rfl)
        obtain ⟨b0, A0, n0, c0, hv0, Z0⟩ := (show IsM wr _ _ _ from h28)
        exact wp_bs1 ((ev_of (e28 54 (by kernel_rfl))).trans hv0) (done' (by kernel_rfl) (rb _ _ _ (bl_alloc _ _)) (IsR1.new Z0))
      · refine rs_yes rfl rfl (by kernel_rfl) (by kernel_rfl : _ = some 48) (fun _ _ _ h => h) fun a wr S => ?_
        have X := undrew S.ext
        obtain ⟨v29, e29, h29⟩ := S.got 29 (by kernel_rfl)
        exact st_call cf_big_Add (args1 (ev_of (e29 55 (by kernel_rfl)))) (by kernel_rfl) rb (cAdd1 h29 (by omega) X.size) (fun _ _ _ h => h)
      · refine rs_yes rfl rfl (by kernel_rfl) (by kernel_rfl : _ = some 48) (fun _ _ _ h => h) fun a wr S => ?_
        have X := undrew S.ext
        obtain ⟨v27, e27, h27⟩ := S.got 27 (by kernel_rfl)
        obtain ⟨v30, e30, h30⟩ := S.got 30 (by kernel_rfl)
        exact st_call cf_law02_same (args2 (ev_of (e27 53 (by kernel_rfl))) (ev_of (e30 56 (by kernel_rfl)))) (by kernel_rfl) rb (cSame h27.t h30.t (by omega) (by omega) (decide_eq_true (HEQ.out))) (fun _ _ _ h => h)
      · refine rs_yes rfl rfl (by kernel_rfl) (by kernel_rfl : _ = some 48) (fun _ _ _ h => h) fun a wr S => ?_
        have X := undrew S.ext
        obtain ⟨v24, e24, h24⟩ := S.got 24 (by kernel_rfl)
        obtain ⟨v31, e31, h31⟩ := S.got 31 (by kernel_rfl)
        exact wp_neB ((ev_of (e24 50 (by kernel_rfl))).trans h24) ((ev_of (e31 57 (by kernel_rfl))).trans h31) (done (by kernel_rfl) rbu_refl (congrArg Value.bool (by decide)))
      · refine rs_plain rfl rfl fun a wr S => ?_
        have X := undrew S.ext
        obtain ⟨v22, e22, h22⟩ := S.got 22 (by kernel_rfl)
        obtain ⟨v32, e32, h32⟩ := S.got 32 (by kernel_rfl)
        exact wp_pickF ((ev_of (e22 48 (by kernel_rfl))).trans h22) ((ev_of (e32 58 (by kernel_rfl))).trans h32) (done (by kernel_rfl) rbu_refl rfl)
      · refine rs_plain rfl rfl fun a wr S => ?_
        have X := undrew S.ext
        obtain ⟨v33, e33, h33⟩ := S.got 33 (by kernel_rfl)
        exact wp_mv ((ev_of (e33 59 (by kernel_rfl))).trans h33) (done (by kernel_rfl) rbu_refl rfl)
      · refine rs_yes rfl rfl (by kernel_rfl) (by kernel_rfl : _ = some 60) (fun _ _ _ h => h) fun a wr S => ?_
        have X := undrew S.ext
        exact wp_load (ev_of ((S.old 7 (by kernel_rfl)).trans rfl)) (Pa.below X) (done (by kernel_rfl) rbu_refl (Qa.below X))
      · refine rs_yes rfl rfl (by kernel_rfl) (by kernel_rfl : _ = some 60) (fun _ _ _ h => h) fun a wr S => ?_
        have X := undrew S.ext
        exact wp_load (ev_of ((S.old 9 (by kernel_rfl)).trans rfl)) (Pc.below X) (done (by kernel_rfl) rbu_refl (Qc.below X))
      · refine rs_yes rfl rfl (by kernel_rfl) (by kernel_rfl : _ = some 60) (fun _ _ _ h => h) fun a wr S => ?_
        have X := undrew S.ext
        obtain ⟨v35, e35, h35⟩ := S.got 35 (by kernel_rfl)
        obtain ⟨v36, e36, h36⟩ := S.got 36 (by kernel_rfl)
        obtain ⟨b0, A0, n0, c0, hv0, Z0⟩ := (show IsM wr _ _ _ from h35)
        obtain ⟨b1, A1, n1, c1, hv1, Z1⟩ := (show IsM wr _ _ _ from h36)
        exact wp_bs2 ((ev_of (e35 61 (by kernel_rfl))).trans hv0) ((ev_of (e36 62 (by kernel_rfl))).trans hv1) (done' (by kernel_rfl) (rb _ _ _ (bl_alloc _ _)) (IsR2.new Z0 Z1))
      · refine rs_yes rfl rfl (by kernel_rfl) (by kernel_rfl : _ = some 60) (fun _ _ _ h => h) fun a wr S => ?_
        have X := undrew S.ext
        obtain ⟨v37, e37, h37⟩ := S.got 37 (by kernel_rfl)
        exact st_call cf_big_Add (args1 (ev_of (e37 63 (by kernel_rfl)))) (by kernel_rfl) rb (cAdd2 (z := za) (u := zc) h37 (by omega) (by omega) X.size) (fun _ _ _ h => h)
      · refine rs_yes rfl rfl (by kernel_rfl) (by kernel_rfl : _ = some 60) (fun _ _ _ h => h) fun a wr S => ?_
        have X := undrew S.ext
        exact wp_load (ev_of ((S.old 8 (by kernel_rfl)).trans rfl)) (Pb.below X) (done (by kernel_rfl) rbu_refl (Qb.below X))
      · refine rs_yes rfl rfl (by kernel_rfl) (by kernel_rfl : _ = some 60) (fun _ _ _ h => h) fun a wr S => ?_
        have X := undrew S.ext
        exact wp_load (ev_of ((S.old 9 (by kernel_rfl)).trans rfl)) (Pc.below X) (done (by kernel_rfl) rbu_refl (Qc.below X))
      · refine rs_yes rfl rfl (by kernel_rfl) (by kernel_rfl : _ = some 60) (fun _ _ _ h => h) fun a wr S => ?_
        have X := undrew S.ext
        obtain ⟨v39, e39, h39⟩ := S.got 39 (by kernel_rfl)
        obtain ⟨v40, e40, h40⟩ := S.got 40 (by kernel_rfl)
        obtain ⟨b0, A0, n0, c0, hv0, Z0⟩ := (show IsM wr _ _ _ from h39)
        obtain ⟨b1, A1, n1, c1, hv1, Z1⟩ := (show IsM wr _ _ _ from h40)
        exact wp_bs2 ((ev_of (e39 65 (by kernel_rfl))).trans hv0) ((ev_of (e40 66 (by kernel_rfl))).trans hv1) (done' (by kernel_rfl) (rb _ _ _ (bl_alloc _ _)) (IsR2.new Z0 Z1))
      · refine rs_yes rfl rfl (by kernel_rfl) (by kernel_rfl : _ = some 60) (fun _ _ _ h => h) fun a wr S => ?_
        have X := undrew S.ext
        obtain ⟨v41, e41, h41⟩ := S.got 41 (by kernel_rfl)
        exact st_call cf_big_Add (args1 (ev_of (e41 67 (by kernel_rfl)))) (by kernel_rfl) rb (cAdd2 (z := zb) (u := zc) h41 (by omega) (by omega) X.size) (fun _ _ _ h => h)
      · refine rs_yes rfl rfl (by kernel_rfl) (by kernel_rfl : _ = some 60) (fun _ _ _ h => h) fun a wr S => ?_
        have X := undrew S.ext
        obtain ⟨v38, e38, h38⟩ := S.got 38 (by kernel_rfl)
        obtain ⟨v42, e42, h42⟩ := S.got 42 (by kernel_rfl)
        exact st_call cf_big_Cmp (args2 (ev_of (e38 64 (by kernel_rfl))) (ev_of (e42 68 (by kernel_rfl)))) (by kernel_rfl) rb (cCmp h38.m h42.m (by omega) (by omega) HAC.out) (fun _ _ _ h => h)
      · refine rs_yes rfl rfl (by kernel_rfl) (by kernel_rfl : _ = some 60) (fun _ _ _ h => h) fun a wr S => ?_
        have X := undrew S.ext
        exact wp_mv (ev_of ((S.old 10 (by kernel_rfl)).trans rfl)) (done (by kernel_rfl) rbu_refl rfl)
      · refine rs_yes rfl rfl (by kernel_rfl) (by kernel_rfl : _ = some 60) (fun _ _ _ h => h) fun a wr S => ?_
        have X := undrew S.ext
        obtain ⟨v43, e43, h43⟩ := S.got 43 (by kernel_rfl)
        obtain ⟨v44, e44, h44⟩ := S.got 44 (by kernel_rfl)
        exact wp_neI ((ev_of (e43 69 (by kernel_rfl))).trans h43) ((ev_of (e44 70 (by kernel_rfl))).trans h44) (Or.inl rfl) (done (by kernel_rfl) rbu_refl (congrArg Value.bool (by decide)))
      · refine rs_plain rfl rfl fun a wr S => ?_
        have X := undrew S.ext
        obtain ⟨v34, e34, h34⟩ := S.got 34 (by kernel_rfl)
        obtain ⟨v45, e45, h45⟩ := S.got 45 (by kernel_rfl)
        exact wp_pickF ((ev_of (e34 60 (by kernel_rfl))).trans h34) ((ev_of (e45 71 (by kernel_rfl))).trans h45) (done (by kernel_rfl) rbu_refl rfl)
      · refine rs_plain rfl rfl fun a wr S => ?_
        have X := undrew S.ext
        obtain ⟨v46, e46, h46⟩ := S.got 46 (by kernel_rfl)
        exact wp_mv ((ev_of (e46 72 (by kernel_rfl))).trans h46) (done (by kernel_rfl) rbu_refl rfl)
      · refine rs_yes rfl rfl (by kernel_rfl) (by kernel_rfl : _ = some 73) (fun _ _ _ h => h) fun a wr S => ?_
        have X := undrew S.ext
        exact wp_load (ev_of ((S.old 7 (by kernel_rfl)).trans rfl)) (Pa.below X) (done (by kernel_rfl) rbu_refl (Qa.below X))
      · refine rs_yes rfl rfl (by kernel_rfl) (by kernel_rfl : _ = some 73) (fun _ _ _ h => h) fun a wr S => ?_
        have X := undrew S.ext
        obtain ⟨v48, e48, h48⟩ := S.got 48 (by kernel_rfl)
        exact st_call cf_big_Neg (args1 (ev_of (e48 74 (by kernel_rfl)))) (by kernel_rfl) rb (cNeg h48 (by omega) X.size) (fun _ _ _ h => h)
      · refine rs_yes rfl rfl (by kernel_rfl) (by kernel_rfl : _ = some 73) (fun _ _ _ h => h) fun a wr S => ?_
        have X := undrew S.ext
        exact wp_load (ev_of ((S.old 8 (by kernel_rfl)).trans rfl)) (Pb.below X) (done (by kernel_rfl) rbu_refl (Qb.below X))
      · refine rs_yes rfl rfl (by kernel_rfl) (by kernel_rfl : _ = some 73) (fun _ _ _ h => h) fun a wr S => ?_
        have X := undrew S.ext
        obtain ⟨v50, e50, h50⟩ := S.got 50 (by kernel_rfl)
        exact st_call cf_big_Neg (args1 (ev_of (e50 76 (by kernel_rfl)))) (by kernel_rfl) rb (cNeg h50 (by omega) X.size) (fun _ _ _ h => h)
      · refine rs_yes rfl rfl (by kernel_rfl) (by kernel_rfl : _ = some 73) (fun _ _ _ h => h) fun a wr S => ?_
        have X := undrew S.ext
        obtain ⟨v49, e49, h49⟩ := S.got 49 (by kernel_rfl)
        obtain ⟨v51, e51, h51⟩ := S.got 51 (by kernel_rfl)
        exact st_call cf_big_Cmp (args2 (ev_of (e49 75 (by kernel_rfl))) (ev_of (e51 77 (by kernel_rfl)))) (by kernel_rfl) rb (cCmp h49.m h51.m (by omega) (by omega) HNE.out) (fun _ _ _ h => h)
      · refine rs_yes rfl rfl (by kernel_rfl) (by kernel_rfl : _ = some 73) (fun _ _ _ h => h) fun a wr S => ?_
        have X := undrew S.ext
        exact wp_mv (ev_of ((S.old 10 (by kernel_rfl)).trans rfl)) (done (by kernel_rfl) rbu_refl rfl)
      · refine rs_yes rfl rfl (by kernel_rfl) (by kernel_rfl : _ = some 73) (fun _ _ _ h => h) fun a wr S => ?_
        have X := undrew S.ext
        obtain ⟨v53, e53, h53⟩ := S.got 53 (by kernel_rfl)
        exact wp_negI ((ev_of (e53 79 (by kernel_rfl))).trans h53) (by decide) (by decide) (done (by kernel_rfl) rbu_refl rfl)
      · refine rs_yes rfl rfl (by kernel_rfl) (by kernel_rfl : _ = some 73) (fun _ _ _ h => h) fun a wr S => ?_
        have X := undrew S.ext
        obtain ⟨v52, e52, h52⟩ := S.got 52 (by kernel_rfl)
        obtain ⟨v54, e54, h54⟩ := S.got 54 (by kernel_rfl)
        exact wp_neI ((ev_of (e52 78 (by kernel_rfl))).trans h52) ((ev_of (e54 80 (by kernel_rfl))).trans h54) (Or.inl rfl) (done (by kernel_rfl) rbu_refl (congrArg Value.bool (by decide)))
      · refine rs_plain rfl rfl fun a wr S => ?_
        have X := undrew S.ext
        obtain ⟨v47, e47, h47⟩ := S.got 47 (by kernel_rfl)
        obtain ⟨v55, e55, h55⟩ := S.got 55 (by kernel_rfl)
        exact wp_pickF ((ev_of (e47 73 (by kernel_rfl))).trans h47) ((ev_of (e55 81 (by kernel_rfl))).trans h55) (done (by kernel_rfl) rbu_refl rfl)
    · intro f4_ w4 hR hv
      replace hR := undrew hR
      have f0 : f4_ 0 = .int .i64 0 := (hvc (hv 0 (by omega))).elim fun _ h => h
      have f1 : f4_ 1 = .bool false := (hvc (hv 1 (by omega))).elim fun _ h => h
      have f2 : f4_ 2 = .bool false := (hvc (hv 2 (by omega))).elim fun _ h => h
      have f3 : f4_ 3 = .int .i64 0 := (hvc (hv 3 (by omega))).elim fun _ h => h
      have f4 : f4_ 4 = .bool false := (hvc (hv 4 (by omega))).elim fun _ h => h
      have f5 : f4_ 5 = .bool false := (hvc (hv 5 (by omega))).elim fun _ h => h
      have f6 : f4_ 6 = .bool false := (hvc (hv 6 (by omega))).elim fun _ h => h
      have f9 : f4_ 9 = .int .i64 0 := (hvc (hv 9 (by omega))).elim fun _ h => h
      have f10 : f4_ 10 = .int .i64 0 := (hvc (hv 10 (by omega))).elim fun _ h => h
      have f11 : f4_ 11 = .int .i64 (-0) := (hvc (hv 11 (by omega))).elim fun _ h => h
      have f12 : f4_ 12 = .bool false := (hvc (hv 12 (by omega))).elim fun _ h => h
      have f13 : f4_ 13 = .bool false := (hvc (hv 13 (by omega))).elim fun _ h => h
      have f14 : f4_ 14 = .bool false := (hvc (hv 14 (by omega))).elim fun _ h => h
      have f18 : f4_ 18 = .int .i64 0 := (hvc (hv 18 (by omega))).elim fun _ h => h
      have f19 : f4_ 19 = .int .i64 0 := (hvc (hv 19 (by omega))).elim fun _ h => h
      have f20 : f4_ 20 = .bool false := (hvc (hv 20 (by omega))).elim fun _ h => h
      have f21 : f4_ 21 = .bool false := (hvc (hv 21 (by omega))).elim fun _ h => h
      have f22 : f4_ 22 = .bool false := (hvc (hv 22 (by omega))).elim fun _ h => h
      have f23 : f4_ 23 = .int .i64 0 := (hvc (hv 23 (by omega))).elim fun _ h => h
      have f24 : f4_ 24 = .bool true := (hvc (hv 24 (by omega))).elim fun _ h => h
      have f31 : f4_ 31 = .bool true := (hvc (hv 31 (by omega))).elim fun _ h => h
      have f32 : f4_ 32 = .bool false := (hvc (hv 32 (by omega))).elim fun _ h => h
      have f33 : f4_ 33 = .bool false := (hvc (hv 33 (by omega))).elim fun _ h => h
      have f34 : f4_ 34 = .bool false := (hvc (hv 34 (by omega))).elim fun _ h => h
      have f43 : f4_ 43 = .int .i64 0 := (hvc (hv 43 (by omega))).elim fun _ h => h
      have f44 : f4_ 44 = .int .i64 0 := (hvc (hv 44 (by omega))).elim fun _ h => h
      have f45 : f4_ 45 = .bool false := (hvc (hv 45 (by omega))).elim fun _ h => h
      have f46 : f4_ 46 = .bool false := (hvc (hv 46 (by omega))).elim fun _ h => h
      have f47 : f4_ 47 = .bool false := (hvc (hv 47 (by omega))).elim fun _ h => h
      have f52 : f4_ 52 = .int .i64 0 := (hvc (hv 52 (by omega))).elim fun _ h => h
      have f53 : f4_ 53 = .int .i64 0 := (hvc (hv 53 (by omega))).elim fun _ h => h
      have f54 : f4_ 54 = .int .i64 (-0) := (hvc (hv 54 (by omega))).elim fun _ h => h
      have f55 : f4_ 55 = .bool false := (hvc (hv 55 (by omega))).elim fun _ h => h
      have f56 : f4_ 56 = .bool false := (hvc (hv 56 (by omega))).elim fun _ h => h
      simp only [putFn, Act.put, List.setIfInBounds_toArray, List.set_cons_zero, List.set_cons_succ, f0, f1, f2, f3, f4, f5, f6, f9, f10, f11, f12, f13, f14, f18, f19, f20, f21, f22, f23, f24, f31, f32, f33, f34, f43, f44, f45, f46, f47, f52, f53, f54, f55, f56]
      replace Qa := Qa.below hR
      replace Qb := Qb.below hR
      replace Qc := Qc.below hR
      replace Pa := Pa.below hR
      replace Pb := Pb.below hR
      replace Pc := Pc.below hR
      replace BB := bl_trans BB hR
      clear hR
      clear hv
      clear HBA HSU HEQ HAC HNE
      obtain ⟨qb, hqb⟩ : ∃ q, cmpI zb zc = q := ⟨_, rfl⟩
      have HQB := Lib.hid hqb
      obtain ⟨qa, hqa⟩ : ∃ q, cmpI za zc = q := ⟨_, rfl⟩
      have HQA := Lib.hid hqa
      have hle := cmpI_chain HKL.out hqb hqa
      clear hqb hqa HKL
      by_cases hb1 : qb ≤ 0
      · have ha1 := hle hb1
        clear hle
        have Pb_0 := Pb.c0
        have Pb_1 := Pb.c1
        have Pc_0 := Pc.c0
        have Pc_1 := Pc.c1
        have Pa_0 := Pa.c0
        have Pa_1 := Pa.c1
        go_wp2_with fail
        refine (cCmp Qb Qc (by omega) (by omega) HQB.out).mono ?_
        rintro e w5 ⟨_, rfl, hb5, rfl⟩
        clear Pb_0 Pb_1 Pc_0 Pc_1 Pa_0 Pa_1
        replace Qa := Qa.below hb5
        replace Qb := Qb.below hb5
        replace Qc := Qc.below hb5
        replace Pa := Pa.below hb5
        replace Pb := Pb.below hb5
        replace Pc := Pc.below hb5
        replace BB := bl_trans BB hb5
        clear hb5
        have Pb_0 := Pb.c0
        have Pb_1 := Pb.c1
        have Pc_0 := Pc.c0
        have Pc_1 := Pc.c1
        have Pa_0 := Pa.c0
        have Pa_1 := Pa.c1
        go_wp2_with fail
        refine (cCmp Qa Qc (by omega) (by omega) HQA.out).mono ?_
        rintro e w6 ⟨_, rfl, hb6, rfl⟩
        clear Pb_0 Pb_1 Pc_0 Pc_1 Pa_0 Pa_1
        replace Qa := Qa.below hb6
        replace Qb := Qb.below hb6
        replace Qc := Qc.below hb6
        replace Pa := Pa.below hb6
        replace Pb := Pb.below hb6
        replace Pc := Pc.below hb6
        replace BB := bl_trans BB hb6
        clear hb6
        rcases Int.lt_trichotomy n m with hlt | heq | hgt
        · have HN := Lib.hid (cmpI_lt hlt)
          go_wp2_with fail
          refine (cFrom _ (by omega) (by omega) (Nat.le_refl _)).mono ?_
          rintro e w7 ⟨_, rfl, hb7, b7, A7, n7, c7, rfl, Z7⟩
          replace Qa := Qa.below hb7
          replace Qb := Qb.below hb7
          replace Qc := Qc.below hb7
          replace Pa := Pa.below hb7
          replace Pb := Pb.below hb7
          replace Pc := Pc.below hb7
          replace BB := bl_trans BB hb7
          clear hb7
          have q7 : IsZ _ w7 (.agg #[.bool b7, .slice A7 n7 c7]) (n) 2 := ⟨_, _, _, _, rfl, Z7⟩
          clear Z7
          go_wp2_with fail
          refine (cFrom _ (by omega) (by omega) (Nat.le_refl _)).mono ?_
          rintro e w8 ⟨_, rfl, hb8, b8, A8, n8, c8, rfl, Z8⟩
          replace Qa := Qa.below hb8
          replace Qb := Qb.below hb8
          replace Qc := Qc.below hb8
          replace Pa := Pa.below hb8
          replace Pb := Pb.below hb8
          replace Pc := Pc.below hb8
          replace q7 := q7.below hb8
          replace BB := bl_trans BB hb8
          clear hb8
          have q8 : IsZ _ w8 (.agg #[.bool b8, .slice A8 n8 c8]) (m) 2 := ⟨_, _, _, _, rfl, Z8⟩
          clear Z8
          go_wp2_with fail
          refine (cCmp q7.m q8.m (by omega) (by omega) HN.out).mono ?_
          rintro e w9 ⟨_, rfl, hb9, rfl⟩
          replace Qa := Qa.below hb9
          replace Qb := Qb.below hb9
          replace Qc := Qc.below hb9
          replace Pa := Pa.below hb9
          replace Pb := Pb.below hb9
          replace Pc := Pc.below hb9
          replace q7 := q7.below hb9
          replace q8 := q8.below hb9
          replace BB := bl_trans BB hb9
          clear hb9
          go_wp2_with fail
          go_ret
          exact ⟨rfl, BB⟩
        · have HN := Lib.hid (cmpI_eq heq)
          have hx1 : ¬ n < m := by omega
          have hx2 : ¬ m < n := by omega
          clear heq
          go_wp2_with fail
          refine (cFrom _ (by omega) (by omega) (Nat.le_refl _)).mono ?_
          rintro e w7 ⟨_, rfl, hb7, b7, A7, n7, c7, rfl, Z7⟩
          replace Qa := Qa.below hb7
          replace Qb := Qb.below hb7
          replace Qc := Qc.below hb7
          replace Pa := Pa.below hb7
          replace Pb := Pb.below hb7
          replace Pc := Pc.below hb7
          replace BB := bl_trans BB hb7
          clear hb7
          have q7 : IsZ _ w7 (.agg #[.bool b7, .slice A7 n7 c7]) (n) 2 := ⟨_, _, _, _, rfl, Z7⟩
          clear Z7
          go_wp2_with fail
          refine (cFrom _ (by omega) (by omega) (Nat.le_refl _)).mono ?_
          rintro e w8 ⟨_, rfl, hb8, b8, A8, n8, c8, rfl, Z8⟩
          replace Qa := Qa.below hb8
          replace Qb := Qb.below hb8
          replace Qc := Qc.below hb8
          replace Pa := Pa.below hb8
          replace Pb := Pb.below hb8
          replace Pc := Pc.below hb8
          replace q7 := q7.below hb8
          replace BB := bl_trans BB hb8
          clear hb8
          have q8 : IsZ _ w8 (.agg #[.bool b8, .slice A8 n8 c8]) (m) 2 := ⟨_, _, _, _, rfl, Z8⟩
          clear Z8
          go_wp2_with fail
          refine (cCmp q7.m q8.m (by omega) (by omega) HN.out).mono ?_
          rintro e w9 ⟨_, rfl, hb9, rfl⟩
          replace Qa := Qa.below hb9
          replace Qb := Qb.below hb9
          replace Qc := Qc.below hb9
          replace Pa := Pa.below hb9
          replace Pb := Pb.below hb9
          replace Pc := Pc.below hb9
          replace q7 := q7.below hb9
          replace q8 := q8.below hb9
          replace BB := bl_trans BB hb9
          clear hb9
          go_wp2_with fail
          go_ret
          exact ⟨rfl, BB⟩
        · have HN := Lib.hid (cmpI_gt hgt)
          go_wp2_with fail
          refine (cFrom _ (by omega) (by omega) (Nat.le_refl _)).mono ?_
          rintro e w7 ⟨_, rfl, hb7, b7, A7, n7, c7, rfl, Z7⟩
          replace Qa := Qa.below hb7
          replace Qb := Qb.below hb7
          replace Qc := Qc.below hb7
          replace Pa := Pa.below hb7
          replace Pb := Pb.below hb7
          replace Pc := Pc.below hb7
          replace BB := bl_trans BB hb7
          clear hb7
          have q7 : IsZ _ w7 (.agg #[.bool b7, .slice A7 n7 c7]) (n) 2 := ⟨_, _, _, _, rfl, Z7⟩
          clear Z7
          go_wp2_with fail
          refine (cFrom _ (by omega) (by omega) (Nat.le_refl _)).mono ?_
          rintro e w8 ⟨_, rfl, hb8, b8, A8, n8, c8, rfl, Z8⟩
          replace Qa := Qa.below hb8
          replace Qb := Qb.below hb8
          replace Qc := Qc.below hb8
          replace Pa := Pa.below hb8
          replace Pb := Pb.below hb8
          replace Pc := Pc.below hb8
          replace q7 := q7.below hb8
          replace BB := bl_trans BB hb8
          clear hb8
          have q8 : IsZ _ w8 (.agg #[.bool b8, .slice A8 n8 c8]) (m) 2 := ⟨_, _, _, _, rfl, Z8⟩
          clear Z8
          go_wp2_with fail
          refine (cCmp q7.m q8.m (by omega) (by omega) HN.out).mono ?_
          rintro e w9 ⟨_, rfl, hb9, rfl⟩
          replace Qa := Qa.below hb9
          replace Qb := Qb.below hb9
          replace Qc := Qc.below hb9
          replace Pa := Pa.below hb9
          replace Pb := Pb.below hb9
          replace Pc := Pc.below hb9
          replace q7 := q7.below hb9
          replace q8 := q8.below hb9
          replace BB := bl_trans BB hb9
          clear hb9
          go_wp2_with fail
          go_ret
          exact ⟨rfl, BB⟩
      · clear hle
        have Pb_0 := Pb.c0
        have Pb_1 := Pb.c1
        have Pc_0 := Pc.c0
        have Pc_1 := Pc.c1
        have Pa_0 := Pa.c0
        have Pa_1 := Pa.c1
        go_wp2_with fail
        refine (cCmp Qb Qc (by omega) (by omega) HQB.out).mono ?_
        rintro e w5 ⟨_, rfl, hb5, rfl⟩
        clear Pb_0 Pb_1 Pc_0 Pc_1 Pa_0 Pa_1
        replace Qa := Qa.below hb5
        replace Qb := Qb.below hb5
        replace Qc := Qc.below hb5
        replace Pa := Pa.below hb5
        replace Pb := Pb.below hb5
        replace Pc := Pc.below hb5
        replace BB := bl_trans BB hb5
        clear hb5
        rcases Int.lt_trichotomy n m with hlt | heq | hgt
        · have HN := Lib.hid (cmpI_lt hlt)
          go_wp2_with fail
          refine (cFrom _ (by omega) (by omega) (Nat.le_refl _)).mono ?_
          rintro e w6 ⟨_, rfl, hb6, b6, A6, n6, c6, rfl, Z6⟩
          replace Qa := Qa.below hb6
          replace Qb := Qb.below hb6
          replace Qc := Qc.below hb6
          replace Pa := Pa.below hb6
          replace Pb := Pb.below hb6
          replace Pc := Pc.below hb6
          replace BB := bl_trans BB hb6
          clear hb6
          have q6 : IsZ _ w6 (.agg #[.bool b6, .slice A6 n6 c6]) (n) 2 := ⟨_, _, _, _, rfl, Z6⟩
          clear Z6
          go_wp2_with fail
          refine (cFrom _ (by omega) (by omega) (Nat.le_refl _)).mono ?_
          rintro e w7 ⟨_, rfl, hb7, b7, A7, n7, c7, rfl, Z7⟩
          replace Qa := Qa.below hb7
          replace Qb := Qb.below hb7
          replace Qc := Qc.below hb7
          replace Pa := Pa.below hb7
          replace Pb := Pb.below hb7
          replace Pc := Pc.below hb7
          replace q6 := q6.below hb7
          replace BB := bl_trans BB hb7
          clear hb7
          have q7 : IsZ _ w7 (.agg #[.bool b7, .slice A7 n7 c7]) (m) 2 := ⟨_, _, _, _, rfl, Z7⟩
          clear Z7
          go_wp2_with fail
          refine (cCmp q6.m q7.m (by omega) (by omega) HN.out).mono ?_
          rintro e w8 ⟨_, rfl, hb8, rfl⟩
          replace Qa := Qa.below hb8
          replace Qb := Qb.below hb8
          replace Qc := Qc.below hb8
          replace Pa := Pa.below hb8
          replace Pb := Pb.below hb8
          replace Pc := Pc.below hb8
          replace q6 := q6.below hb8
          replace q7 := q7.below hb8
          replace BB := bl_trans BB hb8
          clear hb8
          go_wp2_with fail
          go_ret
          exact ⟨rfl, BB⟩
        · have HN := Lib.hid (cmpI_eq heq)
          have hx1 : ¬ n < m := by omega
          have hx2 : ¬ m < n := by omega
          clear heq
          go_wp2_with fail
          refine (cFrom _ (by omega) (by omega) (Nat.le_refl _)).mono ?_
          rintro e w6 ⟨_, rfl, hb6, b6, A6, n6, c6, rfl, Z6⟩
          replace Qa := Qa.below hb6
          replace Qb := Qb.below hb6
          replace Qc := Qc.below hb6
          replace Pa := Pa.below hb6
          replace Pb := Pb.below hb6
          replace Pc := Pc.below hb6
          replace BB := bl_trans BB hb6
          clear hb6
          have q6 : IsZ _ w6 (.agg #[.bool b6, .slice A6 n6 c6]) (n) 2 := ⟨_, _, _, _, rfl, Z6⟩
          clear Z6
          go_wp2_with fail
          refine (cFrom _ (by omega) (by omega) (Nat.le_refl _)).mono ?_
          rintro e w7 ⟨_, rfl, hb7, b7, A7, n7, c7, rfl, Z7⟩
          replace Qa := Qa.below hb7
          replace Qb := Qb.below hb7
          replace Qc := Qc.below hb7
          replace Pa := Pa.below hb7
          replace Pb := Pb.below hb7
          replace Pc := Pc.below hb7
          replace q6 := q6.below hb7
          replace BB := bl_trans BB hb7
          clear hb7
          have q7 : IsZ _ w7 (.agg #[.bool b7, .slice A7 n7 c7]) (m) 2 := ⟨_, _, _, _, rfl, Z7⟩
          clear Z7
          go_wp2_with fail
          refine (cCmp q6.m q7.m (by omega) (by omega) HN.out).mono ?_
          rintro e w8 ⟨_, rfl, hb8, rfl⟩
          replace Qa := Qa.below hb8
          replace Qb := Qb.below hb8
          replace Qc := Qc.below hb8
          replace Pa := Pa.below hb8
          replace Pb := Pb.below hb8
          replace Pc := Pc.below hb8
          replace q6 := q6.below hb8
          replace q7 := q7.below hb8
          replace BB := bl_trans BB hb8
          clear hb8
          go_wp2_with fail
          go_ret
          exact ⟨rfl, BB⟩
        · have HN := Lib.hid (cmpI_gt hgt)
          go_wp2_with fail
          refine (cFrom _ (by omega) (by omega) (Nat.le_refl _)).mono ?_
          rintro e w6 ⟨_, rfl, hb6, b6, A6, n6, c6, rfl, Z6⟩
          replace Qa := Qa.below hb6
          replace Qb := Qb.below hb6
          replace Qc := Qc.below hb6
          replace Pa := Pa.below hb6
          replace Pb := Pb.below hb6
          replace Pc := Pc.below hb6
          replace BB := bl_trans BB hb6
          clear hb6
          have q6 : IsZ _ w6 (.agg #[.bool b6, .slice A6 n6 c6]) (n) 2 := ⟨_, _, _, _, rfl, Z6⟩
          clear Z6
          go_wp2_with fail
          refine (cFrom _ (by omega) (by omega) (Nat.le_refl _)).mono ?_
          rintro e w7 ⟨_, rfl, hb7, b7, A7, n7, c7, rfl, Z7⟩
          replace Qa := Qa.below hb7
          replace Qb := Qb.below hb7
          replace Qc := Qc.below hb7
          replace Pa := Pa.below hb7
          replace Pb := Pb.below hb7
          replace Pc := Pc.below hb7
          replace q6 := q6.below hb7
          replace BB := bl_trans BB hb7
          clear hb7
          have q7 : IsZ _ w7 (.agg #[.bool b7, .slice A7 n7 c7]) (m) 2 := ⟨_, _, _, _, rfl, Z7⟩
          clear Z7
          go_wp2_with fail
          refine (cCmp q6.m q7.m (by omega) (by omega) HN.out).mono ?_
          rintro e w8 ⟨_, rfl, hb8, rfl⟩
          replace Qa := Qa.below hb8
          replace Qb := Qb.below hb8
          replace Qc := Qc.below hb8
          replace Pa := Pa.below hb8
          replace Pb := Pb.below hb8
          replace Pc := Pc.below hb8
          replace q6 := q6.below hb8
          replace q7 := q7.below hb8
          replace BB := bl_trans BB hb8
          clear hb8
          go_wp2_with fail
          go_ret
          exact ⟨rfl, BB⟩

set_option maxHeartbeats 4000000 in
theorem bigOrder_G (sa : Bool) (Aa : Option Addr) (na ca : Nat) (xa : List Nat) (sb : Bool) (Ab : Option Addr) (nb cb : Nat) (xb : List Nat) (sc : Bool) (Ac : Option Addr) (nc cc : Nat) (xc : List Nat) (za zb zc : Int) (w : World) (n m : Int) (n0 : -9223372036854775808 ≤ n) (n1 : n < 9223372036854775808) (m0 : -9223372036854775808 ≤ m) (m1 : m < 9223372036854775808) (Ha : Hid (Rd w Aa na ca xa)) (Hb : Hid (Rd w Ab nb cb xb)) (Hc : Hid (Rd w Ac nc cc xc)) (Ga : Hid (na ≤ maxLen)) (Gb : Hid (nb ≤ maxLen)) (Gc : Hid (nc ≤ maxLen)) (BB : Below w.heap.size w (w.alloc (.cells #[.bool sa, .slice Aa na ca, .bool sb, .slice Ab nb cb, .bool sc, .slice Ac nc cc] 59))) (PV : Ar (w.alloc (.cells #[.bool sa, .slice Aa na ca, .bool sb, .slice Ab nb cb, .bool sc, .slice Ac nc cc] 59)) w.heap.size #[.bool sa, .slice Aa na ca, .bool sb, .slice Ab nb cb, .bool sc, .slice Ac nc cc] 59) (Qa : IsM (w.alloc (.cells #[.bool sa, .slice Aa na ca, .bool sb, .slice Ab nb cb, .bool sc, .slice Ac nc cc] 59)) (.agg #[.bool sa, .slice Aa (min na 10) ca]) za 10) (Qb : IsM (w.alloc (.cells #[.bool sa, .slice Aa na ca, .bool sb, .slice Ab nb cb, .bool sc, .slice Ac nc cc] 59)) (.agg #[.bool sb, .slice Ab (min nb 10) cb]) zb 10) (Qc : IsM (w.alloc (.cells #[.bool sa, .slice Aa na ca, .bool sb, .slice Ab nb cb, .bool sc, .slice Ac nc cc] 59)) (.agg #[.bool sc, .slice Ac (min nc 10) cc]) zc 10) (HK : Hid (cmpI za zb = 1)) (HBA : Hid (cmpI zb za = -1)) (HSU : Hid (sgn (za - zb) = 1)) (HEQ : Hid (za ≠ zb)) (HAC : Hid (cmpI (za + zc) (zb + zc) = 1)) (HNE : Hid (cmpI (-za) (-zb) = -1)) : Calls Try.prog 9 #[.agg #[.bool sa, .slice Aa na ca, .bool sb, .slice Ab nb cb, .bool sc, .slice Ac nc cc], .int .i64 n, .int .i64 m] w fun e w' => e = .returned (.bool true) ∧ Below w.heap.size w w' := by
  go_enter Try.func9, Try.ntmps9
  go_wp2_with fail
  refine (cWorks _).mono ?_
  rintro e w1 ⟨_, rfl, hb1, rfl⟩
  replace PV := PV.below hb1
  replace Qa := Qa.below hb1
  replace Qb := Qb.below hb1
  replace Qc := Qc.below hb1
  replace BB := bl_trans BB hb1
  clear hb1
  go_wp2_with fail
  refine wp_region_list (Ext := (BelX (w1).heap.size)) (Rel := (BelU (w1).heap.size)) [fun v _ _ => v = .pointer (some ⟨w.heap.size, 0, none⟩), fun v _ _ => v = .agg #[.bool sa, .slice Aa na ca], fun v _ _ => v = .agg #[.bool sa, .slice Aa (min na 10) ca], fun v _ _ => v = .pointer (some ⟨w.heap.size, 2, none⟩), fun v _ _ => v = .agg #[.bool sb, .slice Ab nb cb], fun v _ _ => v = .agg #[.bool sb, .slice Ab (min nb 10) cb], fun v _ _ => v = .pointer (some ⟨w.heap.size, 4, none⟩), fun v _ _ => v = .agg #[.bool sc, .slice Ac nc cc], fun v _ _ => v = .agg #[.bool sc, .slice Ac (min nc 10) cc], fun v _ w => IsP (w1).heap.size v w, fun v _ w => IsP (w1).heap.size v w, fun v _ w => IsP (w1).heap.size v w, fun _ u w => HasC (w1).heap.size u w sa Aa (min na 10) ca, fun _ u w => HasC (w1).heap.size u w sb Ab (min nb 10) cb, fun _ u w => HasC (w1).heap.size u w sc Ac (min nc 10) cc] (n := 15) (by kernel_rfl) rfl (by kernel_rfl) (by kernel_rfl) (by kernel_rfl) (by kernel_rfl) (by kernel_rfl) (rx_refl _) (rxu_trans _) ⟨sC, ⟨sC, ⟨sC, ⟨sC, ⟨sC, ⟨sC, ⟨sC, ⟨sC, ⟨sC, ⟨xP, ⟨xP, ⟨xP, ⟨xHC, ⟨xHC, ⟨xHC, trivial⟩⟩⟩⟩⟩⟩⟩⟩⟩⟩⟩⟩⟩⟩⟩ ?_ ?_
  · refine ⟨⟨⟨⟨⟨⟨⟨⟨⟨⟨⟨⟨⟨⟨⟨trivial, ?_⟩, ?_⟩, ?_⟩, ?_⟩, ?_⟩, ?_⟩, ?_⟩, ?_⟩, ?_⟩, ?_⟩, ?_⟩, ?_⟩, ?_⟩, ?_⟩, ?_⟩
    · refine rs_plain rfl rfl fun a wr S => ?_
      have X := undrewX S.ext
      exact wp_idx0 (ev_of ((S.old 3 (by kernel_rfl)).trans rfl)) (done (by kernel_rfl) (rxu_refl _) rfl)
    · refine rs_plain rfl rfl fun a wr S => ?_
      have X := undrewX S.ext
      obtain ⟨v0, e0, h0⟩ := S.got 0 (by kernel_rfl)
      exact wp_loadAt ((ev_of (e0 14 (by kernel_rfl))).trans h0) ((PV.below X).at 0 rfl) ((PV.below X).at 1 rfl) (done (by kernel_rfl) (rxu_refl _) rfl)
    · refine rs_plain rfl rfl fun a wr S => ?_
      have X := undrewX S.ext
      obtain ⟨v1, e1, h1⟩ := S.got 1 (by kernel_rfl)
      exact st_call cf_law02_few (args2 ((ev_of (e1 15 (by kernel_rfl))).trans h1) rfl) (by kernel_rfl) (rxu _) (cFew (Ha.out.below (bl_trans BB X)) Ga.out 10 _ rfl (by omega)) (fun _ _ _ h => h)
    · refine rs_plain rfl rfl fun a wr S => ?_
      have X := undrewX S.ext
      exact wp_idx1 (ev_of ((S.old 3 (by kernel_rfl)).trans rfl)) (done (by kernel_rfl) (rxu_refl _) rfl)
    · refine rs_plain rfl rfl fun a wr S => ?_
      have X := undrewX S.ext
      obtain ⟨v3, e3, h3⟩ := S.got 3 (by kernel_rfl)
      exact wp_loadAt ((ev_of (e3 17 (by kernel_rfl))).trans h3) ((PV.below X).at 2 rfl) ((PV.below X).at 3 rfl) (done (by kernel_rfl) (rxu_refl _) rfl)
    · refine rs_plain rfl rfl fun a wr S => ?_
      have X := undrewX S.ext
      obtain ⟨v4, e4, h4⟩ := S.got 4 (by kernel_rfl)
      exact st_call cf_law02_few (args2 ((ev_of (e4 18 (by kernel_rfl))).trans h4) rfl) (by kernel_rfl) (rxu _) (cFew (Hb.out.below (bl_trans BB X)) Gb.out 10 _ rfl (by omega)) (fun _ _ _ h => h)
    · refine rs_plain rfl rfl fun a wr S => ?_
      have X := undrewX S.ext
      exact wp_idx2 (ev_of ((S.old 3 (by kernel_rfl)).trans rfl)) (done (by kernel_rfl) (rxu_refl _) rfl)
    · refine rs_plain rfl rfl fun a wr S => ?_
      have X := undrewX S.ext
      obtain ⟨v6, e6, h6⟩ := S.got 6 (by kernel_rfl)
      exact wp_loadAt ((ev_of (e6 20 (by kernel_rfl))).trans h6) ((PV.below X).at 4 rfl) ((PV.below X).at 5 rfl) (done (by kernel_rfl) (rxu_refl _) rfl)
    · refine rs_plain rfl rfl fun a wr S => ?_
      have X := undrewX S.ext
      obtain ⟨v7, e7, h7⟩ := S.got 7 (by kernel_rfl)
      exact st_call cf_law02_few (args2 ((ev_of (e7 21 (by kernel_rfl))).trans h7) rfl) (by kernel_rfl) (rxu _) (cFew (Hc.out.below (bl_trans BB X)) Gc.out 10 _ rfl (by omega)) (fun _ _ _ h => h)
    · refine rs_plain rfl rfl fun a wr S => ?_
      have X := undrewX S.ext
      refine st_alloc X.size (fun _ _ _ h => h) fun j vj u hj hs => ?_
      have hj' : j ∈ [9, 10, 11] := alloc_cases (by kernel_rfl) j hj
      simp only [List.mem_cons, List.not_mem_nil, or_false] at hj'
      rcases hj' with rfl | rfl | rfl <;> exact hs
    · refine rs_plain rfl rfl fun a wr S => ?_
      have X := undrewX S.ext
      refine st_alloc X.size (fun _ _ _ h => h) fun j vj u hj hs => ?_
      have hj' : j ∈ [9, 10, 11] := alloc_cases (by kernel_rfl) j hj
      simp only [List.mem_cons, List.not_mem_nil, or_false] at hj'
      rcases hj' with rfl | rfl | rfl <;> exact hs
    · refine rs_plain rfl rfl fun a wr S => ?_
      have X := undrewX S.ext
      refine st_alloc X.size (fun _ _ _ h => h) fun j vj u hj hs => ?_
      have hj' : j ∈ [9, 10, 11] := alloc_cases (by kernel_rfl) j hj
      simp only [List.mem_cons, List.not_mem_nil, or_false] at hj'
      rcases hj' with rfl | rfl | rfl <;> exact hs
    · refine rs_plain rfl rfl fun a wr S => ?_
      have X := undrewX S.ext
      obtain ⟨v9, e9, h9⟩ := S.got 9 (by kernel_rfl)
      obtain ⟨v2, e2, h2⟩ := S.got 2 (by kernel_rfl)
      exact st_storeC (by kernel_rfl) (by kernel_rfl) (ev_of (e9 7 (by kernel_rfl))) h9 ((ev_of (e2 16 (by kernel_rfl))).trans h2) (fun _ _ _ h => h)
    · refine rs_plain rfl rfl fun a wr S => ?_
      have X := undrewX S.ext
      obtain ⟨v10, e10, h10⟩ := S.got 10 (by kernel_rfl)
      obtain ⟨v5, e5, h5⟩ := S.got 5 (by kernel_rfl)
      exact st_storeC (by kernel_rfl) (by kernel_rfl) (ev_of (e10 8 (by kernel_rfl))) h10 ((ev_of (e5 19 (by kernel_rfl))).trans h5) (fun _ _ _ h => h)
    · refine rs_plain rfl rfl fun a wr S => ?_
      have X := undrewX S.ext
      obtain ⟨v11, e11, h11⟩ := S.got 11 (by kernel_rfl)
      obtain ⟨v8, e8, h8⟩ := S.got 8 (by kernel_rfl)
      exact st_storeC (by kernel_rfl) (by kernel_rfl) (ev_of (e11 9 (by kernel_rfl))) h11 ((ev_of (e8 22 (by kernel_rfl))).trans h8) (fun _ _ _ h => h)
  · intro f2_ w2 hR hv
    replace hR := undrewX hR
    have f0 : f2_ 0 = .pointer (some ⟨w.heap.size, 0, none⟩) := (hvc (hv 0 (by omega))).elim fun _ h => h
    have f1 : f2_ 1 = .agg #[.bool sa, .slice Aa na ca] := (hvc (hv 1 (by omega))).elim fun _ h => h
    have f2 : f2_ 2 = .agg #[.bool sa, .slice Aa (min na 10) ca] := (hvc (hv 2 (by omega))).elim fun _ h => h
    have f3 : f2_ 3 = .pointer (some ⟨w.heap.size, 2, none⟩) := (hvc (hv 3 (by omega))).elim fun _ h => h
    have f4 : f2_ 4 = .agg #[.bool sb, .slice Ab nb cb] := (hvc (hv 4 (by omega))).elim fun _ h => h
    have f5 : f2_ 5 = .agg #[.bool sb, .slice Ab (min nb 10) cb] := (hvc (hv 5 (by omega))).elim fun _ h => h
    have f6 : f2_ 6 = .pointer (some ⟨w.heap.size, 4, none⟩) := (hvc (hv 6 (by omega))).elim fun _ h => h
    have f7 : f2_ 7 = .agg #[.bool sc, .slice Ac nc cc] := (hvc (hv 7 (by omega))).elim fun _ h => h
    have f8 : f2_ 8 = .agg #[.bool sc, .slice Ac (min nc 10) cc] := (hvc (hv 8 (by omega))).elim fun _ h => h
    obtain ⟨ga, f9, hga, Pa⟩ := (show HasC _ (f2_ 9) w2 sa Aa (min na 10) ca from hvs (hv 12 (by omega)) (by kernel_rfl))
    obtain ⟨gb, f10, hgb, Pb⟩ := (show HasC _ (f2_ 10) w2 sb Ab (min nb 10) cb from hvs (hv 13 (by omega)) (by kernel_rfl))
    obtain ⟨gc, f11, hgc, Pc⟩ := (show HasC _ (f2_ 11) w2 sc Ac (min nc 10) cc from hvs (hv 14 (by omega)) (by kernel_rfl))
    simp only [putFn, Act.put, List.setIfInBounds_toArray, List.set_cons_zero, List.set_cons_succ, f0, f1, f2, f3, f4, f5, f6, f7, f8, f9, f10, f11]
    replace PV := PV.below hR
    replace Qa := Qa.below hR
    replace Qb := Qb.below hR
    replace Qc := Qc.below hR
    replace BB := bl_trans BB hR
    clear hR
    clear hga
    clear hgb
    clear hgc
    clear hv
    clear PV
    clear Ha Ga Hb Gb Hc Gc
    have Pa_0 := Pa.c0
    have Pa_1 := Pa.c1
    have Pb_0 := Pb.c0
    have Pb_1 := Pb.c1
    go_wp2_with fail
    refine (cCmp Qa Qb (by omega) (by omega) HK.out).mono ?_
    rintro e w3 ⟨_, rfl, hb3, rfl⟩
    clear Pa_0 Pa_1 Pb_0 Pb_1
    replace Qa := Qa.below hb3
    replace Qb := Qb.below hb3
    replace Qc := Qc.below hb3
    replace Pa := Pa.below hb3
    replace Pb := Pb.below hb3
    replace Pc := Pc.below hb3
    replace BB := bl_trans BB hb3
    clear hb3
    go_wp2_with fail
    refine wp_region_list (Ext := RB) (Rel := RBu) [fun v _ _ => v = .int .i64 1, fun v _ _ => v = .bool false, fun v _ _ => v = .bool false, fun v _ _ => v = .int .i64 1, fun v _ _ => v = .bool false, fun v _ _ => v = .bool false, fun v _ _ => v = .bool false, fun v _ w => IsM w v (zb) 10, fun v _ w => IsM w v (za) 10, fun v _ _ => v = .int .i64 (-1), fun v _ _ => v = .int .i64 1, fun v _ _ => v = .int .i64 (-1), fun v _ _ => v = .bool false, fun v _ _ => v = .bool false, fun v _ _ => v = .bool false, fun v _ w => IsM w v (za) 10, fun v _ w => IsM w v (zb) 10, fun v _ w => IsZ (w3).heap.size w v (za - zb) 11, fun v _ _ => v = .int .i64 1, fun v _ _ => v = .int .i64 1, fun v _ _ => v = .bool false, fun v _ _ => v = .bool false, fun v _ _ => v = .bool false, fun v _ _ => v = .int .i64 1, fun v _ _ => v = .bool false, fun v _ w => IsM w v (za) 10, fun v _ w => IsR1 w v (za) 10, fun v _ w => IsZ (w3).heap.size w v (za) 11, fun v _ w => IsM w v (zb) 10, fun v _ w => IsR1 w v (zb) 10, fun v _ w => IsZ (w3).heap.size w v (zb) 11, fun v _ _ => v = .bool false, fun v _ _ => v = .bool false, fun v _ _ => v = .bool false, fun v _ _ => v = .bool false, fun v _ w => IsM w v (za) 10, fun v _ w => IsM w v (zc) 10, fun v _ w => IsR2 w v (za) 10 (zc) 10, fun v _ w => IsZ (w3).heap.size w v (za + zc) 11, fun v _ w => IsM w v (zb) 10, fun v _ w => IsM w v (zc) 10, fun v _ w => IsR2 w v (zb) 10 (zc) 10, fun v _ w => IsZ (w3).heap.size w v (zb + zc) 11, fun v _ _ => v = .int .i64 1, fun v _ _ => v = .int .i64 1, fun v _ _ => v = .bool false, fun v _ _ => v = .bool false, fun v _ _ => v = .bool false, fun v _ w => IsM w v (za) 10, fun v _ w => IsZ (w3).heap.size w v (-za) 10, fun v _ w => IsM w v (zb) 10, fun v _ w => IsZ (w3).heap.size w v (-zb) 10, fun v _ _ => v = .int .i64 (-1), fun v _ _ => v = .int .i64 1, fun v _ _ => v = .int .i64 (-1), fun v _ _ => v = .bool false, fun v _ _ => v = .bool false] (n := 57) (by kernel_rfl) rfl (by kernel_rfl) (by kernel_rfl) (by kernel_rfl) (by kernel_rfl) (by kernel_rfl) rb_refl rb_trans ⟨sC, ⟨sC, ⟨sC, ⟨sC, ⟨sC, ⟨sC, ⟨sC, ⟨sM, ⟨sM, ⟨sC, ⟨sC, ⟨sC, ⟨sC, ⟨sC, ⟨sC, ⟨sM, ⟨sM, ⟨sZ, ⟨sC, ⟨sC, ⟨sC, ⟨sC, ⟨sC, ⟨sC, ⟨sC, ⟨sM, ⟨sR1, ⟨sZ, ⟨sM, ⟨sR1, ⟨sZ, ⟨sC, ⟨sC, ⟨sC, ⟨sC, ⟨sM, ⟨sM, ⟨sR2, ⟨sZ, ⟨sM, ⟨sM, ⟨sR2, ⟨sZ, ⟨sC, ⟨sC, ⟨sC, ⟨sC, ⟨sC, ⟨sM, ⟨sZ, ⟨sM, ⟨sZ, ⟨sC, ⟨sC, ⟨sC, ⟨sC, ⟨sC, trivial⟩⟩⟩⟩⟩⟩⟩⟩⟩⟩⟩⟩⟩⟩⟩⟩⟩⟩⟩⟩⟩⟩⟩⟩⟩⟩⟩⟩⟩⟩⟩⟩⟩⟩⟩⟩⟩⟩⟩⟩⟩⟩⟩⟩⟩⟩⟩⟩⟩⟩⟩⟩⟩⟩⟩⟩⟩ ?_ ?_
    · refine ⟨⟨⟨⟨⟨⟨⟨⟨⟨⟨⟨⟨⟨⟨⟨⟨⟨⟨⟨⟨⟨⟨⟨⟨⟨⟨⟨⟨⟨⟨⟨⟨⟨⟨⟨⟨⟨⟨⟨⟨⟨⟨⟨⟨⟨⟨⟨⟨⟨⟨⟨⟨⟨⟨⟨⟨⟨trivial, ?_⟩, ?_⟩, ?_⟩, ?_⟩, ?_⟩, ?_⟩, ?_⟩, ?_⟩, ?_⟩, ?_⟩, ?_⟩, ?_⟩, ?_⟩, ?_⟩, ?_⟩, ?_⟩, ?_⟩, ?_⟩, ?_⟩, ?_⟩, ?_⟩, ?_⟩, ?_⟩, ?_⟩, ?_⟩, ?_⟩, ?_⟩, ?_⟩, ?_⟩, ?_⟩, ?_⟩, ?_⟩, ?_⟩, ?_⟩, ?_⟩, ?_⟩, ?_⟩, ?_⟩, ?_⟩, ?_⟩, ?_⟩, ?_⟩, ?_⟩, ?_⟩, ?_⟩, ?_⟩, ?_⟩, ?_⟩, ?_⟩, ?_⟩, ?_⟩, ?_⟩, ?_⟩, ?_⟩, ?_⟩, ?_⟩, ?_⟩
      · refine rs_plain rfl rfl fun a wr S => ?_
        have X := undrew S.ext
        exact wp_mv (ev_of ((S.old 10 (by kernel_rfl)).trans rfl)) (done (by kernel_rfl) rbu_refl rfl)
      · refine rs_plain rfl rfl fun a wr S => ?_
        have X := undrew S.ext
        obtain ⟨v0, e0, h0⟩ := S.got 0 (by kernel_rfl)
        exact wp_ltI ((ev_of (e0 26 (by kernel_rfl))).trans h0) rfl (done (by kernel_rfl) rbu_refl (congrArg Value.bool (by decide)))
      · refine rs_plain rfl rfl fun a wr S => ?_
        have X := undrew S.ext
        obtain ⟨v1, e1, h1⟩ := S.got 1 (by kernel_rfl)
        exact wp_mv ((ev_of (e1 27 (by kernel_rfl))).trans h1) (done (by kernel_rfl) rbu_refl rfl)
      · refine rs_yes rfl rfl (by kernel_rfl) (by kernel_rfl : _ = some 28) (fun _ _ _ h => h) fun a wr S => ?_
        have X := undrew S.ext
        exact wp_mv (ev_of ((S.old 10 (by kernel_rfl)).trans rfl)) (done (by kernel_rfl) rbu_refl rfl)
      · refine rs_yes rfl rfl (by kernel_rfl) (by kernel_rfl : _ = some 28) (fun _ _ _ h => h) fun a wr S => ?_
        have X := undrew S.ext
        obtain ⟨v3, e3, h3⟩ := S.got 3 (by kernel_rfl)
        exact wp_gtI ((ev_of (e3 29 (by kernel_rfl))).trans h3) rfl (done (by kernel_rfl) rbu_refl (congrArg Value.bool (by decide)))
      · refine rs_plain rfl rfl fun a wr S => ?_
        have X := undrew S.ext
        obtain ⟨v2, e2, h2⟩ := S.got 2 (by kernel_rfl)
        obtain ⟨v4, e4, h4⟩ := S.got 4 (by kernel_rfl)
        exact wp_pickF ((ev_of (e2 28 (by kernel_rfl))).trans h2) ((ev_of (e4 30 (by kernel_rfl))).trans h4) (done (by kernel_rfl) rbu_refl rfl)
      · refine rs_plain rfl rfl fun a wr S => ?_
        have X := undrew S.ext
        obtain ⟨v5, e5, h5⟩ := S.got 5 (by kernel_rfl)
        exact wp_mv ((ev_of (e5 31 (by kernel_rfl))).trans h5) (done (by kernel_rfl) rbu_refl rfl)
      · refine rs_yes rfl rfl (by kernel_rfl) (by kernel_rfl : _ = some 32) (fun _ _ _ h => h) fun a wr S => ?_
        have X := undrew S.ext
        exact wp_load (ev_of ((S.old 8 (by kernel_rfl)).trans rfl)) (Pb.below X) (done (by kernel_rfl) rbu_refl (Qb.below X))
      · refine rs_yes rfl rfl (by kernel_rfl) (by kernel_rfl : _ = some 32) (fun _ _ _ h => h) fun a wr S => ?_
        have X := undrew S.ext
        exact wp_load (ev_of ((S.old 7 (by kernel_rfl)).trans rfl)) (Pa.below X) (done (by kernel_rfl) rbu_refl (Qa.below X))
      · refine rs_yes rfl rfl (by kernel_rfl) (by kernel_rfl : _ = some 32) (fun _ _ _ h => h) fun a wr S => ?_
        have X := undrew S.ext
        obtain ⟨v7, e7, h7⟩ := S.got 7 (by kernel_rfl)
        obtain ⟨v8, e8, h8⟩ := S.got 8 (by kernel_rfl)
        exact st_call cf_big_Cmp (args2 (ev_of (e7 33 (by kernel_rfl))) (ev_of (e8 34 (by kernel_rfl)))) (by kernel_rfl) rb (cCmp h7 h8 (by omega) (by omega) HBA.out) (fun _ _ _ h => h)
      · refine rs_yes rfl rfl (by kernel_rfl) (by kernel_rfl : _ = some 32) (fun _ _ _ h => h) fun a wr S => ?_
        have X := undrew S.ext
        exact wp_mv (ev_of ((S.old 10 (by kernel_rfl)).trans rfl)) (done (by kernel_rfl) rbu_refl rfl)
      · refine rs_yes rfl rfl (by kernel_rfl) (by kernel_rfl : _ = some 32) (fun _ _ _ h => h) fun a wr S => ?_
        have X := undrew S.ext
        obtain ⟨v10, e10, h10⟩ := S.got 10 (by kernel_rfl)
        exact wp_negI ((ev_of (e10 36 (by kernel_rfl))).trans h10) (by decide) (by decide) (done (by kernel_rfl) rbu_refl rfl)
      · refine rs_yes rfl rfl (by kernel_rfl) (by kernel_rfl : _ = some 32) (fun _ _ _ h => h) fun a wr S => ?_
        have X := undrew S.ext
        obtain ⟨v9, e9, h9⟩ := S.got 9 (by kernel_rfl)
        obtain ⟨v11, e11, h11⟩ := S.got 11 (by kernel_rfl)
        exact wp_neI ((ev_of (e9 35 (by kernel_rfl))).trans h9) ((ev_of (e11 37 (by kernel_rfl))).trans h11) (Or.inl rfl) (done (by kernel_rfl) rbu_refl (congrArg Value.bool (by decide)))
      · refine rs_plain rfl rfl fun a wr S => ?_
        have X := undrew S.ext
        obtain ⟨v6, e6, h6⟩ := S.got 6 (by kernel_rfl)
        obtain ⟨v12, e12, h12⟩ := S.got 12 (by kernel_rfl)
        exact wp_pickF ((ev_of (e6 32 (by kernel_rfl))).trans h6) ((ev_of (e12 38 (by kernel_rfl))).trans h12) (done (by kernel_rfl) rbu_refl rfl)
      · refine rs_plain rfl rfl fun a wr S => ?_
        have X := undrew S.ext
        obtain ⟨v13, e13, h13⟩ := S.got 13 (by kernel_rfl)
        exact wp_mv ((ev_of (e13 39 (by kernel_rfl))).trans h13) (done (by kernel_rfl) rbu_refl rfl)
      · refine rs_yes rfl rfl (by kernel_rfl) (by kernel_rfl : _ = some 40) (fun _ _ _ h => h) fun a wr S => ?_
        have X := undrew S.ext
        exact wp_load (ev_of ((S.old 7 (by kernel_rfl)).trans rfl)) (Pa.below X) (done (by kernel_rfl) rbu_refl (Qa.below X))
      · refine rs_yes rfl rfl (by kernel_rfl) (by kernel_rfl : _ = some 40) (fun _ _ _ h => h) fun a wr S => ?_
        have X := undrew S.ext
        exact wp_load (ev_of ((S.old 8 (by kernel_rfl)).trans rfl)) (Pb.below X) (done (by kernel_rfl) rbu_refl (Qb.below X))
      · refine rs_yes rfl rfl (by kernel_rfl) (by kernel_rfl : _ = some 40) (fun _ _ _ h => h) fun a wr S => ?_
        have X := undrew S.ext
        obtain ⟨v15, e15, h15⟩ := S.got 15 (by kernel_rfl)
        obtain ⟨v16, e16, h16⟩ := S.got 16 (by kernel_rfl)
        exact st_call cf_big_Sub (args2 (ev_of (e15 41 (by kernel_rfl))) (ev_of (e16 42 (by kernel_rfl)))) (by kernel_rfl) rb (cSub h15 h16 (by omega) (by omega) X.size) (fun _ _ _ h => h)
      · refine rs_yes rfl rfl (by kernel_rfl) (by kernel_rfl : _ = some 40) (fun _ _ _ h => h) fun a wr S => ?_
        have X := undrew S.ext
        obtain ⟨v17, e17, h17⟩ := S.got 17 (by kernel_rfl)
        exact st_call cf_big_Sign (args1 (ev_of (e17 43 (by kernel_rfl)))) (by kernel_rfl) rb (cSign h17.m (by omega) HSU.out) (fun _ _ _ h => h)
      · refine rs_yes rfl rfl (by kernel_rfl) (by kernel_rfl : _ = some 40) (fun _ _ _ h => h) fun a wr S => ?_
        have X := undrew S.ext
        exact wp_mv (ev_of ((S.old 10 (by kernel_rfl)).trans rfl)) (done (by kernel_rfl) rbu_refl rfl)
      · refine rs_yes rfl rfl (by kernel_rfl) (by kernel_rfl : _ = some 40) (fun _ _ _ h => h) fun a wr S => ?_
        have X := undrew S.ext
        obtain ⟨v18, e18, h18⟩ := S.got 18 (by kernel_rfl)
        obtain ⟨v19, e19, h19⟩ := S.got 19 (by kernel_rfl)
        exact wp_neI ((ev_of (e18 44 (by kernel_rfl))).trans h18) ((ev_of (e19 45 (by kernel_rfl))).trans h19) (Or.inl rfl) (done (by kernel_rfl) rbu_refl (congrArg Value.bool (by decide)))
      · refine rs_plain rfl rfl fun a wr S => ?_
        have X := undrew S.ext
        obtain ⟨v14, e14, h14⟩ := S.got 14 (by kernel_rfl)
        obtain ⟨v20, e20, h20⟩ := S.got 20 (by kernel_rfl)
        exact wp_pickF ((ev_of (e14 40 (by kernel_rfl))).trans h14) ((ev_of (e20 46 (by kernel_rfl))).trans h20) (done (by kernel_rfl) rbu_refl rfl)
      · refine rs_plain rfl rfl fun a wr S => ?_
        have X := undrew S.ext
        obtain ⟨v21, e21, h21⟩ := S.got 21 (by kernel_rfl)
        exact wp_mv ((ev_of (e21 47 (by kernel_rfl))).trans h21) (done (by kernel_rfl) rbu_refl rfl)
      · refine rs_yes rfl rfl (by kernel_rfl) (by kernel_rfl : _ = some 48) (fun _ _ _ h => h) fun a wr S => ?_
        have X := undrew S.ext
        exact wp_mv (ev_of ((S.old 10 (by kernel_rfl)).trans rfl)) (done (by kernel_rfl) rbu_refl rfl)
      · refine rs_yes rfl rfl (by kernel_rfl) (by kernel_rfl : _ = some 48) (fun _ _ _ h => h) fun a wr S => ?_
        have X := undrew S.ext
        obtain ⟨v23, e23, h23⟩ := S.got 23 (by kernel_rfl)
        exact wp_eqI ((ev_of (e23 49 (by kernel_rfl))).trans h23) rfl (Or.inl rfl) (done (by kernel_rfl) rbu_refl (congrArg Value.bool (by decide)))
      · refine rs_yes rfl rfl (by kernel_rfl) (by kernel_rfl : _ = some 48) (fun _ _ _ h => h) fun a wr S => ?_
        have X := undrew S.ext
        exact wp_load (ev_of ((S.old 7 (by kernel_rfl)).trans rfl)) (Pa.below X) (done (by kernel_rfl) rbu_refl (Qa.below X))
      · refine rs_yes rfl rfl (by kernel_rfl) (by kernel_rfl : _ = some 48) (fun _ _ _ h => h) fun a wr S => ?_
        have X := undrew S.ext
        obtain ⟨v25, e25, h25⟩ := S.got 25 (by kernel_rfl)
        obtain ⟨b0, A0, n0, c0, hv0, Z0⟩ := (show IsM wr _ _ _ from h25)
        exact wp_bs1 ((ev_of (e25 51 (by kernel_rfl))).trans hv0) (done' (by kernel_rfl) (rb _ _ _ (bl_alloc _ _)) (IsR1.new Z0))
      · refine rs_yes rfl rfl (by kernel_rfl) (by kernel_rfl : _ = some 48) (fun _ _ _ h => h) fun a wr S => ?_
        have X := undrew S.ext
        obtain ⟨v26, e26, h26⟩ := S.got 26 (by kernel_rfl)
        exact st_call cf_big_Add (args1 (ev_of (e26 52 (by kernel_rfl)))) (by kernel_rfl) rb (cAdd1 h26 (by omega) X.size) (fun _ _ _ h => h)
      · refine rs_yes rfl rfl (by kernel_rfl) (by kernel_rfl : _ = some 48) (fun _ _ _ h => h) fun a wr S => ?_
        have X := undrew S.ext
        exact wp_load (ev_of ((S.old 8 (by kernel_rfl)).trans rfl)) (Pb.below X) (done (by kernel_rfl) rbu_refl (Qb.below X))
      · refine rs_yes rfl rfl (by kernel_rfl) (by kernel_rfl : _ = some 48) (fun _ _ _ h => h) fun a wr S => ?_
        have X := undrew S.ext
        obtain ⟨v28, e28, h28⟩ := S.got 28 (by kernel_rfl)
        obtain ⟨b0, A0, n0, c0, hv0, Z0⟩ := (show IsM wr _ _ _ from h28)
        exact wp_bs1 ((ev_of (e28 54 (by kernel_rfl))).trans hv0) (done' (by kernel_rfl) (rb _ _ _ (bl_alloc _ _)) (IsR1.new Z0))
      · refine rs_yes rfl rfl (by kernel_rfl) (by kernel_rfl : _ = some 48) (fun _ _ _ h => h) fun a wr S => ?_
        have X := undrew S.ext
        obtain ⟨v29, e29, h29⟩ := S.got 29 (by kernel_rfl)
        exact st_call cf_big_Add (args1 (ev_of (e29 55 (by kernel_rfl)))) (by kernel_rfl) rb (cAdd1 h29 (by omega) X.size) (fun _ _ _ h => h)
      · refine rs_yes rfl rfl (by kernel_rfl) (by kernel_rfl : _ = some 48) (fun _ _ _ h => h) fun a wr S => ?_
        have X := undrew S.ext
        obtain ⟨v27, e27, h27⟩ := S.got 27 (by kernel_rfl)
        obtain ⟨v30, e30, h30⟩ := S.got 30 (by kernel_rfl)
        exact st_call cf_law02_same (args2 (ev_of (e27 53 (by kernel_rfl))) (ev_of (e30 56 (by kernel_rfl)))) (by kernel_rfl) rb (cSame h27.t h30.t (by omega) (by omega) (decide_eq_false (HEQ.out))) (fun _ _ _ h => h)
      · refine rs_yes rfl rfl (by kernel_rfl) (by kernel_rfl : _ = some 48) (fun _ _ _ h => h) fun a wr S => ?_
        have X := undrew S.ext
        obtain ⟨v24, e24, h24⟩ := S.got 24 (by kernel_rfl)
        obtain ⟨v31, e31, h31⟩ := S.got 31 (by kernel_rfl)
        exact wp_neB ((ev_of (e24 50 (by kernel_rfl))).trans h24) ((ev_of (e31 57 (by kernel_rfl))).trans h31) (done (by kernel_rfl) rbu_refl (congrArg Value.bool (by decide)))
      · refine rs_plain rfl rfl fun a wr S => ?_
        have X := undrew S.ext
        obtain ⟨v22, e22, h22⟩ := S.got 22 (by kernel_rfl)
        obtain ⟨v32, e32, h32⟩ := S.got 32 (by kernel_rfl)
        exact wp_pickF ((ev_of (e22 48 (by kernel_rfl))).trans h22) ((ev_of (e32 58 (by kernel_rfl))).trans h32) (done (by kernel_rfl) rbu_refl rfl)
      · refine rs_plain rfl rfl fun a wr S => ?_
        have X := undrew S.ext
        obtain ⟨v33, e33, h33⟩ := S.got 33 (by kernel_rfl)
        exact wp_mv ((ev_of (e33 59 (by kernel_rfl))).trans h33) (done (by kernel_rfl) rbu_refl rfl)
      · refine rs_yes rfl rfl (by kernel_rfl) (by kernel_rfl : _ = some 60) (fun _ _ _ h => h) fun a wr S => ?_
        have X := undrew S.ext
        exact wp_load (ev_of ((S.old 7 (by kernel_rfl)).trans rfl)) (Pa.below X) (done (by kernel_rfl) rbu_refl (Qa.below X))
      · refine rs_yes rfl rfl (by kernel_rfl) (by kernel_rfl : _ = some 60) (fun _ _ _ h => h) fun a wr S => ?_
        have X := undrew S.ext
        exact wp_load (ev_of ((S.old 9 (by kernel_rfl)).trans rfl)) (Pc.below X) (done (by kernel_rfl) rbu_refl (Qc.below X))
      · refine rs_yes rfl rfl (by kernel_rfl) (by kernel_rfl : _ = some 60) (fun _ _ _ h => h) fun a wr S => ?_
        have X := undrew S.ext
        obtain ⟨v35, e35, h35⟩ := S.got 35 (by kernel_rfl)
        obtain ⟨v36, e36, h36⟩ := S.got 36 (by kernel_rfl)
        obtain ⟨b0, A0, n0, c0, hv0, Z0⟩ := (show IsM wr _ _ _ from h35)
        obtain ⟨b1, A1, n1, c1, hv1, Z1⟩ := (show IsM wr _ _ _ from h36)
        exact wp_bs2 ((ev_of (e35 61 (by kernel_rfl))).trans hv0) ((ev_of (e36 62 (by kernel_rfl))).trans hv1) (done' (by kernel_rfl) (rb _ _ _ (bl_alloc _ _)) (IsR2.new Z0 Z1))
      · refine rs_yes rfl rfl (by kernel_rfl) (by kernel_rfl : _ = some 60) (fun _ _ _ h => h) fun a wr S => ?_
        have X := undrew S.ext
        obtain ⟨v37, e37, h37⟩ := S.got 37 (by kernel_rfl)
        exact st_call cf_big_Add (args1 (ev_of (e37 63 (by kernel_rfl)))) (by kernel_rfl) rb (cAdd2 (z := za) (u := zc) h37 (by omega) (by omega) X.size) (fun _ _ _ h => h)
      · refine rs_yes rfl rfl (by kernel_rfl) (by kernel_rfl : _ = some 60) (fun _ _ _ h => h) fun a wr S => ?_
        have X := undrew S.ext
        exact wp_load (ev_of ((S.old 8 (by kernel_rfl)).trans rfl)) (Pb.below X) (done (by kernel_rfl) rbu_refl (Qb.below X))
      · refine rs_yes rfl rfl (by kernel_rfl) (by kernel_rfl : _ = some 60) (fun _ _ _ h => h) fun a wr S => ?_
        have X := undrew S.ext
        exact wp_load (ev_of ((S.old 9 (by kernel_rfl)).trans rfl)) (Pc.below X) (done (by kernel_rfl) rbu_refl (Qc.below X))
      · refine rs_yes rfl rfl (by kernel_rfl) (by kernel_rfl : _ = some 60) (fun _ _ _ h => h) fun a wr S => ?_
        have X := undrew S.ext
        obtain ⟨v39, e39, h39⟩ := S.got 39 (by kernel_rfl)
        obtain ⟨v40, e40, h40⟩ := S.got 40 (by kernel_rfl)
        obtain ⟨b0, A0, n0, c0, hv0, Z0⟩ := (show IsM wr _ _ _ from h39)
        obtain ⟨b1, A1, n1, c1, hv1, Z1⟩ := (show IsM wr _ _ _ from h40)
        exact wp_bs2 ((ev_of (e39 65 (by kernel_rfl))).trans hv0) ((ev_of (e40 66 (by kernel_rfl))).trans hv1) (done' (by kernel_rfl) (rb _ _ _ (bl_alloc _ _)) (IsR2.new Z0 Z1))
      · refine rs_yes rfl rfl (by kernel_rfl) (by kernel_rfl : _ = some 60) (fun _ _ _ h => h) fun a wr S => ?_
        have X := undrew S.ext
        obtain ⟨v41, e41, h41⟩ := S.got 41 (by kernel_rfl)
        exact st_call cf_big_Add (args1 (ev_of (e41 67 (by kernel_rfl)))) (by kernel_rfl) rb (cAdd2 (z := zb) (u := zc) h41 (by omega) (by omega) X.size) (fun _ _ _ h => h)
      · refine rs_yes rfl rfl (by kernel_rfl) (by kernel_rfl : _ = some 60) (fun _ _ _ h => h) fun a wr S => ?_
        have X := undrew S.ext
        obtain ⟨v38, e38, h38⟩ := S.got 38 (by kernel_rfl)
        obtain ⟨v42, e42, h42⟩ := S.got 42 (by kernel_rfl)
        exact st_call cf_big_Cmp (args2 (ev_of (e38 64 (by kernel_rfl))) (ev_of (e42 68 (by kernel_rfl)))) (by kernel_rfl) rb (cCmp h38.m h42.m (by omega) (by omega) HAC.out) (fun _ _ _ h => h)
      · refine rs_yes rfl rfl (by kernel_rfl) (by kernel_rfl : _ = some 60) (fun _ _ _ h => h) fun a wr S => ?_
        have X := undrew S.ext
        exact wp_mv (ev_of ((S.old 10 (by kernel_rfl)).trans rfl)) (done (by kernel_rfl) rbu_refl rfl)
      · refine rs_yes rfl rfl (by kernel_rfl) (by kernel_rfl : _ = some 60) (fun _ _ _ h => h) fun a wr S => ?_
        have X := undrew S.ext
        obtain ⟨v43, e43, h43⟩ := S.got 43 (by kernel_rfl)
        obtain ⟨v44, e44, h44⟩ := S.got 44 (by kernel_rfl)
        exact wp_neI ((ev_of (e43 69 (by kernel_rfl))).trans h43) ((ev_of (e44 70 (by kernel_rfl))).trans h44) (Or.inl rfl) (done (by kernel_rfl) rbu_refl (congrArg Value.bool (by decide)))
      · refine rs_plain rfl rfl fun a wr S => ?_
        have X := undrew S.ext
        obtain ⟨v34, e34, h34⟩ := S.got 34 (by kernel_rfl)
        obtain ⟨v45, e45, h45⟩ := S.got 45 (by kernel_rfl)
        exact wp_pickF ((ev_of (e34 60 (by kernel_rfl))).trans h34) ((ev_of (e45 71 (by kernel_rfl))).trans h45) (done (by kernel_rfl) rbu_refl rfl)
      · refine rs_plain rfl rfl fun a wr S => ?_
        have X := undrew S.ext
        obtain ⟨v46, e46, h46⟩ := S.got 46 (by kernel_rfl)
        exact wp_mv ((ev_of (e46 72 (by kernel_rfl))).trans h46) (done (by kernel_rfl) rbu_refl rfl)
      · refine rs_yes rfl rfl (by kernel_rfl) (by kernel_rfl : _ = some 73) (fun _ _ _ h => h) fun a wr S => ?_
        have X := undrew S.ext
        exact wp_load (ev_of ((S.old 7 (by kernel_rfl)).trans rfl)) (Pa.below X) (done (by kernel_rfl) rbu_refl (Qa.below X))
      · refine rs_yes rfl rfl (by kernel_rfl) (by kernel_rfl : _ = some 73) (fun _ _ _ h => h) fun a wr S => ?_
        have X := undrew S.ext
        obtain ⟨v48, e48, h48⟩ := S.got 48 (by kernel_rfl)
        exact st_call cf_big_Neg (args1 (ev_of (e48 74 (by kernel_rfl)))) (by kernel_rfl) rb (cNeg h48 (by omega) X.size) (fun _ _ _ h => h)
      · refine rs_yes rfl rfl (by kernel_rfl) (by kernel_rfl : _ = some 73) (fun _ _ _ h => h) fun a wr S => ?_
        have X := undrew S.ext
        exact wp_load (ev_of ((S.old 8 (by kernel_rfl)).trans rfl)) (Pb.below X) (done (by kernel_rfl) rbu_refl (Qb.below X))
      · refine rs_yes rfl rfl (by kernel_rfl) (by kernel_rfl : _ = some 73) (fun _ _ _ h => h) fun a wr S => ?_
        have X := undrew S.ext
        obtain ⟨v50, e50, h50⟩ := S.got 50 (by kernel_rfl)
        exact st_call cf_big_Neg (args1 (ev_of (e50 76 (by kernel_rfl)))) (by kernel_rfl) rb (cNeg h50 (by omega) X.size) (fun _ _ _ h => h)
      · refine rs_yes rfl rfl (by kernel_rfl) (by kernel_rfl : _ = some 73) (fun _ _ _ h => h) fun a wr S => ?_
        have X := undrew S.ext
        obtain ⟨v49, e49, h49⟩ := S.got 49 (by kernel_rfl)
        obtain ⟨v51, e51, h51⟩ := S.got 51 (by kernel_rfl)
        exact st_call cf_big_Cmp (args2 (ev_of (e49 75 (by kernel_rfl))) (ev_of (e51 77 (by kernel_rfl)))) (by kernel_rfl) rb (cCmp h49.m h51.m (by omega) (by omega) HNE.out) (fun _ _ _ h => h)
      · refine rs_yes rfl rfl (by kernel_rfl) (by kernel_rfl : _ = some 73) (fun _ _ _ h => h) fun a wr S => ?_
        have X := undrew S.ext
        exact wp_mv (ev_of ((S.old 10 (by kernel_rfl)).trans rfl)) (done (by kernel_rfl) rbu_refl rfl)
      · refine rs_yes rfl rfl (by kernel_rfl) (by kernel_rfl : _ = some 73) (fun _ _ _ h => h) fun a wr S => ?_
        have X := undrew S.ext
        obtain ⟨v53, e53, h53⟩ := S.got 53 (by kernel_rfl)
        exact wp_negI ((ev_of (e53 79 (by kernel_rfl))).trans h53) (by decide) (by decide) (done (by kernel_rfl) rbu_refl rfl)
      · refine rs_yes rfl rfl (by kernel_rfl) (by kernel_rfl : _ = some 73) (fun _ _ _ h => h) fun a wr S => ?_
        have X := undrew S.ext
        obtain ⟨v52, e52, h52⟩ := S.got 52 (by kernel_rfl)
        obtain ⟨v54, e54, h54⟩ := S.got 54 (by kernel_rfl)
        exact wp_neI ((ev_of (e52 78 (by kernel_rfl))).trans h52) ((ev_of (e54 80 (by kernel_rfl))).trans h54) (Or.inl rfl) (done (by kernel_rfl) rbu_refl (congrArg Value.bool (by decide)))
      · refine rs_plain rfl rfl fun a wr S => ?_
        have X := undrew S.ext
        obtain ⟨v47, e47, h47⟩ := S.got 47 (by kernel_rfl)
        obtain ⟨v55, e55, h55⟩ := S.got 55 (by kernel_rfl)
        exact wp_pickF ((ev_of (e47 73 (by kernel_rfl))).trans h47) ((ev_of (e55 81 (by kernel_rfl))).trans h55) (done (by kernel_rfl) rbu_refl rfl)
    · intro f4_ w4 hR hv
      replace hR := undrew hR
      have f0 : f4_ 0 = .int .i64 1 := (hvc (hv 0 (by omega))).elim fun _ h => h
      have f1 : f4_ 1 = .bool false := (hvc (hv 1 (by omega))).elim fun _ h => h
      have f2 : f4_ 2 = .bool false := (hvc (hv 2 (by omega))).elim fun _ h => h
      have f3 : f4_ 3 = .int .i64 1 := (hvc (hv 3 (by omega))).elim fun _ h => h
      have f4 : f4_ 4 = .bool false := (hvc (hv 4 (by omega))).elim fun _ h => h
      have f5 : f4_ 5 = .bool false := (hvc (hv 5 (by omega))).elim fun _ h => h
      have f6 : f4_ 6 = .bool false := (hvc (hv 6 (by omega))).elim fun _ h => h
      have f9 : f4_ 9 = .int .i64 (-1) := (hvc (hv 9 (by omega))).elim fun _ h => h
      have f10 : f4_ 10 = .int .i64 1 := (hvc (hv 10 (by omega))).elim fun _ h => h
      have f11 : f4_ 11 = .int .i64 (-1) := (hvc (hv 11 (by omega))).elim fun _ h => h
      have f12 : f4_ 12 = .bool false := (hvc (hv 12 (by omega))).elim fun _ h => h
      have f13 : f4_ 13 = .bool false := (hvc (hv 13 (by omega))).elim fun _ h => h
      have f14 : f4_ 14 = .bool false := (hvc (hv 14 (by omega))).elim fun _ h => h
      have f18 : f4_ 18 = .int .i64 1 := (hvc (hv 18 (by omega))).elim fun _ h => h
      have f19 : f4_ 19 = .int .i64 1 := (hvc (hv 19 (by omega))).elim fun _ h => h
      have f20 : f4_ 20 = .bool false := (hvc (hv 20 (by omega))).elim fun _ h => h
      have f21 : f4_ 21 = .bool false := (hvc (hv 21 (by omega))).elim fun _ h => h
      have f22 : f4_ 22 = .bool false := (hvc (hv 22 (by omega))).elim fun _ h => h
      have f23 : f4_ 23 = .int .i64 1 := (hvc (hv 23 (by omega))).elim fun _ h => h
      have f24 : f4_ 24 = .bool false := (hvc (hv 24 (by omega))).elim fun _ h => h
      have f31 : f4_ 31 = .bool false := (hvc (hv 31 (by omega))).elim fun _ h => h
      have f32 : f4_ 32 = .bool false := (hvc (hv 32 (by omega))).elim fun _ h => h
      have f33 : f4_ 33 = .bool false := (hvc (hv 33 (by omega))).elim fun _ h => h
      have f34 : f4_ 34 = .bool false := (hvc (hv 34 (by omega))).elim fun _ h => h
      have f43 : f4_ 43 = .int .i64 1 := (hvc (hv 43 (by omega))).elim fun _ h => h
      have f44 : f4_ 44 = .int .i64 1 := (hvc (hv 44 (by omega))).elim fun _ h => h
      have f45 : f4_ 45 = .bool false := (hvc (hv 45 (by omega))).elim fun _ h => h
      have f46 : f4_ 46 = .bool false := (hvc (hv 46 (by omega))).elim fun _ h => h
      have f47 : f4_ 47 = .bool false := (hvc (hv 47 (by omega))).elim fun _ h => h
      have f52 : f4_ 52 = .int .i64 (-1) := (hvc (hv 52 (by omega))).elim fun _ h => h
      have f53 : f4_ 53 = .int .i64 1 := (hvc (hv 53 (by omega))).elim fun _ h => h
      have f54 : f4_ 54 = .int .i64 (-1) := (hvc (hv 54 (by omega))).elim fun _ h => h
      have f55 : f4_ 55 = .bool false := (hvc (hv 55 (by omega))).elim fun _ h => h
      have f56 : f4_ 56 = .bool false := (hvc (hv 56 (by omega))).elim fun _ h => h
      simp only [putFn, Act.put, List.setIfInBounds_toArray, List.set_cons_zero, List.set_cons_succ, f0, f1, f2, f3, f4, f5, f6, f9, f10, f11, f12, f13, f14, f18, f19, f20, f21, f22, f23, f24, f31, f32, f33, f34, f43, f44, f45, f46, f47, f52, f53, f54, f55, f56]
      replace Qa := Qa.below hR
      replace Qb := Qb.below hR
      replace Qc := Qc.below hR
      replace Pa := Pa.below hR
      replace Pb := Pb.below hR
      replace Pc := Pc.below hR
      replace BB := bl_trans BB hR
      clear hR
      clear hv
      clear HBA HSU HEQ HAC HNE
      rcases Int.lt_trichotomy n m with hlt | heq | hgt
      · have HN := Lib.hid (cmpI_lt hlt)
        go_wp2_with fail
        refine (cFrom _ (by omega) (by omega) (Nat.le_refl _)).mono ?_
        rintro e w5 ⟨_, rfl, hb5, b5, A5, n5, c5, rfl, Z5⟩
        replace Qa := Qa.below hb5
        replace Qb := Qb.below hb5
        replace Qc := Qc.below hb5
        replace Pa := Pa.below hb5
        replace Pb := Pb.below hb5
        replace Pc := Pc.below hb5
        replace BB := bl_trans BB hb5
        clear hb5
        have q5 : IsZ _ w5 (.agg #[.bool b5, .slice A5 n5 c5]) (n) 2 := ⟨_, _, _, _, rfl, Z5⟩
        clear Z5
        go_wp2_with fail
        refine (cFrom _ (by omega) (by omega) (Nat.le_refl _)).mono ?_
        rintro e w6 ⟨_, rfl, hb6, b6, A6, n6, c6, rfl, Z6⟩
        replace Qa := Qa.below hb6
        replace Qb := Qb.below hb6
        replace Qc := Qc.below hb6
        replace Pa := Pa.below hb6
        replace Pb := Pb.below hb6
        replace Pc := Pc.below hb6
        replace q5 := q5.below hb6
        replace BB := bl_trans BB hb6
        clear hb6
        have q6 : IsZ _ w6 (.agg #[.bool b6, .slice A6 n6 c6]) (m) 2 := ⟨_, _, _, _, rfl, Z6⟩
        clear Z6
        go_wp2_with fail
        refine (cCmp q5.m q6.m (by omega) (by omega) HN.out).mono ?_
        rintro e w7 ⟨_, rfl, hb7, rfl⟩
        replace Qa := Qa.below hb7
        replace Qb := Qb.below hb7
        replace Qc := Qc.below hb7
        replace Pa := Pa.below hb7
        replace Pb := Pb.below hb7
        replace Pc := Pc.below hb7
        replace q5 := q5.below hb7
        replace q6 := q6.below hb7
        replace BB := bl_trans BB hb7
        clear hb7
        go_wp2_with fail
        go_ret
        exact ⟨rfl, BB⟩
      · have HN := Lib.hid (cmpI_eq heq)
        have hx1 : ¬ n < m := by omega
        have hx2 : ¬ m < n := by omega
        clear heq
        go_wp2_with fail
        refine (cFrom _ (by omega) (by omega) (Nat.le_refl _)).mono ?_
        rintro e w5 ⟨_, rfl, hb5, b5, A5, n5, c5, rfl, Z5⟩
        replace Qa := Qa.below hb5
        replace Qb := Qb.below hb5
        replace Qc := Qc.below hb5
        replace Pa := Pa.below hb5
        replace Pb := Pb.below hb5
        replace Pc := Pc.below hb5
        replace BB := bl_trans BB hb5
        clear hb5
        have q5 : IsZ _ w5 (.agg #[.bool b5, .slice A5 n5 c5]) (n) 2 := ⟨_, _, _, _, rfl, Z5⟩
        clear Z5
        go_wp2_with fail
        refine (cFrom _ (by omega) (by omega) (Nat.le_refl _)).mono ?_
        rintro e w6 ⟨_, rfl, hb6, b6, A6, n6, c6, rfl, Z6⟩
        replace Qa := Qa.below hb6
        replace Qb := Qb.below hb6
        replace Qc := Qc.below hb6
        replace Pa := Pa.below hb6
        replace Pb := Pb.below hb6
        replace Pc := Pc.below hb6
        replace q5 := q5.below hb6
        replace BB := bl_trans BB hb6
        clear hb6
        have q6 : IsZ _ w6 (.agg #[.bool b6, .slice A6 n6 c6]) (m) 2 := ⟨_, _, _, _, rfl, Z6⟩
        clear Z6
        go_wp2_with fail
        refine (cCmp q5.m q6.m (by omega) (by omega) HN.out).mono ?_
        rintro e w7 ⟨_, rfl, hb7, rfl⟩
        replace Qa := Qa.below hb7
        replace Qb := Qb.below hb7
        replace Qc := Qc.below hb7
        replace Pa := Pa.below hb7
        replace Pb := Pb.below hb7
        replace Pc := Pc.below hb7
        replace q5 := q5.below hb7
        replace q6 := q6.below hb7
        replace BB := bl_trans BB hb7
        clear hb7
        go_wp2_with fail
        go_ret
        exact ⟨rfl, BB⟩
      · have HN := Lib.hid (cmpI_gt hgt)
        go_wp2_with fail
        refine (cFrom _ (by omega) (by omega) (Nat.le_refl _)).mono ?_
        rintro e w5 ⟨_, rfl, hb5, b5, A5, n5, c5, rfl, Z5⟩
        replace Qa := Qa.below hb5
        replace Qb := Qb.below hb5
        replace Qc := Qc.below hb5
        replace Pa := Pa.below hb5
        replace Pb := Pb.below hb5
        replace Pc := Pc.below hb5
        replace BB := bl_trans BB hb5
        clear hb5
        have q5 : IsZ _ w5 (.agg #[.bool b5, .slice A5 n5 c5]) (n) 2 := ⟨_, _, _, _, rfl, Z5⟩
        clear Z5
        go_wp2_with fail
        refine (cFrom _ (by omega) (by omega) (Nat.le_refl _)).mono ?_
        rintro e w6 ⟨_, rfl, hb6, b6, A6, n6, c6, rfl, Z6⟩
        replace Qa := Qa.below hb6
        replace Qb := Qb.below hb6
        replace Qc := Qc.below hb6
        replace Pa := Pa.below hb6
        replace Pb := Pb.below hb6
        replace Pc := Pc.below hb6
        replace q5 := q5.below hb6
        replace BB := bl_trans BB hb6
        clear hb6
        have q6 : IsZ _ w6 (.agg #[.bool b6, .slice A6 n6 c6]) (m) 2 := ⟨_, _, _, _, rfl, Z6⟩
        clear Z6
        go_wp2_with fail
        refine (cCmp q5.m q6.m (by omega) (by omega) HN.out).mono ?_
        rintro e w7 ⟨_, rfl, hb7, rfl⟩
        replace Qa := Qa.below hb7
        replace Qb := Qb.below hb7
        replace Qc := Qc.below hb7
        replace Pa := Pa.below hb7
        replace Pb := Pb.below hb7
        replace Pc := Pc.below hb7
        replace q5 := q5.below hb7
        replace q6 := q6.below hb7
        replace BB := bl_trans BB hb7
        clear hb7
        go_wp2_with fail
        go_ret
        exact ⟨rfl, BB⟩

theorem bigOrder_walk (sa : Bool) (Aa : Option Addr) (na ca : Nat) (xa : List Nat) (sb : Bool) (Ab : Option Addr) (nb cb : Nat) (xb : List Nat) (sc : Bool) (Ac : Option Addr) (nc cc : Nat) (xc : List Nat) (w : World) (n m : Int) (n0 : -9223372036854775808 ≤ n) (n1 : n < 9223372036854775808) (m0 : -9223372036854775808 ≤ m) (m1 : m < 9223372036854775808) (ha : Rd w Aa na ca xa) (ma : na ≤ maxLen) (hb : Rd w Ab nb cb xb) (mb : nb ≤ maxLen) (hc : Rd w Ac nc cc xc) (mc : nc ≤ maxLen) : Calls Try.prog 9 #[.agg #[.bool sa, .slice Aa na ca, .bool sb, .slice Ab nb cb, .bool sc, .slice Ac nc cc], .int .i64 n, .int .i64 m] w fun e w' => e = .returned (.bool true) ∧ Below w.heap.size w w' := by
  obtain ⟨za, hza⟩ : ∃ z, z = zv sa (M.val (xa.take (min na 10))) := ⟨_, rfl⟩
  obtain ⟨zb, hzb⟩ : ∃ z, z = zv sb (M.val (xb.take (min nb 10))) := ⟨_, rfl⟩
  obtain ⟨zc, hzc⟩ : ∃ z, z = zv sc (M.val (xc.take (min nc 10))) := ⟨_, rfl⟩
  have Ma : Zm w sa Aa (min na 10) ca za 10 := by rw [hza]; exact few_zm ha 10
  have Mb : Zm w sb Ab (min nb 10) cb zb 10 := by rw [hzb]; exact few_zm hb 10
  have Mc : Zm w sc Ac (min nc 10) cc zc 10 := by rw [hzc]; exact few_zm hc 10
  have Ha := Lib.hid ha
  have Hb := Lib.hid hb
  have Hc := Lib.hid hc
  have Ga := Lib.hid ma
  have Gb := Lib.hid mb
  have Gc := Lib.hid mc
  clear ha ma hza hb mb hzb hc mc hzc
  have BB := bl_alloc w (.cells #[.bool sa, .slice Aa na ca, .bool sb, .slice Ab nb cb, .bool sc, .slice Ac nc cc] 59)
  have PV := Ar.new w #[.bool sa, .slice Aa na ca, .bool sb, .slice Ab nb cb, .bool sc, .slice Ac nc cc] 59
  have Qa : IsM (w.alloc (.cells #[.bool sa, .slice Aa na ca, .bool sb, .slice Ab nb cb, .bool sc, .slice Ac nc cc] 59)) (.agg #[.bool sa, .slice Aa (min na 10) ca]) za 10 := ⟨_, _, _, _, rfl, Ma.alloc _⟩
  have Qb : IsM (w.alloc (.cells #[.bool sa, .slice Aa na ca, .bool sb, .slice Ab nb cb, .bool sc, .slice Ac nc cc] 59)) (.agg #[.bool sb, .slice Ab (min nb 10) cb]) zb 10 := ⟨_, _, _, _, rfl, Mb.alloc _⟩
  have Qc : IsM (w.alloc (.cells #[.bool sa, .slice Aa na ca, .bool sb, .slice Ab nb cb, .bool sc, .slice Ac nc cc] 59)) (.agg #[.bool sc, .slice Ac (min nc 10) cc]) zc 10 := ⟨_, _, _, _, rfl, Mc.alloc _⟩
  rcases Int.lt_trichotomy za zb with h | h | h
  · exact bigOrder_L sa Aa na ca xa sb Ab nb cb xb sc Ac nc cc xc za zb zc w n m n0 n1 m0 m1 Ha Hb Hc Ga Gb Gc BB PV Qa Qb Qc (Lib.hid (cmpI_lt h)) (Lib.hid (cmpI_gt h)) (Lib.hid (sgn_neg (by omega))) (Lib.hid (by omega)) (Lib.hid (cmpI_lt (by omega))) (Lib.hid (cmpI_gt (by omega))) (Lib.hid (by omega))
  · exact bigOrder_E sa Aa na ca xa sb Ab nb cb xb sc Ac nc cc xc za zb zc w n m n0 n1 m0 m1 Ha Hb Hc Ga Gb Gc BB PV Qa Qb Qc (Lib.hid (cmpI_eq h)) (Lib.hid (cmpI_eq h.symm)) (Lib.hid (sgn_zero (by omega))) (Lib.hid h) (Lib.hid (cmpI_eq (by omega))) (Lib.hid (cmpI_eq (by omega))) (Lib.hid (by omega))
  · exact bigOrder_G sa Aa na ca xa sb Ab nb cb xb sc Ac nc cc xc za zb zc w n m n0 n1 m0 m1 Ha Hb Hc Ga Gb Gc BB PV Qa Qb Qc (Lib.hid (cmpI_gt h)) (Lib.hid (cmpI_lt h)) (Lib.hid (sgn_pos (by omega))) (Lib.hid (by omega)) (Lib.hid (cmpI_gt (by omega))) (Lib.hid (cmpI_lt (by omega)))

end Go.Proofs.Ytebchniiiccghaa
