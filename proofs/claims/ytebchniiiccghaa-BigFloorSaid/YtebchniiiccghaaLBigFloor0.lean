/- litmuslaw02.BigFloor, one of its cases, answers true at every input, and changes nothing that was there: its walk. -/
import Derived.Test.YtebchniiiccghaaZH
namespace Go.Proofs.Ytebchniiiccghaa
open Go.RowKit
set_option linter.unusedVariables false
set_option maxRecDepth 100000

theorem sgn_ne {z : Int} (h : z ≠ 0) : ∃ q : Int, sgn z = q ∧ (q == 0) = false := by
  rcases Int.lt_or_gt_of_ne h with h | h
  · exact ⟨-1, sgn_neg h, by decide⟩
  · exact ⟨1, sgn_pos h, by decide⟩
theorem fd_scaleP (a b c : Int) (hb : b ≠ 0) (hc : 0 < c) : FD (a * c) (b * c) (dq a b) (dr a b * c) := by
  have F := FD.of a hb
  refine ⟨?_, fun h => ?_, fun h => ?_⟩
  · have e := F.eq
    have : a * c = (b * dq a b + dr a b) * c := by rw [← e]
    rw [this, Int.add_mul, Int.mul_right_comm]
  · have hb' : 0 < b := by
      rcases Int.lt_or_gt_of_ne hb with h1 | h1
      · have := Int.mul_neg_of_neg_of_pos h1 hc
        omega
      · exact h1
    have := F.pos hb'
    exact ⟨Int.mul_nonneg this.1 (by omega), Int.mul_lt_mul_of_pos_right this.2 hc⟩
  · have hb' : b < 0 := by
      rcases Int.lt_or_gt_of_ne hb with h1 | h1
      · exact h1
      · have := Int.mul_pos h1 hc
        omega
    have := F.neg hb'
    exact ⟨Int.mul_lt_mul_of_pos_right this.1 hc, Int.mul_nonpos_of_nonpos_of_nonneg this.2 (by omega)⟩
theorem fd_negate {a b q r : Int} (h : FD a b q r) : FD (-a) (-b) q (-r) := by
  refine ⟨?_, fun hp => ?_, fun hn => ?_⟩
  · have := h.eq
    rw [Int.neg_mul]
    omega
  · have := h.neg (by omega)
    omega
  · have := h.pos (by omega)
    omega
theorem fd_scale (a b c : Int) (hb : b ≠ 0) (hc : c ≠ 0) : dq (a * c) (b * c) = dq a b := by
  have hbc := Int.mul_ne_zero hb hc
  rcases Int.lt_or_gt_of_ne hc with h | h
  · have F := fd_negate (fd_scaleP a b (-c) hb (by omega))
    rw [Int.mul_neg, Int.mul_neg, Int.neg_neg, Int.neg_neg] at F
    exact (F.dq hbc).symm
  · exact ((fd_scaleP a b c hb h).dq hbc).symm

set_option maxHeartbeats 4000000 in
theorem bigFloor_Z (sa : Bool) (Aa : Option Addr) (na ca : Nat) (xa : List Nat) (sb : Bool) (Ab : Option Addr) (nb cb : Nat) (xb : List Nat) (sc : Bool) (Ac : Option Addr) (nc cc : Nat) (xc : List Nat) (za zb zc : Int) (w : World) (Ha : Hid (Rd w Aa na ca xa)) (Hb : Hid (Rd w Ab nb cb xb)) (Hc : Hid (Rd w Ac nc cc xc)) (Ga : Hid (na ≤ maxLen)) (Gb : Hid (nb ≤ maxLen)) (Gc : Hid (nc ≤ maxLen)) (BB : Below w.heap.size w (w.alloc (.cells #[.bool sa, .slice Aa na ca, .bool sb, .slice Ab nb cb, .bool sc, .slice Ac nc cc] 59))) (PV : Ar (w.alloc (.cells #[.bool sa, .slice Aa na ca, .bool sb, .slice Ab nb cb, .bool sc, .slice Ac nc cc] 59)) w.heap.size #[.bool sa, .slice Aa na ca, .bool sb, .slice Ab nb cb, .bool sc, .slice Ac nc cc] 59) (Qa : IsM (w.alloc (.cells #[.bool sa, .slice Aa na ca, .bool sb, .slice Ab nb cb, .bool sc, .slice Ac nc cc] 59)) (.agg #[.bool sa, .slice Aa (min na 20) ca]) za 20) (Qb : IsM (w.alloc (.cells #[.bool sa, .slice Aa na ca, .bool sb, .slice Ab nb cb, .bool sc, .slice Ac nc cc] 59)) (.agg #[.bool sb, .slice Ab (min nb 20) cb]) zb 20) (Qc : IsM (w.alloc (.cells #[.bool sa, .slice Aa na ca, .bool sb, .slice Ab nb cb, .bool sc, .slice Ac nc cc] 59)) (.agg #[.bool sc, .slice Ac (min nc 20) cc]) zc 20) (HB : Hid (zb = 0)) : Calls Try.prog 8 #[.agg #[.bool sa, .slice Aa na ca, .bool sb, .slice Ab nb cb, .bool sc, .slice Ac nc cc]] w fun e w' => e = .returned (.bool true) ∧ Below w.heap.size w w' := by
  go_enter Try.func8, Try.ntmps8
  go_wp2_with fail
  refine (cWorks _).mono ?_
  rintro e w1 ⟨_, rfl, hb1, rfl⟩
  replace PV := PV.below hb1
  replace Qa := Qa.below hb1
  replace Qb := Qb.below hb1
  replace Qc := Qc.below hb1
  replace BB := bl_trans BB hb1
  clear hb1
  go_wp2_with fail
  refine wp_region_list (Ext := (BelX (w1).heap.size)) (Rel := (BelU (w1).heap.size)) [fun v _ _ => v = .pointer (some ⟨w.heap.size, 0, none⟩), fun v _ _ => v = .agg #[.bool sa, .slice Aa na ca], fun v _ _ => v = .agg #[.bool sa, .slice Aa (min na 20) ca], fun v _ _ => v = .pointer (some ⟨w.heap.size, 2, none⟩), fun v _ _ => v = .agg #[.bool sb, .slice Ab nb cb], fun v _ _ => v = .agg #[.bool sb, .slice Ab (min nb 20) cb], fun v _ _ => v = .pointer (some ⟨w.heap.size, 4, none⟩), fun v _ _ => v = .agg #[.bool sc, .slice Ac nc cc], fun v _ _ => v = .agg #[.bool sc, .slice Ac (min nc 20) cc], fun v _ w => IsP (w1).heap.size v w, fun v _ w => IsP (w1).heap.size v w, fun v _ w => IsP (w1).heap.size v w, fun _ u w => HasC (w1).heap.size u w sa Aa (min na 20) ca, fun _ u w => HasC (w1).heap.size u w sb Ab (min nb 20) cb, fun _ u w => HasC (w1).heap.size u w sc Ac (min nc 20) cc] (n := 15) (by kernel_rfl) rfl (by kernel_rfl) (by kernel_rfl) (by kernel_rfl) (by kernel_rfl) (by kernel_rfl) (rx_refl _) (rxu_trans _) ⟨sC, ⟨sC, ⟨sC, ⟨sC, ⟨sC, ⟨sC, ⟨sC, ⟨sC, ⟨sC, ⟨xP, ⟨xP, ⟨xP, ⟨xHC, ⟨xHC, ⟨xHC, trivial⟩⟩⟩⟩⟩⟩⟩⟩⟩⟩⟩⟩⟩⟩⟩ ?_ ?_
  · refine ⟨⟨⟨⟨⟨⟨⟨⟨⟨⟨⟨⟨⟨⟨⟨trivial, ?_⟩, ?_⟩, ?_⟩, ?_⟩, ?_⟩, ?_⟩, ?_⟩, ?_⟩, ?_⟩, ?_⟩, ?_⟩, ?_⟩, ?_⟩, ?_⟩, ?_⟩
    · refine rs_plain rfl rfl fun a wr S => ?_
      have X := undrewX S.ext
      exact wp_idx0 (ev_of ((S.old 1 (by kernel_rfl)).trans rfl)) (done (by kernel_rfl) (rxu_refl _) rfl)
    · refine rs_plain rfl rfl fun a wr S => ?_
      have X := undrewX S.ext
      obtain ⟨v0, e0, h0⟩ := S.got 0 (by kernel_rfl)
      exact wp_loadAt ((ev_of (e0 20 (by kernel_rfl))).trans h0) ((PV.below X).at 0 rfl) ((PV.below X).at 1 rfl) (done (by kernel_rfl) (rxu_refl _) rfl)
    · refine rs_plain rfl rfl fun a wr S => ?_
      have X := undrewX S.ext
      obtain ⟨v1, e1, h1⟩ := S.got 1 (by kernel_rfl)
      exact st_call cf_law02_few (args2 ((ev_of (e1 21 (by kernel_rfl))).trans h1) rfl) (by kernel_rfl) (rxu _) (cFew (Ha.out.below (bl_trans BB X)) Ga.out 20 _ rfl (by omega)) (fun _ _ _ h => h)
    · refine rs_plain rfl rfl fun a wr S => ?_
      have X := undrewX S.ext
      exact wp_idx1 (ev_of ((S.old 1 (by kernel_rfl)).trans rfl)) (done (by kernel_rfl) (rxu_refl _) rfl)
    · refine rs_plain rfl rfl fun a wr S => ?_
      have X := undrewX S.ext
      obtain ⟨v3, e3, h3⟩ := S.got 3 (by kernel_rfl)
      exact wp_loadAt ((ev_of (e3 23 (by kernel_rfl))).trans h3) ((PV.below X).at 2 rfl) ((PV.below X).at 3 rfl) (done (by kernel_rfl) (rxu_refl _) rfl)
    · refine rs_plain rfl rfl fun a wr S => ?_
      have X := undrewX S.ext
      obtain ⟨v4, e4, h4⟩ := S.got 4 (by kernel_rfl)
      exact st_call cf_law02_few (args2 ((ev_of (e4 24 (by kernel_rfl))).trans h4) rfl) (by kernel_rfl) (rxu _) (cFew (Hb.out.below (bl_trans BB X)) Gb.out 20 _ rfl (by omega)) (fun _ _ _ h => h)
    · refine rs_plain rfl rfl fun a wr S => ?_
      have X := undrewX S.ext
      exact wp_idx2 (ev_of ((S.old 1 (by kernel_rfl)).trans rfl)) (done (by kernel_rfl) (rxu_refl _) rfl)
    · refine rs_plain rfl rfl fun a wr S => ?_
      have X := undrewX S.ext
      obtain ⟨v6, e6, h6⟩ := S.got 6 (by kernel_rfl)
      exact wp_loadAt ((ev_of (e6 26 (by kernel_rfl))).trans h6) ((PV.below X).at 4 rfl) ((PV.below X).at 5 rfl) (done (by kernel_rfl) (rxu_refl _) rfl)
    · refine rs_plain rfl rfl fun a wr S => ?_
      have X := undrewX S.ext
      obtain ⟨v7, e7, h7⟩ := S.got 7 (by kernel_rfl)
      exact st_call cf_law02_few (args2 ((ev_of (e7 27 (by kernel_rfl))).trans h7) rfl) (by kernel_rfl) (rxu _) (cFew (Hc.out.below (bl_trans BB X)) Gc.out 20 _ rfl (by omega)) (fun _ _ _ h => h)
    · refine rs_plain rfl rfl fun a wr S => ?_
      have X := undrewX S.ext
      refine st_alloc X.size (fun _ _ _ h => h) fun j vj u hj hs => ?_
      have hj' : j ∈ [9, 10, 11] := alloc_cases (by kernel_rfl) j hj
      simp only [List.mem_cons, List.not_mem_nil, or_false] at hj'
      rcases hj' with rfl | rfl | rfl <;> exact hs
    · refine rs_plain rfl rfl fun a wr S => ?_
      have X := undrewX S.ext
      refine st_alloc X.size (fun _ _ _ h => h) fun j vj u hj hs => ?_
      have hj' : j ∈ [9, 10, 11] := alloc_cases (by kernel_rfl) j hj
      simp only [List.mem_cons, List.not_mem_nil, or_false] at hj'
      rcases hj' with rfl | rfl | rfl <;> exact hs
    · refine rs_plain rfl rfl fun a wr S => ?_
      have X := undrewX S.ext
      refine st_alloc X.size (fun _ _ _ h => h) fun j vj u hj hs => ?_
      have hj' : j ∈ [9, 10, 11] := alloc_cases (by kernel_rfl) j hj
      simp only [List.mem_cons, List.not_mem_nil, or_false] at hj'
      rcases hj' with rfl | rfl | rfl <;> exact hs
    · refine rs_plain rfl rfl fun a wr S => ?_
      have X := undrewX S.ext
      obtain ⟨v9, e9, h9⟩ := S.got 9 (by kernel_rfl)
      obtain ⟨v2, e2, h2⟩ := S.got 2 (by kernel_rfl)
      exact st_storeC (by kernel_rfl) (by kernel_rfl) (ev_of (e9 3 (by kernel_rfl))) h9 ((ev_of (e2 22 (by kernel_rfl))).trans h2) (fun _ _ _ h => h)
    · refine rs_plain rfl rfl fun a wr S => ?_
      have X := undrewX S.ext
      obtain ⟨v10, e10, h10⟩ := S.got 10 (by kernel_rfl)
      obtain ⟨v5, e5, h5⟩ := S.got 5 (by kernel_rfl)
      exact st_storeC (by kernel_rfl) (by kernel_rfl) (ev_of (e10 4 (by kernel_rfl))) h10 ((ev_of (e5 25 (by kernel_rfl))).trans h5) (fun _ _ _ h => h)
    · refine rs_plain rfl rfl fun a wr S => ?_
      have X := undrewX S.ext
      obtain ⟨v11, e11, h11⟩ := S.got 11 (by kernel_rfl)
      obtain ⟨v8, e8, h8⟩ := S.got 8 (by kernel_rfl)
      exact st_storeC (by kernel_rfl) (by kernel_rfl) (ev_of (e11 5 (by kernel_rfl))) h11 ((ev_of (e8 28 (by kernel_rfl))).trans h8) (fun _ _ _ h => h)
  · intro f2_ w2 hR hv
    replace hR := undrewX hR
    have f0 : f2_ 0 = .pointer (some ⟨w.heap.size, 0, none⟩) := (hvc (hv 0 (by omega))).elim fun _ h => h
    have f1 : f2_ 1 = .agg #[.bool sa, .slice Aa na ca] := (hvc (hv 1 (by omega))).elim fun _ h => h
    have f2 : f2_ 2 = .agg #[.bool sa, .slice Aa (min na 20) ca] := (hvc (hv 2 (by omega))).elim fun _ h => h
    have f3 : f2_ 3 = .pointer (some ⟨w.heap.size, 2, none⟩) := (hvc (hv 3 (by omega))).elim fun _ h => h
    have f4 : f2_ 4 = .agg #[.bool sb, .slice Ab nb cb] := (hvc (hv 4 (by omega))).elim fun _ h => h
    have f5 : f2_ 5 = .agg #[.bool sb, .slice Ab (min nb 20) cb] := (hvc (hv 5 (by omega))).elim fun _ h => h
    have f6 : f2_ 6 = .pointer (some ⟨w.heap.size, 4, none⟩) := (hvc (hv 6 (by omega))).elim fun _ h => h
    have f7 : f2_ 7 = .agg #[.bool sc, .slice Ac nc cc] := (hvc (hv 7 (by omega))).elim fun _ h => h
    have f8 : f2_ 8 = .agg #[.bool sc, .slice Ac (min nc 20) cc] := (hvc (hv 8 (by omega))).elim fun _ h => h
    obtain ⟨ga, f9, hga, Pa⟩ := (show HasC _ (f2_ 9) w2 sa Aa (min na 20) ca from hvs (hv 12 (by omega)) (by kernel_rfl))
    obtain ⟨gb, f10, hgb, Pb⟩ := (show HasC _ (f2_ 10) w2 sb Ab (min nb 20) cb from hvs (hv 13 (by omega)) (by kernel_rfl))
    obtain ⟨gc, f11, hgc, Pc⟩ := (show HasC _ (f2_ 11) w2 sc Ac (min nc 20) cc from hvs (hv 14 (by omega)) (by kernel_rfl))
    simp only [putFn, Act.put, List.setIfInBounds_toArray, List.set_cons_zero, List.set_cons_succ, f0, f1, f2, f3, f4, f5, f6, f7, f8, f9, f10, f11]
    replace PV := PV.below hR
    replace Qa := Qa.below hR
    replace Qb := Qb.below hR
    replace Qc := Qc.below hR
    replace BB := bl_trans BB hR
    clear hR
    clear hga
    clear hgb
    clear hgc
    clear hv
    clear PV
    have Pa_0 := Pa.c0
    have Pa_1 := Pa.c1
    have Pb_0 := Pb.c0
    have Pb_1 := Pb.c1
    go_wp2_with fail
    refine (cDiv0 Qa Qb (by omega) (by omega) HB.out (Nat.le_refl _)).mono ?_
    rintro e w3 ⟨_, rfl, hb3, b3, A3, n3, c3, rfl, Z3⟩
    clear Pa_0 Pa_1 Pb_0 Pb_1
    replace Qa := Qa.below hb3
    replace Qb := Qb.below hb3
    replace Qc := Qc.below hb3
    replace Pa := Pa.below hb3
    replace Pb := Pb.below hb3
    replace Pc := Pc.below hb3
    replace BB := bl_trans BB hb3
    clear hb3
    have q3 : IsZ _ w3 (.agg #[.bool b3, .slice A3 n3 c3]) (0) 0 := ⟨_, _, _, _, rfl, Z3⟩
    clear Z3
    replace BB := bl_trans BB (bl_alloc w3 (.cells #[.bool b3, .slice A3 n3 c3] 32))
    replace Qa := Qa.below (bl_alloc _ (.cells #[.bool b3, .slice A3 n3 c3] 32))
    replace Qb := Qb.below (bl_alloc _ (.cells #[.bool b3, .slice A3 n3 c3] 32))
    replace Qc := Qc.below (bl_alloc _ (.cells #[.bool b3, .slice A3 n3 c3] 32))
    replace Pa := Pa.below (bl_alloc _ (.cells #[.bool b3, .slice A3 n3 c3] 32))
    replace Pb := Pb.below (bl_alloc _ (.cells #[.bool b3, .slice A3 n3 c3] 32))
    replace Pc := Pc.below (bl_alloc _ (.cells #[.bool b3, .slice A3 n3 c3] 32))
    replace q3 := q3.below (bl_alloc _ (.cells #[.bool b3, .slice A3 n3 c3] 32))
    have P4 := Bz.new w3 b3 A3 n3 c3
    have Pa_0 := Pa.c0
    have Pa_1 := Pa.c1
    have Pb_0 := Pb.c0
    have Pb_1 := Pb.c1
    go_wp2_with fail
    refine (cMod0 Qa Qb (by omega) (by omega) HB.out (Nat.le_refl _)).mono ?_
    rintro e w5 ⟨_, rfl, hb5, b5, A5, n5, c5, rfl, Z5⟩
    clear Pa_0 Pa_1 Pb_0 Pb_1
    replace Qa := Qa.below hb5
    replace Qb := Qb.below hb5
    replace Qc := Qc.below hb5
    replace Pa := Pa.below hb5
    replace Pb := Pb.below hb5
    replace Pc := Pc.below hb5
    replace q3 := q3.below hb5
    replace P4 := P4.below hb5
    replace BB := bl_trans BB hb5
    clear hb5
    have q5 : IsZ _ w5 (.agg #[.bool b5, .slice A5 n5 c5]) (0) 0 := ⟨_, _, _, _, rfl, Z5⟩
    clear Z5
    replace BB := bl_trans BB (bl_alloc w5 (.cells #[.bool b5, .slice A5 n5 c5] 32))
    replace Qa := Qa.below (bl_alloc _ (.cells #[.bool b5, .slice A5 n5 c5] 32))
    replace Qb := Qb.below (bl_alloc _ (.cells #[.bool b5, .slice A5 n5 c5] 32))
    replace Qc := Qc.below (bl_alloc _ (.cells #[.bool b5, .slice A5 n5 c5] 32))
    replace Pa := Pa.below (bl_alloc _ (.cells #[.bool b5, .slice A5 n5 c5] 32))
    replace Pb := Pb.below (bl_alloc _ (.cells #[.bool b5, .slice A5 n5 c5] 32))
    replace Pc := Pc.below (bl_alloc _ (.cells #[.bool b5, .slice A5 n5 c5] 32))
    replace q3 := q3.below (bl_alloc _ (.cells #[.bool b5, .slice A5 n5 c5] 32))
    replace P4 := P4.below (bl_alloc _ (.cells #[.bool b5, .slice A5 n5 c5] 32))
    replace q5 := q5.below (bl_alloc _ (.cells #[.bool b5, .slice A5 n5 c5] 32))
    have P6 := Bz.new w5 b5 A5 n5 c5
    have Pb_0 := Pb.c0
    have Pb_1 := Pb.c1
    go_wp2_with fail
    refine (cSign Qb (by omega) (sgn_zero HB.out)).mono ?_
    rintro e w7 ⟨_, rfl, hb7, rfl⟩
    clear Pb_0 Pb_1
    replace Qa := Qa.below hb7
    replace Qb := Qb.below hb7
    replace Qc := Qc.below hb7
    replace Pa := Pa.below hb7
    replace Pb := Pb.below hb7
    replace Pc := Pc.below hb7
    replace q3 := q3.below hb7
    replace P4 := P4.below hb7
    replace q5 := q5.below hb7
    replace P6 := P6.below hb7
    replace BB := bl_trans BB hb7
    clear hb7
    have P4_0 := P4.c0
    have P4_1 := P4.c1
    have P6_0 := P6.c0
    have P6_1 := P6.c1
    go_wp2_with fail
    refine (cSame q3.t (IsT.zero _ 0) (by omega) (by omega) (decide_eq_true (rfl))).mono ?_
    rintro e w8 ⟨_, rfl, hb8, rfl⟩
    clear P4_0 P4_1 P6_0 P6_1
    replace Qa := Qa.below hb8
    replace Qb := Qb.below hb8
    replace Qc := Qc.below hb8
    replace Pa := Pa.below hb8
    replace Pb := Pb.below hb8
    replace Pc := Pc.below hb8
    replace q3 := q3.below hb8
    replace P4 := P4.below hb8
    replace q5 := q5.below hb8
    replace P6 := P6.below hb8
    replace BB := bl_trans BB hb8
    clear hb8
    have P4_0 := P4.c0
    have P4_1 := P4.c1
    have P6_0 := P6.c0
    have P6_1 := P6.c1
    go_wp2_with fail
    refine (cSame q5.t (IsT.zero _ 0) (by omega) (by omega) (decide_eq_true (rfl))).mono ?_
    rintro e w9 ⟨_, rfl, hb9, rfl⟩
    clear P4_0 P4_1 P6_0 P6_1
    replace Qa := Qa.below hb9
    replace Qb := Qb.below hb9
    replace Qc := Qc.below hb9
    replace Pa := Pa.below hb9
    replace Pb := Pb.below hb9
    replace Pc := Pc.below hb9
    replace q3 := q3.below hb9
    replace P4 := P4.below hb9
    replace q5 := q5.below hb9
    replace P6 := P6.below hb9
    replace BB := bl_trans BB hb9
    clear hb9
    have P4_0 := P4.c0
    have P4_1 := P4.c1
    have P6_0 := P6.c0
    have P6_1 := P6.c1
    go_wp2_with fail
    go_ret
    exact ⟨rfl, BB⟩

end Go.Proofs.Ytebchniiiccghaa
