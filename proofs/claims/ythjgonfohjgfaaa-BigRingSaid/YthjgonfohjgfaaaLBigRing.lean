/- litmuslaw02.BigRing answers true at every input, and changes nothing that was there: its walk. -/
import Derived.Test.YthjgonfohjgfaaaZRow
namespace Go.Proofs.Ythjgonfohjgfaaa
open Go.RowKit
set_option linter.unusedVariables false
set_option maxRecDepth 100000

theorem IsT.mono {w : World} {v : Value} {z : Int} {k j : Nat} (h : IsT w v z k) (hk : k ≤ j) : IsT w v z j := by
  obtain ⟨b, A, n, c, rfl, T, e⟩ := h
  exact ⟨b, A, n, c, rfl, ⟨T.rd, Nat.le_trans T.le hk⟩, e⟩

theorem IsT.belX {N : Nat} {w w' : World} {v : Value} {z : Int} {k : Nat} (h : IsT w v z k) (r : BelX N w w') : IsT w' v z k := by
  obtain ⟨b, A, n, c, rfl, T, e⟩ := h
  exact ⟨b, A, n, c, rfl, ⟨T.rd.belX r, T.le⟩, e⟩

set_option maxHeartbeats 8000000 in
theorem bigRing_in (sa : Bool) (Aa : Option Addr) (na ca : Nat) (xa : List Nat) (sb : Bool) (Ab : Option Addr) (nb cb : Nat) (xb : List Nat) (sc : Bool) (Ac : Option Addr) (nc cc : Nat) (xc : List Nat) (Al : Option Addr) (nl cl : Nat) (es : List IE) (za zb zc : Int) (w : World) (Ha : Hid (Rd w Aa na ca xa)) (Ga : Hid (na ≤ maxLen)) (Hb : Hid (Rd w Ab nb cb xb)) (Gb : Hid (nb ≤ maxLen)) (Hc : Hid (Rd w Ac nc cc xc)) (Gc : Hid (nc ≤ maxLen)) (HL : Hid (IRow w Al nl cl es)) (HM : Hid (nl ≤ maxLen)) (BB : Below w.heap.size w (w.alloc (.cells #[.bool sa, .slice Aa na ca, .bool sb, .slice Ab nb cb, .bool sc, .slice Ac nc cc] 59))) (PV : Ar (w.alloc (.cells #[.bool sa, .slice Aa na ca, .bool sb, .slice Ab nb cb, .bool sc, .slice Ac nc cc] 59)) w.heap.size #[.bool sa, .slice Aa na ca, .bool sb, .slice Ab nb cb, .bool sc, .slice Ac nc cc] 59) (Qa : IsM (w.alloc (.cells #[.bool sa, .slice Aa na ca, .bool sb, .slice Ab nb cb, .bool sc, .slice Ac nc cc] 59)) (.agg #[.bool sa, .slice Aa (min na 10) ca]) za 10) (Qb : IsM (w.alloc (.cells #[.bool sa, .slice Aa na ca, .bool sb, .slice Ab nb cb, .bool sc, .slice Ac nc cc] 59)) (.agg #[.bool sb, .slice Ab (min nb 10) cb]) zb 10) (Qc : IsM (w.alloc (.cells #[.bool sa, .slice Aa na ca, .bool sb, .slice Ab nb cb, .bool sc, .slice Ac nc cc] 59)) (.agg #[.bool sc, .slice Ac (min nc 10) cc]) zc 10) : Calls Try.prog 7 #[.agg #[.bool sa, .slice Aa na ca, .bool sb, .slice Ab nb cb, .bool sc, .slice Ac nc cc], .slice Al nl cl] w fun e w' => e = .returned (.bool true) ∧ Below w.heap.size w w' := by
  go_enter Try.func7, Try.ntmps7
  go_wp2_with fail
  refine (cWorks _).mono ?_
  rintro e w1 ⟨_, rfl, hb1, rfl⟩
  replace PV := PV.below hb1
  replace Qa := Qa.below hb1
  replace Qb := Qb.below hb1
  replace Qc := Qc.below hb1
  replace BB := bl_trans BB hb1
  clear hb1
  go_wp2_with fail
  refine wp_region_list (Ext := (BelX (w1).heap.size)) (Rel := (BelU (w1).heap.size)) [fun v _ _ => v = .pointer (some ⟨w.heap.size, 0, none⟩), fun v _ _ => v = .agg #[.bool sa, .slice Aa na ca], fun v _ _ => v = .agg #[.bool sa, .slice Aa (min na 10) ca], fun v _ _ => v = .pointer (some ⟨w.heap.size, 2, none⟩), fun v _ _ => v = .agg #[.bool sb, .slice Ab nb cb], fun v _ _ => v = .agg #[.bool sb, .slice Ab (min nb 10) cb], fun v _ _ => v = .pointer (some ⟨w.heap.size, 4, none⟩), fun v _ _ => v = .agg #[.bool sc, .slice Ac nc cc], fun v _ _ => v = .agg #[.bool sc, .slice Ac (min nc 10) cc], fun v _ w => IsP (w1).heap.size v w, fun v _ w => IsP (w1).heap.size v w, fun v _ w => IsP (w1).heap.size v w, fun _ u w => HasC (w1).heap.size u w sa Aa (min na 10) ca, fun _ u w => HasC (w1).heap.size u w sb Ab (min nb 10) cb, fun _ u w => HasC (w1).heap.size u w sc Ac (min nc 10) cc] (n := 15) (by kernel_rfl) rfl (by kernel_rfl) (by kernel_rfl) (by kernel_rfl) (by kernel_rfl) (by kernel_rfl) (rx_refl _) (rxu_trans _) ⟨sC, ⟨sC, ⟨sC, ⟨sC, ⟨sC, ⟨sC, ⟨sC, ⟨sC, ⟨sC, ⟨xP, ⟨xP, ⟨xP, ⟨xHC, ⟨xHC, ⟨xHC, trivial⟩⟩⟩⟩⟩⟩⟩⟩⟩⟩⟩⟩⟩⟩⟩ ?_ ?_
  · refine ⟨⟨⟨⟨⟨⟨⟨⟨⟨⟨⟨⟨⟨⟨⟨trivial, ?_⟩, ?_⟩, ?_⟩, ?_⟩, ?_⟩, ?_⟩, ?_⟩, ?_⟩, ?_⟩, ?_⟩, ?_⟩, ?_⟩, ?_⟩, ?_⟩, ?_⟩
    · refine rs_plain rfl rfl fun a wr S => ?_
      have X := undrewX S.ext
      exact wp_idx0 (ev_of ((S.old 2 (by kernel_rfl)).trans rfl)) (done (by kernel_rfl) (rxu_refl _) rfl)
    · refine rs_plain rfl rfl fun a wr S => ?_
      have X := undrewX S.ext
      obtain ⟨v0, e0, h0⟩ := S.got 0 (by kernel_rfl)
      exact wp_loadAt ((ev_of (e0 13 (by kernel_rfl))).trans h0) ((PV.below X).at 0 rfl) ((PV.below X).at 1 rfl) (done (by kernel_rfl) (rxu_refl _) rfl)
    · refine rs_plain rfl rfl fun a wr S => ?_
      have X := undrewX S.ext
      obtain ⟨v1, e1, h1⟩ := S.got 1 (by kernel_rfl)
      exact st_call cf_law02_few (args2 ((ev_of (e1 14 (by kernel_rfl))).trans h1) rfl) (by kernel_rfl) (rxu _) (cFew (Ha.out.below (bl_trans BB X)) Ga.out 10 _ rfl (by omega)) (fun _ _ _ h => h)
    · refine rs_plain rfl rfl fun a wr S => ?_
      have X := undrewX S.ext
      exact wp_idx1 (ev_of ((S.old 2 (by kernel_rfl)).trans rfl)) (done (by kernel_rfl) (rxu_refl _) rfl)
    · refine rs_plain rfl rfl fun a wr S => ?_
      have X := undrewX S.ext
      obtain ⟨v3, e3, h3⟩ := S.got 3 (by kernel_rfl)
      exact wp_loadAt ((ev_of (e3 16 (by kernel_rfl))).trans h3) ((PV.below X).at 2 rfl) ((PV.below X).at 3 rfl) (done (by kernel_rfl) (rxu_refl _) rfl)
    · refine rs_plain rfl rfl fun a wr S => ?_
      have X := undrewX S.ext
      obtain ⟨v4, e4, h4⟩ := S.got 4 (by kernel_rfl)
      exact st_call cf_law02_few (args2 ((ev_of (e4 17 (by kernel_rfl))).trans h4) rfl) (by kernel_rfl) (rxu _) (cFew (Hb.out.below (bl_trans BB X)) Gb.out 10 _ rfl (by omega)) (fun _ _ _ h => h)
    · refine rs_plain rfl rfl fun a wr S => ?_
      have X := undrewX S.ext
      exact wp_idx2 (ev_of ((S.old 2 (by kernel_rfl)).trans rfl)) (done (by kernel_rfl) (rxu_refl _) rfl)
    · refine rs_plain rfl rfl fun a wr S => ?_
      have X := undrewX S.ext
      obtain ⟨v6, e6, h6⟩ := S.got 6 (by kernel_rfl)
      exact wp_loadAt ((ev_of (e6 19 (by kernel_rfl))).trans h6) ((PV.below X).at 4 rfl) ((PV.below X).at 5 rfl) (done (by kernel_rfl) (rxu_refl _) rfl)
    · refine rs_plain rfl rfl fun a wr S => ?_
      have X := undrewX S.ext
      obtain ⟨v7, e7, h7⟩ := S.got 7 (by kernel_rfl)
      exact st_call cf_law02_few (args2 ((ev_of (e7 20 (by kernel_rfl))).trans h7) rfl) (by kernel_rfl) (rxu _) (cFew (Hc.out.below (bl_trans BB X)) Gc.out 10 _ rfl (by omega)) (fun _ _ _ h => h)
    · refine rs_plain rfl rfl fun a wr S => ?_
      have X := undrewX S.ext
      refine st_alloc X.size (fun _ _ _ h => h) fun j vj u hj hs => ?_
      have hj' : j ∈ [9, 10, 11] := alloc_cases (by kernel_rfl) j hj
      simp only [List.mem_cons, List.not_mem_nil, or_false] at hj'
      rcases hj' with rfl | rfl | rfl <;> exact hs
    · refine rs_plain rfl rfl fun a wr S => ?_
      have X := undrewX S.ext
      refine st_alloc X.size (fun _ _ _ h => h) fun j vj u hj hs => ?_
      have hj' : j ∈ [9, 10, 11] := alloc_cases (by kernel_rfl) j hj
      simp only [List.mem_cons, List.not_mem_nil, or_false] at hj'
      rcases hj' with rfl | rfl | rfl <;> exact hs
    · refine rs_plain rfl rfl fun a wr S => ?_
      have X := undrewX S.ext
      refine st_alloc X.size (fun _ _ _ h => h) fun j vj u hj hs => ?_
      have hj' : j ∈ [9, 10, 11] := alloc_cases (by kernel_rfl) j hj
      simp only [List.mem_cons, List.not_mem_nil, or_false] at hj'
      rcases hj' with rfl | rfl | rfl <;> exact hs
    · refine rs_plain rfl rfl fun a wr S => ?_
      have X := undrewX S.ext
      obtain ⟨v9, e9, h9⟩ := S.got 9 (by kernel_rfl)
      obtain ⟨v2, e2, h2⟩ := S.got 2 (by kernel_rfl)
      exact st_storeC (by kernel_rfl) (by kernel_rfl) (ev_of (e9 5 (by kernel_rfl))) h9 ((ev_of (e2 15 (by kernel_rfl))).trans h2) (fun _ _ _ h => h)
    · refine rs_plain rfl rfl fun a wr S => ?_
      have X := undrewX S.ext
      obtain ⟨v10, e10, h10⟩ := S.got 10 (by kernel_rfl)
      obtain ⟨v5, e5, h5⟩ := S.got 5 (by kernel_rfl)
      exact st_storeC (by kernel_rfl) (by kernel_rfl) (ev_of (e10 6 (by kernel_rfl))) h10 ((ev_of (e5 18 (by kernel_rfl))).trans h5) (fun _ _ _ h => h)
    · refine rs_plain rfl rfl fun a wr S => ?_
      have X := undrewX S.ext
      obtain ⟨v11, e11, h11⟩ := S.got 11 (by kernel_rfl)
      obtain ⟨v8, e8, h8⟩ := S.got 8 (by kernel_rfl)
      exact st_storeC (by kernel_rfl) (by kernel_rfl) (ev_of (e11 7 (by kernel_rfl))) h11 ((ev_of (e8 21 (by kernel_rfl))).trans h8) (fun _ _ _ h => h)
  · intro f2_ w2 hR hv
    replace hR := undrewX hR
    have f0 : f2_ 0 = .pointer (some ⟨w.heap.size, 0, none⟩) := (hvc (hv 0 (by omega))).elim fun _ h => h
    have f1 : f2_ 1 = .agg #[.bool sa, .slice Aa na ca] := (hvc (hv 1 (by omega))).elim fun _ h => h
    have f2 : f2_ 2 = .agg #[.bool sa, .slice Aa (min na 10) ca] := (hvc (hv 2 (by omega))).elim fun _ h => h
    have f3 : f2_ 3 = .pointer (some ⟨w.heap.size, 2, none⟩) := (hvc (hv 3 (by omega))).elim fun _ h => h
    have f4 : f2_ 4 = .agg #[.bool sb, .slice Ab nb cb] := (hvc (hv 4 (by omega))).elim fun _ h => h
    have f5 : f2_ 5 = .agg #[.bool sb, .slice Ab (min nb 10) cb] := (hvc (hv 5 (by omega))).elim fun _ h => h
    have f6 : f2_ 6 = .pointer (some ⟨w.heap.size, 4, none⟩) := (hvc (hv 6 (by omega))).elim fun _ h => h
    have f7 : f2_ 7 = .agg #[.bool sc, .slice Ac nc cc] := (hvc (hv 7 (by omega))).elim fun _ h => h
    have f8 : f2_ 8 = .agg #[.bool sc, .slice Ac (min nc 10) cc] := (hvc (hv 8 (by omega))).elim fun _ h => h
    obtain ⟨ga, f9, hga, Pa⟩ := (show HasC _ (f2_ 9) w2 sa Aa (min na 10) ca from hvs (hv 12 (by omega)) (by kernel_rfl))
    obtain ⟨gb, f10, hgb, Pb⟩ := (show HasC _ (f2_ 10) w2 sb Ab (min nb 10) cb from hvs (hv 13 (by omega)) (by kernel_rfl))
    obtain ⟨gc, f11, hgc, Pc⟩ := (show HasC _ (f2_ 11) w2 sc Ac (min nc 10) cc from hvs (hv 14 (by omega)) (by kernel_rfl))
    simp only [putFn, Act.put, List.setIfInBounds_toArray, List.set_cons_zero, List.set_cons_succ, f0, f1, f2, f3, f4, f5, f6, f7, f8, f9, f10, f11]
    replace PV := PV.below hR
    replace Qa := Qa.below hR
    replace Qb := Qb.below hR
    replace Qc := Qc.below hR
    replace BB := bl_trans BB hR
    clear hR
    clear hga
    clear hgb
    clear hgc
    clear hv
    clear PV
    clear Ha Ga Hb Gb Hc Gc
    go_wp2_with fail
    simp only [List.append_eq, List.cons_append, List.nil_append]
    refine wp_region_list (Ext := RB) (Rel := RBu) [fun v _ w => IsM w v (za) 10, fun v _ w => IsM w v (zb) 10, fun v _ w => IsR2 w v (za) 10 (zb) 10, fun v _ w => IsZ (w2).heap.size w v (za + zb) 11, fun v _ w => IsM w v (zb) 10, fun v _ w => IsM w v (za) 10, fun v _ w => IsR2 w v (zb) 10 (za) 10, fun v _ w => IsZ (w2).heap.size w v (zb + za) 11, fun v _ _ => v = .bool true, fun v _ _ => v = .bool false, fun v _ _ => v = .bool false, fun v _ w => IsM w v (za) 10, fun v _ w => IsM w v (zb) 10, fun v _ w => IsR2 w v (za) 10 (zb) 10, fun v _ w => IsZ (w2).heap.size w v (za * zb) 20, fun v _ w => IsM w v (zb) 10, fun v _ w => IsM w v (za) 10, fun v _ w => IsR2 w v (zb) 10 (za) 10, fun v _ w => IsZ (w2).heap.size w v (zb * za) 20, fun v _ _ => v = .bool true, fun v _ _ => v = .bool false, fun v _ _ => v = .bool false, fun v _ _ => v = .bool false, fun v _ w => IsM w v (za) 10, fun v _ w => IsM w v (zb) 10, fun v _ w => IsR2 w v (za) 10 (zb) 10, fun v _ w => IsZ (w2).heap.size w v (za + zb) 11, fun v _ w => IsM w v (zc) 10, fun v _ w => IsR2 w v (za + zb) 11 (zc) 10, fun v _ w => IsZ (w2).heap.size w v ((za + zb) + zc) 12, fun v _ w => IsM w v (za) 10, fun v _ w => IsM w v (zb) 10, fun v _ w => IsM w v (zc) 10, fun v _ w => IsR2 w v (zb) 10 (zc) 10, fun v _ w => IsZ (w2).heap.size w v (zb + zc) 11, fun v _ w => IsR2 w v (za) 10 (zb + zc) 11, fun v _ w => IsZ (w2).heap.size w v (za + (zb + zc)) 12, fun v _ _ => v = .bool true, fun v _ _ => v = .bool false, fun v _ _ => v = .bool false, fun v _ _ => v = .bool false, fun v _ w => IsM w v (za) 10, fun v _ w => IsM w v (zb) 10, fun v _ w => IsR2 w v (za) 10 (zb) 10, fun v _ w => IsZ (w2).heap.size w v (za * zb) 20, fun v _ w => IsM w v (zc) 10, fun v _ w => IsR2 w v (za * zb) 20 (zc) 10, fun v _ w => IsZ (w2).heap.size w v ((za * zb) * zc) 30, fun v _ w => IsM w v (za) 10, fun v _ w => IsM w v (zb) 10, fun v _ w => IsM w v (zc) 10, fun v _ w => IsR2 w v (zb) 10 (zc) 10, fun v _ w => IsZ (w2).heap.size w v (zb * zc) 20, fun v _ w => IsR2 w v (za) 10 (zb * zc) 20, fun v _ w => IsZ (w2).heap.size w v (za * (zb * zc)) 30, fun v _ _ => v = .bool true, fun v _ _ => v = .bool false, fun v _ _ => v = .bool false, fun v _ _ => v = .bool false, fun v _ w => IsM w v (za) 10, fun v _ w => IsM w v (zb) 10, fun v _ w => IsM w v (zc) 10, fun v _ w => IsR2 w v (zb) 10 (zc) 10, fun v _ w => IsZ (w2).heap.size w v (zb + zc) 11, fun v _ w => IsR2 w v (za) 10 (zb + zc) 11, fun v _ w => IsZ (w2).heap.size w v (za * (zb + zc)) 21, fun v _ w => IsM w v (za) 10, fun v _ w => IsM w v (zb) 10, fun v _ w => IsR2 w v (za) 10 (zb) 10, fun v _ w => IsZ (w2).heap.size w v (za * zb) 20, fun v _ w => IsM w v (za) 10, fun v _ w => IsM w v (zc) 10, fun v _ w => IsR2 w v (za) 10 (zc) 10, fun v _ w => IsZ (w2).heap.size w v (za * zc) 20, fun v _ w => IsR2 w v (za * zb) 20 (za * zc) 20, fun v _ w => IsZ (w2).heap.size w v ((za * zb) + (za * zc)) 21, fun v _ _ => v = .bool true, fun v _ _ => v = .bool false, fun v _ _ => v = .bool false] (n := 79) (by kernel_rfl) rfl (by kernel_rfl) (by kernel_rfl) (by kernel_rfl) (by kernel_rfl) (by kernel_rfl) rb_refl rb_trans ⟨sM, ⟨sM, ⟨sR2, ⟨sZ, ⟨sM, ⟨sM, ⟨sR2, ⟨sZ, ⟨sC, ⟨sC, ⟨sC, ⟨sM, ⟨sM, ⟨sR2, ⟨sZ, ⟨sM, ⟨sM, ⟨sR2, ⟨sZ, ⟨sC, ⟨sC, ⟨sC, ⟨sC, ⟨sM, ⟨sM, ⟨sR2, ⟨sZ, ⟨sM, ⟨sR2, ⟨sZ, ⟨sM, ⟨sM, ⟨sM, ⟨sR2, ⟨sZ, ⟨sR2, ⟨sZ, ⟨sC, ⟨sC, ⟨sC, ⟨sC, ⟨sM, ⟨sM, ⟨sR2, ⟨sZ, ⟨sM, ⟨sR2, ⟨sZ, ⟨sM, ⟨sM, ⟨sM, ⟨sR2, ⟨sZ, ⟨sR2, ⟨sZ, ⟨sC, ⟨sC, ⟨sC, ⟨sC, ⟨sM, ⟨sM, ⟨sM, ⟨sR2, ⟨sZ, ⟨sR2, ⟨sZ, ⟨sM, ⟨sM, ⟨sR2, ⟨sZ, ⟨sM, ⟨sM, ⟨sR2, ⟨sZ, ⟨sR2, ⟨sZ, ⟨sC, ⟨sC, ⟨sC, trivial⟩⟩⟩⟩⟩⟩⟩⟩⟩⟩⟩⟩⟩⟩⟩⟩⟩⟩⟩⟩⟩⟩⟩⟩⟩⟩⟩⟩⟩⟩⟩⟩⟩⟩⟩⟩⟩⟩⟩⟩⟩⟩⟩⟩⟩⟩⟩⟩⟩⟩⟩⟩⟩⟩⟩⟩⟩⟩⟩⟩⟩⟩⟩⟩⟩⟩⟩⟩⟩⟩⟩⟩⟩⟩⟩⟩⟩⟩⟩ ?_ ?_
    · refine ⟨⟨⟨⟨⟨⟨⟨⟨⟨⟨⟨⟨⟨⟨⟨⟨⟨⟨⟨⟨⟨⟨⟨⟨⟨⟨⟨⟨⟨⟨⟨⟨⟨⟨⟨⟨⟨⟨⟨⟨⟨⟨⟨⟨⟨⟨⟨⟨⟨⟨⟨⟨⟨⟨⟨⟨⟨⟨⟨⟨⟨⟨⟨⟨⟨⟨⟨⟨⟨⟨⟨⟨⟨⟨⟨⟨⟨⟨⟨trivial, ?_⟩, ?_⟩, ?_⟩, ?_⟩, ?_⟩, ?_⟩, ?_⟩, ?_⟩, ?_⟩, ?_⟩, ?_⟩, ?_⟩, ?_⟩, ?_⟩, ?_⟩, ?_⟩, ?_⟩, ?_⟩, ?_⟩, ?_⟩, ?_⟩, ?_⟩, ?_⟩, ?_⟩, ?_⟩, ?_⟩, ?_⟩, ?_⟩, ?_⟩, ?_⟩, ?_⟩, ?_⟩, ?_⟩, ?_⟩, ?_⟩, ?_⟩, ?_⟩, ?_⟩, ?_⟩, ?_⟩, ?_⟩, ?_⟩, ?_⟩, ?_⟩, ?_⟩, ?_⟩, ?_⟩, ?_⟩, ?_⟩, ?_⟩, ?_⟩, ?_⟩, ?_⟩, ?_⟩, ?_⟩, ?_⟩, ?_⟩, ?_⟩, ?_⟩, ?_⟩, ?_⟩, ?_⟩, ?_⟩, ?_⟩, ?_⟩, ?_⟩, ?_⟩, ?_⟩, ?_⟩, ?_⟩, ?_⟩, ?_⟩, ?_⟩, ?_⟩, ?_⟩, ?_⟩, ?_⟩, ?_⟩, ?_⟩
      · refine rs_plain rfl rfl fun a wr S => ?_
        have X := undrew S.ext
        exact wp_load (ev_of ((S.old 5 (by kernel_rfl)).trans rfl)) (Pa.below X) (done (by kernel_rfl) rbu_refl (Qa.below X))
      · refine rs_plain rfl rfl fun a wr S => ?_
        have X := undrew S.ext
        exact wp_load (ev_of ((S.old 6 (by kernel_rfl)).trans rfl)) (Pb.below X) (done (by kernel_rfl) rbu_refl (Qb.below X))
      · refine rs_plain rfl rfl fun a wr S => ?_
        have X := undrew S.ext
        obtain ⟨v0, e0, h0⟩ := S.got 0 (by kernel_rfl)
        obtain ⟨v1, e1, h1⟩ := S.got 1 (by kernel_rfl)
        obtain ⟨b0, A0, n0, c0, hv0, Z0⟩ := (show IsM wr _ _ _ from h0)
        obtain ⟨b1, A1, n1, c1, hv1, Z1⟩ := (show IsM wr _ _ _ from h1)
        exact wp_bs2 ((ev_of (e0 22 (by kernel_rfl))).trans hv0) ((ev_of (e1 23 (by kernel_rfl))).trans hv1) (done' (by kernel_rfl) (rb _ _ _ (bl_alloc _ _)) (IsR2.new Z0 Z1))
      · refine rs_plain rfl rfl fun a wr S => ?_
        have X := undrew S.ext
        obtain ⟨v2, e2, h2⟩ := S.got 2 (by kernel_rfl)
        exact st_call cf_big_Add (args1 (ev_of (e2 24 (by kernel_rfl)))) (by kernel_rfl) rb (cAdd2 (z := za) (u := zb) h2 (by omega) (by omega) X.size) (fun _ _ _ h => h)
      · refine rs_plain rfl rfl fun a wr S => ?_
        have X := undrew S.ext
        exact wp_load (ev_of ((S.old 6 (by kernel_rfl)).trans rfl)) (Pb.below X) (done (by kernel_rfl) rbu_refl (Qb.below X))
      · refine rs_plain rfl rfl fun a wr S => ?_
        have X := undrew S.ext
        exact wp_load (ev_of ((S.old 5 (by kernel_rfl)).trans rfl)) (Pa.below X) (done (by kernel_rfl) rbu_refl (Qa.below X))
      · refine rs_plain rfl rfl fun a wr S => ?_
        have X := undrew S.ext
        obtain ⟨v4, e4, h4⟩ := S.got 4 (by kernel_rfl)
        obtain ⟨v5, e5, h5⟩ := S.got 5 (by kernel_rfl)
        obtain ⟨b0, A0, n0, c0, hv0, Z0⟩ := (show IsM wr _ _ _ from h4)
        obtain ⟨b1, A1, n1, c1, hv1, Z1⟩ := (show IsM wr _ _ _ from h5)
        exact wp_bs2 ((ev_of (e4 26 (by kernel_rfl))).trans hv0) ((ev_of (e5 27 (by kernel_rfl))).trans hv1) (done' (by kernel_rfl) (rb _ _ _ (bl_alloc _ _)) (IsR2.new Z0 Z1))
      · refine rs_plain rfl rfl fun a wr S => ?_
        have X := undrew S.ext
        obtain ⟨v6, e6, h6⟩ := S.got 6 (by kernel_rfl)
        exact st_call cf_big_Add (args1 (ev_of (e6 28 (by kernel_rfl)))) (by kernel_rfl) rb (cAdd2 (z := zb) (u := za) h6 (by omega) (by omega) X.size) (fun _ _ _ h => h)
      · refine rs_plain rfl rfl fun a wr S => ?_
        have X := undrew S.ext
        obtain ⟨v3, e3, h3⟩ := S.got 3 (by kernel_rfl)
        obtain ⟨v7, e7, h7⟩ := S.got 7 (by kernel_rfl)
        exact st_call cf_law02_same (args2 (ev_of (e3 25 (by kernel_rfl))) (ev_of (e7 29 (by kernel_rfl)))) (by kernel_rfl) rb (cSame h3.t h7.t (by omega) (by omega) (decide_eq_true (Int.add_comm _ _))) (fun _ _ _ h => h)
      · refine rs_plain rfl rfl fun a wr S => ?_
        have X := undrew S.ext
        obtain ⟨v8, e8, h8⟩ := S.got 8 (by kernel_rfl)
        exact wp_not ((ev_of (e8 30 (by kernel_rfl))).trans h8) (done (by kernel_rfl) rbu_refl rfl)
      · refine rs_plain rfl rfl fun a wr S => ?_
        have X := undrew S.ext
        obtain ⟨v9, e9, h9⟩ := S.got 9 (by kernel_rfl)
        exact wp_mv ((ev_of (e9 31 (by kernel_rfl))).trans h9) (done (by kernel_rfl) rbu_refl rfl)
      · refine rs_yes rfl rfl (by kernel_rfl) (by kernel_rfl : _ = some 32) (fun _ _ _ h => h) fun a wr S => ?_
        have X := undrew S.ext
        exact wp_load (ev_of ((S.old 5 (by kernel_rfl)).trans rfl)) (Pa.below X) (done (by kernel_rfl) rbu_refl (Qa.below X))
      · refine rs_yes rfl rfl (by kernel_rfl) (by kernel_rfl : _ = some 32) (fun _ _ _ h => h) fun a wr S => ?_
        have X := undrew S.ext
        exact wp_load (ev_of ((S.old 6 (by kernel_rfl)).trans rfl)) (Pb.below X) (done (by kernel_rfl) rbu_refl (Qb.below X))
      · refine rs_yes rfl rfl (by kernel_rfl) (by kernel_rfl : _ = some 32) (fun _ _ _ h => h) fun a wr S => ?_
        have X := undrew S.ext
        obtain ⟨v11, e11, h11⟩ := S.got 11 (by kernel_rfl)
        obtain ⟨v12, e12, h12⟩ := S.got 12 (by kernel_rfl)
        obtain ⟨b0, A0, n0, c0, hv0, Z0⟩ := (show IsM wr _ _ _ from h11)
        obtain ⟨b1, A1, n1, c1, hv1, Z1⟩ := (show IsM wr _ _ _ from h12)
        exact wp_bs2 ((ev_of (e11 33 (by kernel_rfl))).trans hv0) ((ev_of (e12 34 (by kernel_rfl))).trans hv1) (done' (by kernel_rfl) (rb _ _ _ (bl_alloc _ _)) (IsR2.new Z0 Z1))
      · refine rs_yes rfl rfl (by kernel_rfl) (by kernel_rfl : _ = some 32) (fun _ _ _ h => h) fun a wr S => ?_
        have X := undrew S.ext
        obtain ⟨v13, e13, h13⟩ := S.got 13 (by kernel_rfl)
        exact st_call cf_big_Mul (args1 (ev_of (e13 35 (by kernel_rfl)))) (by kernel_rfl) rb (cMul2 (z := za) (u := zb) h13 (by omega) (by omega) (by omega) X.size) (fun _ _ _ h => h)
      · refine rs_yes rfl rfl (by kernel_rfl) (by kernel_rfl : _ = some 32) (fun _ _ _ h => h) fun a wr S => ?_
        have X := undrew S.ext
        exact wp_load (ev_of ((S.old 6 (by kernel_rfl)).trans rfl)) (Pb.below X) (done (by kernel_rfl) rbu_refl (Qb.below X))
      · refine rs_yes rfl rfl (by kernel_rfl) (by kernel_rfl : _ = some 32) (fun _ _ _ h => h) fun a wr S => ?_
        have X := undrew S.ext
        exact wp_load (ev_of ((S.old 5 (by kernel_rfl)).trans rfl)) (Pa.below X) (done (by kernel_rfl) rbu_refl (Qa.below X))
      · refine rs_yes rfl rfl (by kernel_rfl) (by kernel_rfl : _ = some 32) (fun _ _ _ h => h) fun a wr S => ?_
        have X := undrew S.ext
        obtain ⟨v15, e15, h15⟩ := S.got 15 (by kernel_rfl)
        obtain ⟨v16, e16, h16⟩ := S.got 16 (by kernel_rfl)
        obtain ⟨b0, A0, n0, c0, hv0, Z0⟩ := (show IsM wr _ _ _ from h15)
        obtain ⟨b1, A1, n1, c1, hv1, Z1⟩ := (show IsM wr _ _ _ from h16)
        exact wp_bs2 ((ev_of (e15 37 (by kernel_rfl))).trans hv0) ((ev_of (e16 38 (by kernel_rfl))).trans hv1) (done' (by kernel_rfl) (rb _ _ _ (bl_alloc _ _)) (IsR2.new Z0 Z1))
      · refine rs_yes rfl rfl (by kernel_rfl) (by kernel_rfl : _ = some 32) (fun _ _ _ h => h) fun a wr S => ?_
        have X := undrew S.ext
        obtain ⟨v17, e17, h17⟩ := S.got 17 (by kernel_rfl)
        exact st_call cf_big_Mul (args1 (ev_of (e17 39 (by kernel_rfl)))) (by kernel_rfl) rb (cMul2 (z := zb) (u := za) h17 (by omega) (by omega) (by omega) X.size) (fun _ _ _ h => h)
      · refine rs_yes rfl rfl (by kernel_rfl) (by kernel_rfl : _ = some 32) (fun _ _ _ h => h) fun a wr S => ?_
        have X := undrew S.ext
        obtain ⟨v14, e14, h14⟩ := S.got 14 (by kernel_rfl)
        obtain ⟨v18, e18, h18⟩ := S.got 18 (by kernel_rfl)
        exact st_call cf_law02_same (args2 (ev_of (e14 36 (by kernel_rfl))) (ev_of (e18 40 (by kernel_rfl)))) (by kernel_rfl) rb (cSame h14.t h18.t (by omega) (by omega) (decide_eq_true (Int.mul_comm _ _))) (fun _ _ _ h => h)
      · refine rs_yes rfl rfl (by kernel_rfl) (by kernel_rfl : _ = some 32) (fun _ _ _ h => h) fun a wr S => ?_
        have X := undrew S.ext
        obtain ⟨v19, e19, h19⟩ := S.got 19 (by kernel_rfl)
        exact wp_not ((ev_of (e19 41 (by kernel_rfl))).trans h19) (done (by kernel_rfl) rbu_refl rfl)
      · refine rs_plain rfl rfl fun a wr S => ?_
        have X := undrew S.ext
        obtain ⟨v10, e10, h10⟩ := S.got 10 (by kernel_rfl)
        obtain ⟨v20, e20, h20⟩ := S.got 20 (by kernel_rfl)
        exact wp_pickF ((ev_of (e10 32 (by kernel_rfl))).trans h10) ((ev_of (e20 42 (by kernel_rfl))).trans h20) (done (by kernel_rfl) rbu_refl rfl)
      · refine rs_plain rfl rfl fun a wr S => ?_
        have X := undrew S.ext
        obtain ⟨v21, e21, h21⟩ := S.got 21 (by kernel_rfl)
        exact wp_mv ((ev_of (e21 43 (by kernel_rfl))).trans h21) (done (by kernel_rfl) rbu_refl rfl)
      · refine rs_yes rfl rfl (by kernel_rfl) (by kernel_rfl : _ = some 44) (fun _ _ _ h => h) fun a wr S => ?_
        have X := undrew S.ext
        exact wp_load (ev_of ((S.old 5 (by kernel_rfl)).trans rfl)) (Pa.below X) (done (by kernel_rfl) rbu_refl (Qa.below X))
      · refine rs_yes rfl rfl (by kernel_rfl) (by kernel_rfl : _ = some 44) (fun _ _ _ h => h) fun a wr S => ?_
        have X := undrew S.ext
        exact wp_load (ev_of ((S.old 6 (by kernel_rfl)).trans rfl)) (Pb.below X) (done (by kernel_rfl) rbu_refl (Qb.below X))
      · refine rs_yes rfl rfl (by kernel_rfl) (by kernel_rfl : _ = some 44) (fun _ _ _ h => h) fun a wr S => ?_
        have X := undrew S.ext
        obtain ⟨v23, e23, h23⟩ := S.got 23 (by kernel_rfl)
        obtain ⟨v24, e24, h24⟩ := S.got 24 (by kernel_rfl)
        obtain ⟨b0, A0, n0, c0, hv0, Z0⟩ := (show IsM wr _ _ _ from h23)
        obtain ⟨b1, A1, n1, c1, hv1, Z1⟩ := (show IsM wr _ _ _ from h24)
        exact wp_bs2 ((ev_of (e23 45 (by kernel_rfl))).trans hv0) ((ev_of (e24 46 (by kernel_rfl))).trans hv1) (done' (by kernel_rfl) (rb _ _ _ (bl_alloc _ _)) (IsR2.new Z0 Z1))
      · refine rs_yes rfl rfl (by kernel_rfl) (by kernel_rfl : _ = some 44) (fun _ _ _ h => h) fun a wr S => ?_
        have X := undrew S.ext
        obtain ⟨v25, e25, h25⟩ := S.got 25 (by kernel_rfl)
        exact st_call cf_big_Add (args1 (ev_of (e25 47 (by kernel_rfl)))) (by kernel_rfl) rb (cAdd2 (z := za) (u := zb) h25 (by omega) (by omega) X.size) (fun _ _ _ h => h)
      · refine rs_yes rfl rfl (by kernel_rfl) (by kernel_rfl : _ = some 44) (fun _ _ _ h => h) fun a wr S => ?_
        have X := undrew S.ext
        exact wp_load (ev_of ((S.old 7 (by kernel_rfl)).trans rfl)) (Pc.below X) (done (by kernel_rfl) rbu_refl (Qc.below X))
      · refine rs_yes rfl rfl (by kernel_rfl) (by kernel_rfl : _ = some 44) (fun _ _ _ h => h) fun a wr S => ?_
        have X := undrew S.ext
        obtain ⟨v26, e26, h26⟩ := S.got 26 (by kernel_rfl)
        obtain ⟨v27, e27, h27⟩ := S.got 27 (by kernel_rfl)
        obtain ⟨b0, A0, n0, c0, hv0, Z0⟩ := (show IsM wr _ _ _ from h26.m)
        obtain ⟨b1, A1, n1, c1, hv1, Z1⟩ := (show IsM wr _ _ _ from h27)
        exact wp_bs2 ((ev_of (e26 48 (by kernel_rfl))).trans hv0) ((ev_of (e27 49 (by kernel_rfl))).trans hv1) (done' (by kernel_rfl) (rb _ _ _ (bl_alloc _ _)) (IsR2.new Z0 Z1))
      · refine rs_yes rfl rfl (by kernel_rfl) (by kernel_rfl : _ = some 44) (fun _ _ _ h => h) fun a wr S => ?_
        have X := undrew S.ext
        obtain ⟨v28, e28, h28⟩ := S.got 28 (by kernel_rfl)
        exact st_call cf_big_Add (args1 (ev_of (e28 50 (by kernel_rfl)))) (by kernel_rfl) rb (cAdd2 (z := (za + zb)) (u := zc) h28 (by omega) (by omega) X.size) (fun _ _ _ h => h)
      · refine rs_yes rfl rfl (by kernel_rfl) (by kernel_rfl : _ = some 44) (fun _ _ _ h => h) fun a wr S => ?_
        have X := undrew S.ext
        exact wp_load (ev_of ((S.old 5 (by kernel_rfl)).trans rfl)) (Pa.below X) (done (by kernel_rfl) rbu_refl (Qa.below X))
      · refine rs_yes rfl rfl (by kernel_rfl) (by kernel_rfl : _ = some 44) (fun _ _ _ h => h) fun a wr S => ?_
        have X := undrew S.ext
        exact wp_load (ev_of ((S.old 6 (by kernel_rfl)).trans rfl)) (Pb.below X) (done (by kernel_rfl) rbu_refl (Qb.below X))
      · refine rs_yes rfl rfl (by kernel_rfl) (by kernel_rfl : _ = some 44) (fun _ _ _ h => h) fun a wr S => ?_
        have X := undrew S.ext
        exact wp_load (ev_of ((S.old 7 (by kernel_rfl)).trans rfl)) (Pc.below X) (done (by kernel_rfl) rbu_refl (Qc.below X))
      · refine rs_yes rfl rfl (by kernel_rfl) (by kernel_rfl : _ = some 44) (fun _ _ _ h => h) fun a wr S => ?_
        have X := undrew S.ext
        obtain ⟨v31, e31, h31⟩ := S.got 31 (by kernel_rfl)
        obtain ⟨v32, e32, h32⟩ := S.got 32 (by kernel_rfl)
        obtain ⟨b0, A0, n0, c0, hv0, Z0⟩ := (show IsM wr _ _ _ from h31)
        obtain ⟨b1, A1, n1, c1, hv1, Z1⟩ := (show IsM wr _ _ _ from h32)
        exact wp_bs2 ((ev_of (e31 53 (by kernel_rfl))).trans hv0) ((ev_of (e32 54 (by kernel_rfl))).trans hv1) (done' (by kernel_rfl) (rb _ _ _ (bl_alloc _ _)) (IsR2.new Z0 Z1))
      · refine rs_yes rfl rfl (by kernel_rfl) (by kernel_rfl : _ = some 44) (fun _ _ _ h => h) fun a wr S => ?_
        have X := undrew S.ext
        obtain ⟨v33, e33, h33⟩ := S.got 33 (by kernel_rfl)
        exact st_call cf_big_Add (args1 (ev_of (e33 55 (by kernel_rfl)))) (by kernel_rfl) rb (cAdd2 (z := zb) (u := zc) h33 (by omega) (by omega) X.size) (fun _ _ _ h => h)
      · refine rs_yes rfl rfl (by kernel_rfl) (by kernel_rfl : _ = some 44) (fun _ _ _ h => h) fun a wr S => ?_
        have X := undrew S.ext
        obtain ⟨v30, e30, h30⟩ := S.got 30 (by kernel_rfl)
        obtain ⟨v34, e34, h34⟩ := S.got 34 (by kernel_rfl)
        obtain ⟨b0, A0, n0, c0, hv0, Z0⟩ := (show IsM wr _ _ _ from h30)
        obtain ⟨b1, A1, n1, c1, hv1, Z1⟩ := (show IsM wr _ _ _ from h34.m)
        exact wp_bs2 ((ev_of (e30 52 (by kernel_rfl))).trans hv0) ((ev_of (e34 56 (by kernel_rfl))).trans hv1) (done' (by kernel_rfl) (rb _ _ _ (bl_alloc _ _)) (IsR2.new Z0 Z1))
      · refine rs_yes rfl rfl (by kernel_rfl) (by kernel_rfl : _ = some 44) (fun _ _ _ h => h) fun a wr S => ?_
        have X := undrew S.ext
        obtain ⟨v35, e35, h35⟩ := S.got 35 (by kernel_rfl)
        exact st_call cf_big_Add (args1 (ev_of (e35 57 (by kernel_rfl)))) (by kernel_rfl) rb (cAdd2 (z := za) (u := (zb + zc)) h35 (by omega) (by omega) X.size) (fun _ _ _ h => h)
      · refine rs_yes rfl rfl (by kernel_rfl) (by kernel_rfl : _ = some 44) (fun _ _ _ h => h) fun a wr S => ?_
        have X := undrew S.ext
        obtain ⟨v29, e29, h29⟩ := S.got 29 (by kernel_rfl)
        obtain ⟨v36, e36, h36⟩ := S.got 36 (by kernel_rfl)
        exact st_call cf_law02_same (args2 (ev_of (e29 51 (by kernel_rfl))) (ev_of (e36 58 (by kernel_rfl)))) (by kernel_rfl) rb (cSame h29.t h36.t (by omega) (by omega) (decide_eq_true (Int.add_assoc _ _ _))) (fun _ _ _ h => h)
      · refine rs_yes rfl rfl (by kernel_rfl) (by kernel_rfl : _ = some 44) (fun _ _ _ h => h) fun a wr S => ?_
        have X := undrew S.ext
        obtain ⟨v37, e37, h37⟩ := S.got 37 (by kernel_rfl)
        exact wp_not ((ev_of (e37 59 (by kernel_rfl))).trans h37) (done (by kernel_rfl) rbu_refl rfl)
      · refine rs_plain rfl rfl fun a wr S => ?_
        have X := undrew S.ext
        obtain ⟨v22, e22, h22⟩ := S.got 22 (by kernel_rfl)
        obtain ⟨v38, e38, h38⟩ := S.got 38 (by kernel_rfl)
        exact wp_pickF ((ev_of (e22 44 (by kernel_rfl))).trans h22) ((ev_of (e38 60 (by kernel_rfl))).trans h38) (done (by kernel_rfl) rbu_refl rfl)
      · refine rs_plain rfl rfl fun a wr S => ?_
        have X := undrew S.ext
        obtain ⟨v39, e39, h39⟩ := S.got 39 (by kernel_rfl)
        exact wp_mv ((ev_of (e39 61 (by kernel_rfl))).trans h39) (done (by kernel_rfl) rbu_refl rfl)
      · refine rs_yes rfl rfl (by kernel_rfl) (by kernel_rfl : _ = some 62) (fun _ _ _ h => h) fun a wr S => ?_
        have X := undrew S.ext
        exact wp_load (ev_of ((S.old 5 (by kernel_rfl)).trans rfl)) (Pa.below X) (done (by kernel_rfl) rbu_refl (Qa.below X))
      · refine rs_yes rfl rfl (by kernel_rfl) (by kernel_rfl : _ = some 62) (fun _ _ _ h => h) fun a wr S => ?_
        have X := undrew S.ext
        exact wp_load (ev_of ((S.old 6 (by kernel_rfl)).trans rfl)) (Pb.below X) (done (by kernel_rfl) rbu_refl (Qb.below X))
      · refine rs_yes rfl rfl (by kernel_rfl) (by kernel_rfl : _ = some 62) (fun _ _ _ h => h) fun a wr S => ?_
        have X := undrew S.ext
        obtain ⟨v41, e41, h41⟩ := S.got 41 (by kernel_rfl)
        obtain ⟨v42, e42, h42⟩ := S.got 42 (by kernel_rfl)
        obtain ⟨b0, A0, n0, c0, hv0, Z0⟩ := (show IsM wr _ _ _ from h41)
        obtain ⟨b1, A1, n1, c1, hv1, Z1⟩ := (show IsM wr _ _ _ from h42)
        exact wp_bs2 ((ev_of (e41 63 (by kernel_rfl))).trans hv0) ((ev_of (e42 64 (by kernel_rfl))).trans hv1) (done' (by kernel_rfl) (rb _ _ _ (bl_alloc _ _)) (IsR2.new Z0 Z1))
      · refine rs_yes rfl rfl (by kernel_rfl) (by kernel_rfl : _ = some 62) (fun _ _ _ h => h) fun a wr S => ?_
        have X := undrew S.ext
        obtain ⟨v43, e43, h43⟩ := S.got 43 (by kernel_rfl)
        exact st_call cf_big_Mul (args1 (ev_of (e43 65 (by kernel_rfl)))) (by kernel_rfl) rb (cMul2 (z := za) (u := zb) h43 (by omega) (by omega) (by omega) X.size) (fun _ _ _ h => h)
      · refine rs_yes rfl rfl (by kernel_rfl) (by kernel_rfl : _ = some 62) (fun _ _ _ h => h) fun a wr S => ?_
        have X := undrew S.ext
        exact wp_load (ev_of ((S.old 7 (by kernel_rfl)).trans rfl)) (Pc.below X) (done (by kernel_rfl) rbu_refl (Qc.below X))
      · refine rs_yes rfl rfl (by kernel_rfl) (by kernel_rfl : _ = some 62) (fun _ _ _ h => h) fun a wr S => ?_
        have X := undrew S.ext
        obtain ⟨v44, e44, h44⟩ := S.got 44 (by kernel_rfl)
        obtain ⟨v45, e45, h45⟩ := S.got 45 (by kernel_rfl)
        obtain ⟨b0, A0, n0, c0, hv0, Z0⟩ := (show IsM wr _ _ _ from h44.m)
        obtain ⟨b1, A1, n1, c1, hv1, Z1⟩ := (show IsM wr _ _ _ from h45)
        exact wp_bs2 ((ev_of (e44 66 (by kernel_rfl))).trans hv0) ((ev_of (e45 67 (by kernel_rfl))).trans hv1) (done' (by kernel_rfl) (rb _ _ _ (bl_alloc _ _)) (IsR2.new Z0 Z1))
      · refine rs_yes rfl rfl (by kernel_rfl) (by kernel_rfl : _ = some 62) (fun _ _ _ h => h) fun a wr S => ?_
        have X := undrew S.ext
        obtain ⟨v46, e46, h46⟩ := S.got 46 (by kernel_rfl)
        exact st_call cf_big_Mul (args1 (ev_of (e46 68 (by kernel_rfl)))) (by kernel_rfl) rb (cMul2 (z := (za * zb)) (u := zc) h46 (by omega) (by omega) (by omega) X.size) (fun _ _ _ h => h)
      · refine rs_yes rfl rfl (by kernel_rfl) (by kernel_rfl : _ = some 62) (fun _ _ _ h => h) fun a wr S => ?_
        have X := undrew S.ext
        exact wp_load (ev_of ((S.old 5 (by kernel_rfl)).trans rfl)) (Pa.below X) (done (by kernel_rfl) rbu_refl (Qa.below X))
      · refine rs_yes rfl rfl (by kernel_rfl) (by kernel_rfl : _ = some 62) (fun _ _ _ h => h) fun a wr S => ?_
        have X := undrew S.ext
        exact wp_load (ev_of ((S.old 6 (by kernel_rfl)).trans rfl)) (Pb.below X) (done (by kernel_rfl) rbu_refl (Qb.below X))
      · refine rs_yes rfl rfl (by kernel_rfl) (by kernel_rfl : _ = some 62) (fun _ _ _ h => h) fun a wr S => ?_
        have X := undrew S.ext
        exact wp_load (ev_of ((S.old 7 (by kernel_rfl)).trans rfl)) (Pc.below X) (done (by kernel_rfl) rbu_refl (Qc.below X))
      · refine rs_yes rfl rfl (by kernel_rfl) (by kernel_rfl : _ = some 62) (fun _ _ _ h => h) fun a wr S => ?_
        have X := undrew S.ext
        obtain ⟨v49, e49, h49⟩ := S.got 49 (by kernel_rfl)
        obtain ⟨v50, e50, h50⟩ := S.got 50 (by kernel_rfl)
        obtain ⟨b0, A0, n0, c0, hv0, Z0⟩ := (show IsM wr _ _ _ from h49)
        obtain ⟨b1, A1, n1, c1, hv1, Z1⟩ := (show IsM wr _ _ _ from h50)
        exact wp_bs2 ((ev_of (e49 71 (by kernel_rfl))).trans hv0) ((ev_of (e50 72 (by kernel_rfl))).trans hv1) (done' (by kernel_rfl) (rb _ _ _ (bl_alloc _ _)) (IsR2.new Z0 Z1))
      · refine rs_yes rfl rfl (by kernel_rfl) (by kernel_rfl : _ = some 62) (fun _ _ _ h => h) fun a wr S => ?_
        have X := undrew S.ext
        obtain ⟨v51, e51, h51⟩ := S.got 51 (by kernel_rfl)
        exact st_call cf_big_Mul (args1 (ev_of (e51 73 (by kernel_rfl)))) (by kernel_rfl) rb (cMul2 (z := zb) (u := zc) h51 (by omega) (by omega) (by omega) X.size) (fun _ _ _ h => h)
      · refine rs_yes rfl rfl (by kernel_rfl) (by kernel_rfl : _ = some 62) (fun _ _ _ h => h) fun a wr S => ?_
        have X := undrew S.ext
        obtain ⟨v48, e48, h48⟩ := S.got 48 (by kernel_rfl)
        obtain ⟨v52, e52, h52⟩ := S.got 52 (by kernel_rfl)
        obtain ⟨b0, A0, n0, c0, hv0, Z0⟩ := (show IsM wr _ _ _ from h48)
        obtain ⟨b1, A1, n1, c1, hv1, Z1⟩ := (show IsM wr _ _ _ from h52.m)
        exact wp_bs2 ((ev_of (e48 70 (by kernel_rfl))).trans hv0) ((ev_of (e52 74 (by kernel_rfl))).trans hv1) (done' (by kernel_rfl) (rb _ _ _ (bl_alloc _ _)) (IsR2.new Z0 Z1))
      · refine rs_yes rfl rfl (by kernel_rfl) (by kernel_rfl : _ = some 62) (fun _ _ _ h => h) fun a wr S => ?_
        have X := undrew S.ext
        obtain ⟨v53, e53, h53⟩ := S.got 53 (by kernel_rfl)
        exact st_call cf_big_Mul (args1 (ev_of (e53 75 (by kernel_rfl)))) (by kernel_rfl) rb (cMul2 (z := za) (u := (zb * zc)) h53 (by omega) (by omega) (by omega) X.size) (fun _ _ _ h => h)
      · refine rs_yes rfl rfl (by kernel_rfl) (by kernel_rfl : _ = some 62) (fun _ _ _ h => h) fun a wr S => ?_
        have X := undrew S.ext
        obtain ⟨v47, e47, h47⟩ := S.got 47 (by kernel_rfl)
        obtain ⟨v54, e54, h54⟩ := S.got 54 (by kernel_rfl)
        exact st_call cf_law02_same (args2 (ev_of (e47 69 (by kernel_rfl))) (ev_of (e54 76 (by kernel_rfl)))) (by kernel_rfl) rb (cSame h47.t h54.t (by omega) (by omega) (decide_eq_true (Int.mul_assoc _ _ _))) (fun _ _ _ h => h)
      · refine rs_yes rfl rfl (by kernel_rfl) (by kernel_rfl : _ = some 62) (fun _ _ _ h => h) fun a wr S => ?_
        have X := undrew S.ext
        obtain ⟨v55, e55, h55⟩ := S.got 55 (by kernel_rfl)
        exact wp_not ((ev_of (e55 77 (by kernel_rfl))).trans h55) (done (by kernel_rfl) rbu_refl rfl)
      · refine rs_plain rfl rfl fun a wr S => ?_
        have X := undrew S.ext
        obtain ⟨v40, e40, h40⟩ := S.got 40 (by kernel_rfl)
        obtain ⟨v56, e56, h56⟩ := S.got 56 (by kernel_rfl)
        exact wp_pickF ((ev_of (e40 62 (by kernel_rfl))).trans h40) ((ev_of (e56 78 (by kernel_rfl))).trans h56) (done (by kernel_rfl) rbu_refl rfl)
      · refine rs_plain rfl rfl fun a wr S => ?_
        have X := undrew S.ext
        obtain ⟨v57, e57, h57⟩ := S.got 57 (by kernel_rfl)
        exact wp_mv ((ev_of (e57 79 (by kernel_rfl))).trans h57) (done (by kernel_rfl) rbu_refl rfl)
      · refine rs_yes rfl rfl (by kernel_rfl) (by kernel_rfl : _ = some 80) (fun _ _ _ h => h) fun a wr S => ?_
        have X := undrew S.ext
        exact wp_load (ev_of ((S.old 5 (by kernel_rfl)).trans rfl)) (Pa.below X) (done (by kernel_rfl) rbu_refl (Qa.below X))
      · refine rs_yes rfl rfl (by kernel_rfl) (by kernel_rfl : _ = some 80) (fun _ _ _ h => h) fun a wr S => ?_
        have X := undrew S.ext
        exact wp_load (ev_of ((S.old 6 (by kernel_rfl)).trans rfl)) (Pb.below X) (done (by kernel_rfl) rbu_refl (Qb.below X))
      · refine rs_yes rfl rfl (by kernel_rfl) (by kernel_rfl : _ = some 80) (fun _ _ _ h => h) fun a wr S => ?_
        have X := undrew S.ext
        exact wp_load (ev_of ((S.old 7 (by kernel_rfl)).trans rfl)) (Pc.below X) (done (by kernel_rfl) rbu_refl (Qc.below X))
      · refine rs_yes rfl rfl (by kernel_rfl) (by kernel_rfl : _ = some 80) (fun _ _ _ h => h) fun a wr S => ?_
        have X := undrew S.ext
        obtain ⟨v60, e60, h60⟩ := S.got 60 (by kernel_rfl)
        obtain ⟨v61, e61, h61⟩ := S.got 61 (by kernel_rfl)
        obtain ⟨b0, A0, n0, c0, hv0, Z0⟩ := (show IsM wr _ _ _ from h60)
        obtain ⟨b1, A1, n1, c1, hv1, Z1⟩ := (show IsM wr _ _ _ from h61)
        exact wp_bs2 ((ev_of (e60 82 (by kernel_rfl))).trans hv0) ((ev_of (e61 83 (by kernel_rfl))).trans hv1) (done' (by kernel_rfl) (rb _ _ _ (bl_alloc _ _)) (IsR2.new Z0 Z1))
      · refine rs_yes rfl rfl (by kernel_rfl) (by kernel_rfl : _ = some 80) (fun _ _ _ h => h) fun a wr S => ?_
        have X := undrew S.ext
        obtain ⟨v62, e62, h62⟩ := S.got 62 (by kernel_rfl)
        exact st_call cf_big_Add (args1 (ev_of (e62 84 (by kernel_rfl)))) (by kernel_rfl) rb (cAdd2 (z := zb) (u := zc) h62 (by omega) (by omega) X.size) (fun _ _ _ h => h)
      · refine rs_yes rfl rfl (by kernel_rfl) (by kernel_rfl : _ = some 80) (fun _ _ _ h => h) fun a wr S => ?_
        have X := undrew S.ext
        obtain ⟨v59, e59, h59⟩ := S.got 59 (by kernel_rfl)
        obtain ⟨v63, e63, h63⟩ := S.got 63 (by kernel_rfl)
        obtain ⟨b0, A0, n0, c0, hv0, Z0⟩ := (show IsM wr _ _ _ from h59)
        obtain ⟨b1, A1, n1, c1, hv1, Z1⟩ := (show IsM wr _ _ _ from h63.m)
        exact wp_bs2 ((ev_of (e59 81 (by kernel_rfl))).trans hv0) ((ev_of (e63 85 (by kernel_rfl))).trans hv1) (done' (by kernel_rfl) (rb _ _ _ (bl_alloc _ _)) (IsR2.new Z0 Z1))
      · refine rs_yes rfl rfl (by kernel_rfl) (by kernel_rfl : _ = some 80) (fun _ _ _ h => h) fun a wr S => ?_
        have X := undrew S.ext
        obtain ⟨v64, e64, h64⟩ := S.got 64 (by kernel_rfl)
        exact st_call cf_big_Mul (args1 (ev_of (e64 86 (by kernel_rfl)))) (by kernel_rfl) rb (cMul2 (z := za) (u := (zb + zc)) h64 (by omega) (by omega) (by omega) X.size) (fun _ _ _ h => h)
      · refine rs_yes rfl rfl (by kernel_rfl) (by kernel_rfl : _ = some 80) (fun _ _ _ h => h) fun a wr S => ?_
        have X := undrew S.ext
        exact wp_load (ev_of ((S.old 5 (by kernel_rfl)).trans rfl)) (Pa.below X) (done (by kernel_rfl) rbu_refl (Qa.below X))
      · refine rs_yes rfl rfl (by kernel_rfl) (by kernel_rfl : _ = some 80) (fun _ _ _ h => h) fun a wr S => ?_
        have X := undrew S.ext
        exact wp_load (ev_of ((S.old 6 (by kernel_rfl)).trans rfl)) (Pb.below X) (done (by kernel_rfl) rbu_refl (Qb.below X))
      · refine rs_yes rfl rfl (by kernel_rfl) (by kernel_rfl : _ = some 80) (fun _ _ _ h => h) fun a wr S => ?_
        have X := undrew S.ext
        obtain ⟨v66, e66, h66⟩ := S.got 66 (by kernel_rfl)
        obtain ⟨v67, e67, h67⟩ := S.got 67 (by kernel_rfl)
        obtain ⟨b0, A0, n0, c0, hv0, Z0⟩ := (show IsM wr _ _ _ from h66)
        obtain ⟨b1, A1, n1, c1, hv1, Z1⟩ := (show IsM wr _ _ _ from h67)
        exact wp_bs2 ((ev_of (e66 88 (by kernel_rfl))).trans hv0) ((ev_of (e67 89 (by kernel_rfl))).trans hv1) (done' (by kernel_rfl) (rb _ _ _ (bl_alloc _ _)) (IsR2.new Z0 Z1))
      · refine rs_yes rfl rfl (by kernel_rfl) (by kernel_rfl : _ = some 80) (fun _ _ _ h => h) fun a wr S => ?_
        have X := undrew S.ext
        obtain ⟨v68, e68, h68⟩ := S.got 68 (by kernel_rfl)
        exact st_call cf_big_Mul (args1 (ev_of (e68 90 (by kernel_rfl)))) (by kernel_rfl) rb (cMul2 (z := za) (u := zb) h68 (by omega) (by omega) (by omega) X.size) (fun _ _ _ h => h)
      · refine rs_yes rfl rfl (by kernel_rfl) (by kernel_rfl : _ = some 80) (fun _ _ _ h => h) fun a wr S => ?_
        have X := undrew S.ext
        exact wp_load (ev_of ((S.old 5 (by kernel_rfl)).trans rfl)) (Pa.below X) (done (by kernel_rfl) rbu_refl (Qa.below X))
      · refine rs_yes rfl rfl (by kernel_rfl) (by kernel_rfl : _ = some 80) (fun _ _ _ h => h) fun a wr S => ?_
        have X := undrew S.ext
        exact wp_load (ev_of ((S.old 7 (by kernel_rfl)).trans rfl)) (Pc.below X) (done (by kernel_rfl) rbu_refl (Qc.below X))
      · refine rs_yes rfl rfl (by kernel_rfl) (by kernel_rfl : _ = some 80) (fun _ _ _ h => h) fun a wr S => ?_
        have X := undrew S.ext
        obtain ⟨v70, e70, h70⟩ := S.got 70 (by kernel_rfl)
        obtain ⟨v71, e71, h71⟩ := S.got 71 (by kernel_rfl)
        obtain ⟨b0, A0, n0, c0, hv0, Z0⟩ := (show IsM wr _ _ _ from h70)
        obtain ⟨b1, A1, n1, c1, hv1, Z1⟩ := (show IsM wr _ _ _ from h71)
        exact wp_bs2 ((ev_of (e70 92 (by kernel_rfl))).trans hv0) ((ev_of (e71 93 (by kernel_rfl))).trans hv1) (done' (by kernel_rfl) (rb _ _ _ (bl_alloc _ _)) (IsR2.new Z0 Z1))
      · refine rs_yes rfl rfl (by kernel_rfl) (by kernel_rfl : _ = some 80) (fun _ _ _ h => h) fun a wr S => ?_
        have X := undrew S.ext
        obtain ⟨v72, e72, h72⟩ := S.got 72 (by kernel_rfl)
        exact st_call cf_big_Mul (args1 (ev_of (e72 94 (by kernel_rfl)))) (by kernel_rfl) rb (cMul2 (z := za) (u := zc) h72 (by omega) (by omega) (by omega) X.size) (fun _ _ _ h => h)
      · refine rs_yes rfl rfl (by kernel_rfl) (by kernel_rfl : _ = some 80) (fun _ _ _ h => h) fun a wr S => ?_
        have X := undrew S.ext
        obtain ⟨v69, e69, h69⟩ := S.got 69 (by kernel_rfl)
        obtain ⟨v73, e73, h73⟩ := S.got 73 (by kernel_rfl)
        obtain ⟨b0, A0, n0, c0, hv0, Z0⟩ := (show IsM wr _ _ _ from h69.m)
        obtain ⟨b1, A1, n1, c1, hv1, Z1⟩ := (show IsM wr _ _ _ from h73.m)
        exact wp_bs2 ((ev_of (e69 91 (by kernel_rfl))).trans hv0) ((ev_of (e73 95 (by kernel_rfl))).trans hv1) (done' (by kernel_rfl) (rb _ _ _ (bl_alloc _ _)) (IsR2.new Z0 Z1))
      · refine rs_yes rfl rfl (by kernel_rfl) (by kernel_rfl : _ = some 80) (fun _ _ _ h => h) fun a wr S => ?_
        have X := undrew S.ext
        obtain ⟨v74, e74, h74⟩ := S.got 74 (by kernel_rfl)
        exact st_call cf_big_Add (args1 (ev_of (e74 96 (by kernel_rfl)))) (by kernel_rfl) rb (cAdd2 (z := (za * zb)) (u := (za * zc)) h74 (by omega) (by omega) X.size) (fun _ _ _ h => h)
      · refine rs_yes rfl rfl (by kernel_rfl) (by kernel_rfl : _ = some 80) (fun _ _ _ h => h) fun a wr S => ?_
        have X := undrew S.ext
        obtain ⟨v65, e65, h65⟩ := S.got 65 (by kernel_rfl)
        obtain ⟨v75, e75, h75⟩ := S.got 75 (by kernel_rfl)
        exact st_call cf_law02_same (args2 (ev_of (e65 87 (by kernel_rfl))) (ev_of (e75 97 (by kernel_rfl)))) (by kernel_rfl) rb (cSame h65.t h75.t (by omega) (by omega) (decide_eq_true (Int.mul_add _ _ _))) (fun _ _ _ h => h)
      · refine rs_yes rfl rfl (by kernel_rfl) (by kernel_rfl : _ = some 80) (fun _ _ _ h => h) fun a wr S => ?_
        have X := undrew S.ext
        obtain ⟨v76, e76, h76⟩ := S.got 76 (by kernel_rfl)
        exact wp_not ((ev_of (e76 98 (by kernel_rfl))).trans h76) (done (by kernel_rfl) rbu_refl rfl)
      · refine rs_plain rfl rfl fun a wr S => ?_
        have X := undrew S.ext
        obtain ⟨v58, e58, h58⟩ := S.got 58 (by kernel_rfl)
        obtain ⟨v77, e77, h77⟩ := S.got 77 (by kernel_rfl)
        exact wp_pickF ((ev_of (e58 80 (by kernel_rfl))).trans h58) ((ev_of (e77 99 (by kernel_rfl))).trans h77) (done (by kernel_rfl) rbu_refl rfl)
    · intro f3_ w3 hR hv
      replace hR := undrew hR
      have f8 : f3_ 8 = .bool true := (hvc (hv 8 (by omega))).elim fun _ h => h
      have f9 : f3_ 9 = .bool false := (hvc (hv 9 (by omega))).elim fun _ h => h
      have f10 : f3_ 10 = .bool false := (hvc (hv 10 (by omega))).elim fun _ h => h
      have f19 : f3_ 19 = .bool true := (hvc (hv 19 (by omega))).elim fun _ h => h
      have f20 : f3_ 20 = .bool false := (hvc (hv 20 (by omega))).elim fun _ h => h
      have f21 : f3_ 21 = .bool false := (hvc (hv 21 (by omega))).elim fun _ h => h
      have f22 : f3_ 22 = .bool false := (hvc (hv 22 (by omega))).elim fun _ h => h
      have f37 : f3_ 37 = .bool true := (hvc (hv 37 (by omega))).elim fun _ h => h
      have f38 : f3_ 38 = .bool false := (hvc (hv 38 (by omega))).elim fun _ h => h
      have f39 : f3_ 39 = .bool false := (hvc (hv 39 (by omega))).elim fun _ h => h
      have f40 : f3_ 40 = .bool false := (hvc (hv 40 (by omega))).elim fun _ h => h
      have f55 : f3_ 55 = .bool true := (hvc (hv 55 (by omega))).elim fun _ h => h
      have f56 : f3_ 56 = .bool false := (hvc (hv 56 (by omega))).elim fun _ h => h
      have f57 : f3_ 57 = .bool false := (hvc (hv 57 (by omega))).elim fun _ h => h
      have f58 : f3_ 58 = .bool false := (hvc (hv 58 (by omega))).elim fun _ h => h
      have f76 : f3_ 76 = .bool true := (hvc (hv 76 (by omega))).elim fun _ h => h
      have f77 : f3_ 77 = .bool false := (hvc (hv 77 (by omega))).elim fun _ h => h
      have f78 : f3_ 78 = .bool false := (hvc (hv 78 (by omega))).elim fun _ h => h
      simp only [putFn, Act.put, List.setIfInBounds_toArray, List.set_cons_zero, List.set_cons_succ, f8, f9, f10, f19, f20, f21, f22, f37, f38, f39, f40, f55, f56, f57, f58, f76, f77, f78]
      replace Qa := Qa.below hR
      replace Qb := Qb.below hR
      replace Qc := Qc.below hR
      replace Pa := Pa.below hR
      replace Pb := Pb.below hR
      replace Pc := Pc.below hR
      replace BB := bl_trans BB hR
      clear hR
      clear hv
      go_wp2_with fail
      refine wp_region_list (Ext := RB) (Rel := RBu) [fun v _ w => IsM w v (za) 10, fun v _ w => IsM w v (zb) 10, fun v _ w => IsR2 w v (za) 10 (zb) 10, fun v _ w => IsZ (w3).heap.size w v (za + zb) 11, fun v _ w => IsM w v (zb) 10, fun v _ w => IsZ (w3).heap.size w v ((za + zb) - zb) 12, fun v _ w => IsM w v (za) 10, fun v _ w => IsR1 w v (za) 10, fun v _ w => IsZ (w3).heap.size w v (za) 11, fun v _ _ => v = .bool true, fun v _ _ => v = .bool false, fun v _ _ => v = .bool false, fun v _ w => IsM w v (za) 10, fun v _ w => IsM w v (za) 10, fun v _ w => IsZ (w3).heap.size w v (-za) 10, fun v _ w => IsR2 w v (za) 10 (-za) 10, fun v _ w => IsZ (w3).heap.size w v (za + (-za)) 11, fun v _ w => IsT w v (0) 0, fun v _ _ => v = .bool true, fun v _ _ => v = .bool false, fun v _ _ => v = .bool false, fun v _ _ => v = .bool false, fun v _ w => IsM w v (za) 10, fun v _ w => IsZ (w3).heap.size w v (-za) 10, fun v _ w => IsZ (w3).heap.size w v (-(-za)) 10, fun v _ w => IsM w v (za) 10, fun v _ w => IsR1 w v (za) 10, fun v _ w => IsZ (w3).heap.size w v (za) 12, fun v _ _ => v = .bool true, fun v _ _ => v = .bool false, fun v _ _ => v = .bool false, fun v _ _ => v = .bool false, fun v _ w => IsM w v (za) 10, fun v _ w => IsZ (w3).heap.size w v ((-1)) 2, fun v _ w => IsR2 w v (za) 10 ((-1)) 2, fun v _ w => IsZ (w3).heap.size w v (za * ((-1))) 12, fun v _ w => IsM w v (za) 10, fun v _ w => IsZ (w3).heap.size w v (-za) 10, fun v _ _ => v = .bool true, fun v _ _ => v = .bool false, fun v _ _ => v = .bool false, fun v _ _ => v = .bool false, fun v _ w => IsM w v (za) 10, fun v _ w => IsT w v (0) 0, fun v _ w => IsR2 w v (za) 10 (0) 0, fun v _ w => IsZ (w3).heap.size w v (za * 0) 10, fun v _ w => IsT w v (0) 0, fun v _ _ => v = .bool true, fun v _ _ => v = .bool false, fun v _ _ => v = .bool false] (n := 50) (by kernel_rfl) rfl (by kernel_rfl) (by kernel_rfl) (by kernel_rfl) (by kernel_rfl) (by kernel_rfl) rb_refl rb_trans ⟨sM, ⟨sM, ⟨sR2, ⟨sZ, ⟨sM, ⟨sZ, ⟨sM, ⟨sR1, ⟨sZ, ⟨sC, ⟨sC, ⟨sC, ⟨sM, ⟨sM, ⟨sZ, ⟨sR2, ⟨sZ, ⟨sT, ⟨sC, ⟨sC, ⟨sC, ⟨sC, ⟨sM, ⟨sZ, ⟨sZ, ⟨sM, ⟨sR1, ⟨sZ, ⟨sC, ⟨sC, ⟨sC, ⟨sC, ⟨sM, ⟨sZ, ⟨sR2, ⟨sZ, ⟨sM, ⟨sZ, ⟨sC, ⟨sC, ⟨sC, ⟨sC, ⟨sM, ⟨sT, ⟨sR2, ⟨sZ, ⟨sT, ⟨sC, ⟨sC, ⟨sC, trivial⟩⟩⟩⟩⟩⟩⟩⟩⟩⟩⟩⟩⟩⟩⟩⟩⟩⟩⟩⟩⟩⟩⟩⟩⟩⟩⟩⟩⟩⟩⟩⟩⟩⟩⟩⟩⟩⟩⟩⟩⟩⟩⟩⟩⟩⟩⟩⟩⟩⟩ ?_ ?_
      · refine ⟨⟨⟨⟨⟨⟨⟨⟨⟨⟨⟨⟨⟨⟨⟨⟨⟨⟨⟨⟨⟨⟨⟨⟨⟨⟨⟨⟨⟨⟨⟨⟨⟨⟨⟨⟨⟨⟨⟨⟨⟨⟨⟨⟨⟨⟨⟨⟨⟨⟨trivial, ?_⟩, ?_⟩, ?_⟩, ?_⟩, ?_⟩, ?_⟩, ?_⟩, ?_⟩, ?_⟩, ?_⟩, ?_⟩, ?_⟩, ?_⟩, ?_⟩, ?_⟩, ?_⟩, ?_⟩, ?_⟩, ?_⟩, ?_⟩, ?_⟩, ?_⟩, ?_⟩, ?_⟩, ?_⟩, ?_⟩, ?_⟩, ?_⟩, ?_⟩, ?_⟩, ?_⟩, ?_⟩, ?_⟩, ?_⟩, ?_⟩, ?_⟩, ?_⟩, ?_⟩, ?_⟩, ?_⟩, ?_⟩, ?_⟩, ?_⟩, ?_⟩, ?_⟩, ?_⟩, ?_⟩, ?_⟩, ?_⟩, ?_⟩
        · refine rs_plain rfl rfl fun a wr S => ?_
          have X := undrew S.ext
          exact wp_load (ev_of ((S.old 5 (by kernel_rfl)).trans rfl)) (Pa.below X) (done (by kernel_rfl) rbu_refl (Qa.below X))
        · refine rs_plain rfl rfl fun a wr S => ?_
          have X := undrew S.ext
          exact wp_load (ev_of ((S.old 6 (by kernel_rfl)).trans rfl)) (Pb.below X) (done (by kernel_rfl) rbu_refl (Qb.below X))
        · refine rs_plain rfl rfl fun a wr S => ?_
          have X := undrew S.ext
          obtain ⟨v0, e0, h0⟩ := S.got 0 (by kernel_rfl)
          obtain ⟨v1, e1, h1⟩ := S.got 1 (by kernel_rfl)
          obtain ⟨b0, A0, n0, c0, hv0, Z0⟩ := (show IsM wr _ _ _ from h0)
          obtain ⟨b1, A1, n1, c1, hv1, Z1⟩ := (show IsM wr _ _ _ from h1)
          exact wp_bs2 ((ev_of (e0 101 (by kernel_rfl))).trans hv0) ((ev_of (e1 102 (by kernel_rfl))).trans hv1) (done' (by kernel_rfl) (rb _ _ _ (bl_alloc _ _)) (IsR2.new Z0 Z1))
        · refine rs_plain rfl rfl fun a wr S => ?_
          have X := undrew S.ext
          obtain ⟨v2, e2, h2⟩ := S.got 2 (by kernel_rfl)
          exact st_call cf_big_Add (args1 (ev_of (e2 103 (by kernel_rfl)))) (by kernel_rfl) rb (cAdd2 (z := za) (u := zb) h2 (by omega) (by omega) X.size) (fun _ _ _ h => h)
        · refine rs_plain rfl rfl fun a wr S => ?_
          have X := undrew S.ext
          exact wp_load (ev_of ((S.old 6 (by kernel_rfl)).trans rfl)) (Pb.below X) (done (by kernel_rfl) rbu_refl (Qb.below X))
        · refine rs_plain rfl rfl fun a wr S => ?_
          have X := undrew S.ext
          obtain ⟨v3, e3, h3⟩ := S.got 3 (by kernel_rfl)
          obtain ⟨v4, e4, h4⟩ := S.got 4 (by kernel_rfl)
          exact st_call cf_big_Sub (args2 (ev_of (e3 104 (by kernel_rfl))) (ev_of (e4 105 (by kernel_rfl)))) (by kernel_rfl) rb (cSub h3.m h4 (by omega) (by omega) X.size) (fun _ _ _ h => h)
        · refine rs_plain rfl rfl fun a wr S => ?_
          have X := undrew S.ext
          exact wp_load (ev_of ((S.old 5 (by kernel_rfl)).trans rfl)) (Pa.below X) (done (by kernel_rfl) rbu_refl (Qa.below X))
        · refine rs_plain rfl rfl fun a wr S => ?_
          have X := undrew S.ext
          obtain ⟨v6, e6, h6⟩ := S.got 6 (by kernel_rfl)
          obtain ⟨b0, A0, n0, c0, hv0, Z0⟩ := (show IsM wr _ _ _ from h6)
          exact wp_bs1 ((ev_of (e6 107 (by kernel_rfl))).trans hv0) (done' (by kernel_rfl) (rb _ _ _ (bl_alloc _ _)) (IsR1.new Z0))
        · refine rs_plain rfl rfl fun a wr S => ?_
          have X := undrew S.ext
          obtain ⟨v7, e7, h7⟩ := S.got 7 (by kernel_rfl)
          exact st_call cf_big_Add (args1 (ev_of (e7 108 (by kernel_rfl)))) (by kernel_rfl) rb (cAdd1 h7 (by omega) X.size) (fun _ _ _ h => h)
        · refine rs_plain rfl rfl fun a wr S => ?_
          have X := undrew S.ext
          obtain ⟨v5, e5, h5⟩ := S.got 5 (by kernel_rfl)
          obtain ⟨v8, e8, h8⟩ := S.got 8 (by kernel_rfl)
          exact st_call cf_law02_same (args2 (ev_of (e5 106 (by kernel_rfl))) (ev_of (e8 109 (by kernel_rfl)))) (by kernel_rfl) rb (cSame h5.t h8.t (by omega) (by omega) (decide_eq_true (Int.add_sub_cancel _ _))) (fun _ _ _ h => h)
        · refine rs_plain rfl rfl fun a wr S => ?_
          have X := undrew S.ext
          obtain ⟨v9, e9, h9⟩ := S.got 9 (by kernel_rfl)
          exact wp_not ((ev_of (e9 110 (by kernel_rfl))).trans h9) (done (by kernel_rfl) rbu_refl rfl)
        · refine rs_plain rfl rfl fun a wr S => ?_
          have X := undrew S.ext
          obtain ⟨v10, e10, h10⟩ := S.got 10 (by kernel_rfl)
          exact wp_mv ((ev_of (e10 111 (by kernel_rfl))).trans h10) (done (by kernel_rfl) rbu_refl rfl)
        · refine rs_yes rfl rfl (by kernel_rfl) (by kernel_rfl : _ = some 112) (fun _ _ _ h => h) fun a wr S => ?_
          have X := undrew S.ext
          exact wp_load (ev_of ((S.old 5 (by kernel_rfl)).trans rfl)) (Pa.below X) (done (by kernel_rfl) rbu_refl (Qa.below X))
        · refine rs_yes rfl rfl (by kernel_rfl) (by kernel_rfl : _ = some 112) (fun _ _ _ h => h) fun a wr S => ?_
          have X := undrew S.ext
          exact wp_load (ev_of ((S.old 5 (by kernel_rfl)).trans rfl)) (Pa.below X) (done (by kernel_rfl) rbu_refl (Qa.below X))
        · refine rs_yes rfl rfl (by kernel_rfl) (by kernel_rfl : _ = some 112) (fun _ _ _ h => h) fun a wr S => ?_
          have X := undrew S.ext
          obtain ⟨v13, e13, h13⟩ := S.got 13 (by kernel_rfl)
          exact st_call cf_big_Neg (args1 (ev_of (e13 114 (by kernel_rfl)))) (by kernel_rfl) rb (cNeg h13 (by omega) X.size) (fun _ _ _ h => h)
        · refine rs_yes rfl rfl (by kernel_rfl) (by kernel_rfl : _ = some 112) (fun _ _ _ h => h) fun a wr S => ?_
          have X := undrew S.ext
          obtain ⟨v12, e12, h12⟩ := S.got 12 (by kernel_rfl)
          obtain ⟨v14, e14, h14⟩ := S.got 14 (by kernel_rfl)
          obtain ⟨b0, A0, n0, c0, hv0, Z0⟩ := (show IsM wr _ _ _ from h12)
          obtain ⟨b1, A1, n1, c1, hv1, Z1⟩ := (show IsM wr _ _ _ from h14.m)
          exact wp_bs2 ((ev_of (e12 113 (by kernel_rfl))).trans hv0) ((ev_of (e14 115 (by kernel_rfl))).trans hv1) (done' (by kernel_rfl) (rb _ _ _ (bl_alloc _ _)) (IsR2.new Z0 Z1))
        · refine rs_yes rfl rfl (by kernel_rfl) (by kernel_rfl : _ = some 112) (fun _ _ _ h => h) fun a wr S => ?_
          have X := undrew S.ext
          obtain ⟨v15, e15, h15⟩ := S.got 15 (by kernel_rfl)
          exact st_call cf_big_Add (args1 (ev_of (e15 116 (by kernel_rfl)))) (by kernel_rfl) rb (cAdd2 (z := za) (u := (-za)) h15 (by omega) (by omega) X.size) (fun _ _ _ h => h)
        · refine rs_yes rfl rfl (by kernel_rfl) (by kernel_rfl : _ = some 112) (fun _ _ _ h => h) fun a wr S => ?_
          have X := undrew S.ext
          exact wp_build0 (done (by kernel_rfl) rbu_refl (IsT.zero _ 0))
        · refine rs_yes rfl rfl (by kernel_rfl) (by kernel_rfl : _ = some 112) (fun _ _ _ h => h) fun a wr S => ?_
          have X := undrew S.ext
          obtain ⟨v16, e16, h16⟩ := S.got 16 (by kernel_rfl)
          obtain ⟨v17, e17, h17⟩ := S.got 17 (by kernel_rfl)
          exact st_call cf_law02_same (args2 (ev_of (e16 117 (by kernel_rfl))) (ev_of (e17 118 (by kernel_rfl)))) (by kernel_rfl) rb (cSame h16.t h17 (by omega) (by omega) (decide_eq_true (Int.add_right_neg _))) (fun _ _ _ h => h)
        · refine rs_yes rfl rfl (by kernel_rfl) (by kernel_rfl : _ = some 112) (fun _ _ _ h => h) fun a wr S => ?_
          have X := undrew S.ext
          obtain ⟨v18, e18, h18⟩ := S.got 18 (by kernel_rfl)
          exact wp_not ((ev_of (e18 119 (by kernel_rfl))).trans h18) (done (by kernel_rfl) rbu_refl rfl)
        · refine rs_plain rfl rfl fun a wr S => ?_
          have X := undrew S.ext
          obtain ⟨v11, e11, h11⟩ := S.got 11 (by kernel_rfl)
          obtain ⟨v19, e19, h19⟩ := S.got 19 (by kernel_rfl)
          exact wp_pickF ((ev_of (e11 112 (by kernel_rfl))).trans h11) ((ev_of (e19 120 (by kernel_rfl))).trans h19) (done (by kernel_rfl) rbu_refl rfl)
        · refine rs_plain rfl rfl fun a wr S => ?_
          have X := undrew S.ext
          obtain ⟨v20, e20, h20⟩ := S.got 20 (by kernel_rfl)
          exact wp_mv ((ev_of (e20 121 (by kernel_rfl))).trans h20) (done (by kernel_rfl) rbu_refl rfl)
        · refine rs_yes rfl rfl (by kernel_rfl) (by kernel_rfl : _ = some 122) (fun _ _ _ h => h) fun a wr S => ?_
          have X := undrew S.ext
          exact wp_load (ev_of ((S.old 5 (by kernel_rfl)).trans rfl)) (Pa.below X) (done (by kernel_rfl) rbu_refl (Qa.below X))
        · refine rs_yes rfl rfl (by kernel_rfl) (by kernel_rfl : _ = some 122) (fun _ _ _ h => h) fun a wr S => ?_
          have X := undrew S.ext
          obtain ⟨v22, e22, h22⟩ := S.got 22 (by kernel_rfl)
          exact st_call cf_big_Neg (args1 (ev_of (e22 123 (by kernel_rfl)))) (by kernel_rfl) rb (cNeg h22 (by omega) X.size) (fun _ _ _ h => h)
        · refine rs_yes rfl rfl (by kernel_rfl) (by kernel_rfl : _ = some 122) (fun _ _ _ h => h) fun a wr S => ?_
          have X := undrew S.ext
          obtain ⟨v23, e23, h23⟩ := S.got 23 (by kernel_rfl)
          exact st_call cf_big_Neg (args1 (ev_of (e23 124 (by kernel_rfl)))) (by kernel_rfl) rb (cNeg h23.m (by omega) X.size) (fun _ _ _ h => h)
        · refine rs_yes rfl rfl (by kernel_rfl) (by kernel_rfl : _ = some 122) (fun _ _ _ h => h) fun a wr S => ?_
          have X := undrew S.ext
          exact wp_load (ev_of ((S.old 5 (by kernel_rfl)).trans rfl)) (Pa.below X) (done (by kernel_rfl) rbu_refl (Qa.below X))
        · refine rs_yes rfl rfl (by kernel_rfl) (by kernel_rfl : _ = some 122) (fun _ _ _ h => h) fun a wr S => ?_
          have X := undrew S.ext
          obtain ⟨v25, e25, h25⟩ := S.got 25 (by kernel_rfl)
          obtain ⟨b0, A0, n0, c0, hv0, Z0⟩ := (show IsM wr _ _ _ from h25)
          exact wp_bs1 ((ev_of (e25 126 (by kernel_rfl))).trans hv0) (done' (by kernel_rfl) (rb _ _ _ (bl_alloc _ _)) (IsR1.new Z0))
        · refine rs_yes rfl rfl (by kernel_rfl) (by kernel_rfl : _ = some 122) (fun _ _ _ h => h) fun a wr S => ?_
          have X := undrew S.ext
          obtain ⟨v26, e26, h26⟩ := S.got 26 (by kernel_rfl)
          exact st_call cf_big_Mul (args1 (ev_of (e26 127 (by kernel_rfl)))) (by kernel_rfl) rb (cMul1 h26 (by omega) X.size) (fun _ _ _ h => h)
        · refine rs_yes rfl rfl (by kernel_rfl) (by kernel_rfl : _ = some 122) (fun _ _ _ h => h) fun a wr S => ?_
          have X := undrew S.ext
          obtain ⟨v24, e24, h24⟩ := S.got 24 (by kernel_rfl)
          obtain ⟨v27, e27, h27⟩ := S.got 27 (by kernel_rfl)
          exact st_call cf_law02_same (args2 (ev_of (e24 125 (by kernel_rfl))) (ev_of (e27 128 (by kernel_rfl)))) (by kernel_rfl) rb (cSame h24.t h27.t (by omega) (by omega) (decide_eq_true (Int.neg_neg _))) (fun _ _ _ h => h)
        · refine rs_yes rfl rfl (by kernel_rfl) (by kernel_rfl : _ = some 122) (fun _ _ _ h => h) fun a wr S => ?_
          have X := undrew S.ext
          obtain ⟨v28, e28, h28⟩ := S.got 28 (by kernel_rfl)
          exact wp_not ((ev_of (e28 129 (by kernel_rfl))).trans h28) (done (by kernel_rfl) rbu_refl rfl)
        · refine rs_plain rfl rfl fun a wr S => ?_
          have X := undrew S.ext
          obtain ⟨v21, e21, h21⟩ := S.got 21 (by kernel_rfl)
          obtain ⟨v29, e29, h29⟩ := S.got 29 (by kernel_rfl)
          exact wp_pickF ((ev_of (e21 122 (by kernel_rfl))).trans h21) ((ev_of (e29 130 (by kernel_rfl))).trans h29) (done (by kernel_rfl) rbu_refl rfl)
        · refine rs_plain rfl rfl fun a wr S => ?_
          have X := undrew S.ext
          obtain ⟨v30, e30, h30⟩ := S.got 30 (by kernel_rfl)
          exact wp_mv ((ev_of (e30 131 (by kernel_rfl))).trans h30) (done (by kernel_rfl) rbu_refl rfl)
        · refine rs_yes rfl rfl (by kernel_rfl) (by kernel_rfl : _ = some 132) (fun _ _ _ h => h) fun a wr S => ?_
          have X := undrew S.ext
          exact wp_load (ev_of ((S.old 5 (by kernel_rfl)).trans rfl)) (Pa.below X) (done (by kernel_rfl) rbu_refl (Qa.below X))
        · refine rs_yes rfl rfl (by kernel_rfl) (by kernel_rfl : _ = some 132) (fun _ _ _ h => h) fun a wr S => ?_
          have X := undrew S.ext
          exact st_call cf_big_From (args1 rfl) (by kernel_rfl) rb (cFrom _ (by omega) (by omega) X.size) (fun _ _ _ h => h)
        · refine rs_yes rfl rfl (by kernel_rfl) (by kernel_rfl : _ = some 132) (fun _ _ _ h => h) fun a wr S => ?_
          have X := undrew S.ext
          obtain ⟨v32, e32, h32⟩ := S.got 32 (by kernel_rfl)
          obtain ⟨v33, e33, h33⟩ := S.got 33 (by kernel_rfl)
          obtain ⟨b0, A0, n0, c0, hv0, Z0⟩ := (show IsM wr _ _ _ from h32)
          obtain ⟨b1, A1, n1, c1, hv1, Z1⟩ := (show IsM wr _ _ _ from h33.m)
          exact wp_bs2 ((ev_of (e32 133 (by kernel_rfl))).trans hv0) ((ev_of (e33 134 (by kernel_rfl))).trans hv1) (done' (by kernel_rfl) (rb _ _ _ (bl_alloc _ _)) (IsR2.new Z0 Z1))
        · refine rs_yes rfl rfl (by kernel_rfl) (by kernel_rfl : _ = some 132) (fun _ _ _ h => h) fun a wr S => ?_
          have X := undrew S.ext
          obtain ⟨v34, e34, h34⟩ := S.got 34 (by kernel_rfl)
          exact st_call cf_big_Mul (args1 (ev_of (e34 135 (by kernel_rfl)))) (by kernel_rfl) rb (cMul2 (z := za) (u := ((-1))) h34 (by omega) (by omega) (by omega) X.size) (fun _ _ _ h => h)
        · refine rs_yes rfl rfl (by kernel_rfl) (by kernel_rfl : _ = some 132) (fun _ _ _ h => h) fun a wr S => ?_
          have X := undrew S.ext
          exact wp_load (ev_of ((S.old 5 (by kernel_rfl)).trans rfl)) (Pa.below X) (done (by kernel_rfl) rbu_refl (Qa.below X))
        · refine rs_yes rfl rfl (by kernel_rfl) (by kernel_rfl : _ = some 132) (fun _ _ _ h => h) fun a wr S => ?_
          have X := undrew S.ext
          obtain ⟨v36, e36, h36⟩ := S.got 36 (by kernel_rfl)
          exact st_call cf_big_Neg (args1 (ev_of (e36 137 (by kernel_rfl)))) (by kernel_rfl) rb (cNeg h36 (by omega) X.size) (fun _ _ _ h => h)
        · refine rs_yes rfl rfl (by kernel_rfl) (by kernel_rfl : _ = some 132) (fun _ _ _ h => h) fun a wr S => ?_
          have X := undrew S.ext
          obtain ⟨v35, e35, h35⟩ := S.got 35 (by kernel_rfl)
          obtain ⟨v37, e37, h37⟩ := S.got 37 (by kernel_rfl)
          exact st_call cf_law02_same (args2 (ev_of (e35 136 (by kernel_rfl))) (ev_of (e37 138 (by kernel_rfl)))) (by kernel_rfl) rb (cSame h35.t h37.t (by omega) (by omega) (decide_eq_true (by omega))) (fun _ _ _ h => h)
        · refine rs_yes rfl rfl (by kernel_rfl) (by kernel_rfl : _ = some 132) (fun _ _ _ h => h) fun a wr S => ?_
          have X := undrew S.ext
          obtain ⟨v38, e38, h38⟩ := S.got 38 (by kernel_rfl)
          exact wp_not ((ev_of (e38 139 (by kernel_rfl))).trans h38) (done (by kernel_rfl) rbu_refl rfl)
        · refine rs_plain rfl rfl fun a wr S => ?_
          have X := undrew S.ext
          obtain ⟨v31, e31, h31⟩ := S.got 31 (by kernel_rfl)
          obtain ⟨v39, e39, h39⟩ := S.got 39 (by kernel_rfl)
          exact wp_pickF ((ev_of (e31 132 (by kernel_rfl))).trans h31) ((ev_of (e39 140 (by kernel_rfl))).trans h39) (done (by kernel_rfl) rbu_refl rfl)
        · refine rs_plain rfl rfl fun a wr S => ?_
          have X := undrew S.ext
          obtain ⟨v40, e40, h40⟩ := S.got 40 (by kernel_rfl)
          exact wp_mv ((ev_of (e40 141 (by kernel_rfl))).trans h40) (done (by kernel_rfl) rbu_refl rfl)
        · refine rs_yes rfl rfl (by kernel_rfl) (by kernel_rfl : _ = some 142) (fun _ _ _ h => h) fun a wr S => ?_
          have X := undrew S.ext
          exact wp_load (ev_of ((S.old 5 (by kernel_rfl)).trans rfl)) (Pa.below X) (done (by kernel_rfl) rbu_refl (Qa.below X))
        · refine rs_yes rfl rfl (by kernel_rfl) (by kernel_rfl : _ = some 142) (fun _ _ _ h => h) fun a wr S => ?_
          have X := undrew S.ext
          exact wp_build0 (done (by kernel_rfl) rbu_refl (IsT.zero _ 0))
        · refine rs_yes rfl rfl (by kernel_rfl) (by kernel_rfl : _ = some 142) (fun _ _ _ h => h) fun a wr S => ?_
          have X := undrew S.ext
          obtain ⟨v42, e42, h42⟩ := S.got 42 (by kernel_rfl)
          obtain ⟨v43, e43, h43⟩ := S.got 43 (by kernel_rfl)
          obtain ⟨b0, A0, n0, c0, hv0, Z0⟩ := (show IsM wr _ _ _ from h42)
          obtain ⟨b1, A1, n1, c1, hv1, Z1⟩ := (show IsM wr _ _ _ from h43.m)
          exact wp_bs2 ((ev_of (e42 143 (by kernel_rfl))).trans hv0) ((ev_of (e43 144 (by kernel_rfl))).trans hv1) (done' (by kernel_rfl) (rb _ _ _ (bl_alloc _ _)) (IsR2.new Z0 Z1))
        · refine rs_yes rfl rfl (by kernel_rfl) (by kernel_rfl : _ = some 142) (fun _ _ _ h => h) fun a wr S => ?_
          have X := undrew S.ext
          obtain ⟨v44, e44, h44⟩ := S.got 44 (by kernel_rfl)
          exact st_call cf_big_Mul (args1 (ev_of (e44 145 (by kernel_rfl)))) (by kernel_rfl) rb (cMul2 (z := za) (u := 0) h44 (by omega) (by omega) (by omega) X.size) (fun _ _ _ h => h)
        · refine rs_yes rfl rfl (by kernel_rfl) (by kernel_rfl : _ = some 142) (fun _ _ _ h => h) fun a wr S => ?_
          have X := undrew S.ext
          exact wp_build0 (done (by kernel_rfl) rbu_refl (IsT.zero _ 0))
        · refine rs_yes rfl rfl (by kernel_rfl) (by kernel_rfl : _ = some 142) (fun _ _ _ h => h) fun a wr S => ?_
          have X := undrew S.ext
          obtain ⟨v45, e45, h45⟩ := S.got 45 (by kernel_rfl)
          obtain ⟨v46, e46, h46⟩ := S.got 46 (by kernel_rfl)
          exact st_call cf_law02_same (args2 (ev_of (e45 146 (by kernel_rfl))) (ev_of (e46 147 (by kernel_rfl)))) (by kernel_rfl) rb (cSame h45.t h46 (by omega) (by omega) (decide_eq_true (Int.mul_zero _))) (fun _ _ _ h => h)
        · refine rs_yes rfl rfl (by kernel_rfl) (by kernel_rfl : _ = some 142) (fun _ _ _ h => h) fun a wr S => ?_
          have X := undrew S.ext
          obtain ⟨v47, e47, h47⟩ := S.got 47 (by kernel_rfl)
          exact wp_not ((ev_of (e47 148 (by kernel_rfl))).trans h47) (done (by kernel_rfl) rbu_refl rfl)
        · refine rs_plain rfl rfl fun a wr S => ?_
          have X := undrew S.ext
          obtain ⟨v41, e41, h41⟩ := S.got 41 (by kernel_rfl)
          obtain ⟨v48, e48, h48⟩ := S.got 48 (by kernel_rfl)
          exact wp_pickF ((ev_of (e41 142 (by kernel_rfl))).trans h41) ((ev_of (e48 149 (by kernel_rfl))).trans h48) (done (by kernel_rfl) rbu_refl rfl)
      · intro f4_ w4 hR hv
        replace hR := undrew hR
        have f9 : f4_ 9 = .bool true := (hvc (hv 9 (by omega))).elim fun _ h => h
        have f10 : f4_ 10 = .bool false := (hvc (hv 10 (by omega))).elim fun _ h => h
        have f11 : f4_ 11 = .bool false := (hvc (hv 11 (by omega))).elim fun _ h => h
        have f18 : f4_ 18 = .bool true := (hvc (hv 18 (by omega))).elim fun _ h => h
        have f19 : f4_ 19 = .bool false := (hvc (hv 19 (by omega))).elim fun _ h => h
        have f20 : f4_ 20 = .bool false := (hvc (hv 20 (by omega))).elim fun _ h => h
        have f21 : f4_ 21 = .bool false := (hvc (hv 21 (by omega))).elim fun _ h => h
        have f28 : f4_ 28 = .bool true := (hvc (hv 28 (by omega))).elim fun _ h => h
        have f29 : f4_ 29 = .bool false := (hvc (hv 29 (by omega))).elim fun _ h => h
        have f30 : f4_ 30 = .bool false := (hvc (hv 30 (by omega))).elim fun _ h => h
        have f31 : f4_ 31 = .bool false := (hvc (hv 31 (by omega))).elim fun _ h => h
        have f38 : f4_ 38 = .bool true := (hvc (hv 38 (by omega))).elim fun _ h => h
        have f39 : f4_ 39 = .bool false := (hvc (hv 39 (by omega))).elim fun _ h => h
        have f40 : f4_ 40 = .bool false := (hvc (hv 40 (by omega))).elim fun _ h => h
        have f41 : f4_ 41 = .bool false := (hvc (hv 41 (by omega))).elim fun _ h => h
        have f47 : f4_ 47 = .bool true := (hvc (hv 47 (by omega))).elim fun _ h => h
        have f48 : f4_ 48 = .bool false := (hvc (hv 48 (by omega))).elim fun _ h => h
        have f49 : f4_ 49 = .bool false := (hvc (hv 49 (by omega))).elim fun _ h => h
        simp only [putFn, Act.put, List.setIfInBounds_toArray, List.set_cons_zero, List.set_cons_succ, f9, f10, f11, f18, f19, f20, f21, f28, f29, f30, f31, f38, f39, f40, f41, f47, f48, f49]
        replace Qa := Qa.below hR
        replace Qb := Qb.below hR
        replace Qc := Qc.below hR
        replace Pa := Pa.below hR
        replace Pb := Pb.below hR
        replace Pc := Pc.below hR
        replace BB := bl_trans BB hR
        clear hR
        clear hv
        clear Pa Qa
        clear Pb Qb
        clear Pc Qc
        go_wp2_with fail
        refine (allZ _ _ _ _ _ (Lib.hid (HL.out.below BB)) HM.out).mono ?_
        rintro e W8 ⟨_, rfl, hb8, hL⟩
        replace BB := bl_trans BB hb8
        clear hb8 HL HM
        have h6 : ((((es.take 6).map (IE.few 10)).map IE.z)).length ≤ 6 := by rw [List.length_map, List.length_map, List.length_take]; omega
        generalize (((es.take 6).map (IE.few 10)).map IE.z) = ls at hL h6
        obtain ⟨Ar, cr, rfl, hc8, hz8⟩ := id hL
        obtain ⟨m, hm⟩ : ∃ m, m = ls.length := ⟨_, rfl⟩
        have H6 := Lib.hid h6
        rw [← hm] at hL hc8 hz8 h6 ⊢
        have HLen := Lib.hid hm.symm
        have HL8 := Lib.hid hL
        have HZ8 := Lib.hid hz8
        clear hm hL hz8
        go_wp2_with fail
        refine (fromZ 1 _ (by omega) (by omega)).mono ?_
        rintro e w9 ⟨b9, A9, n9, c9, rfl, Z9, hb9⟩
        go_wp2_with fail
        have P8 := (Bz.new w9 false none 0 0).alloc (.cells #[.bool b9, .slice A9 n9 c9] 32)
        have P9 := Bz.new2 w9 (.cells #[.bool false, .slice none 0 0] 32) b9 A9 n9 c9
        have hs9 := hb9.size
        have BW := bl_trans hb9 (bl_trans (bl_alloc w9 (.cells #[.bool false, .slice none 0 0] 32)) (bl_alloc _ (.cells #[.bool b9, .slice A9 n9 c9] 32)))
        have T9 : IsT ((w9.alloc (.cells #[.bool false, .slice none 0 0] 32)).alloc (.cells #[.bool b9, .slice A9 n9 c9] 32)) (.agg #[.bool b9, .slice A9 n9 c9]) 1 2 := IsZ.t ⟨_, _, _, _, rfl, (Z9.alloc _).alloc _⟩
        clear hb9 Z9
        go_loopw [10] (fun p wr => ∃ (k : Nat) (b8 : Bool) (A8 : Option Addr) (n8 c8 : Nat) (b9 : Bool) (A9 : Option Addr) (n9 c9 : Nat), k ≤ m ∧ p = .int .i64 k ∧ Bz wr w9.heap.size b8 A8 n8 c8 ∧ IsT wr (.agg #[.bool b8, .slice A8 n8 c8]) (sumZ (ls.take k)) (10 + k) ∧ Bz wr (w9.heap.size + 1) b9 A9 n9 c9 ∧ IsT wr (.agg #[.bool b9, .slice A9 n9 c9]) (prodZ (ls.take k)) (2 + 10 * k) ∧ Below W8.heap.size W8 wr) (fun p _ => m - (intOf p).toNat)
        case atStart => exact ⟨0, false, none, 0, 0, b9, A9, n9, c9, Nat.zero_le _, rfl, P8, IsT.zero _ _, P9, T9, BW⟩
        case round =>
          clear P8 P9 T9 BW
          obtain ⟨k, b8, A8, n8, c8, b9, A9, n9, c9, hk, rfl, P8, T8, P9, T9, BW⟩ := hrel
          by_cases hkm : k < m
          · obtain ⟨g, hAr, hs⟩ := HZ8.out.resolve_left (by omega)
            subst hAr
            obtain ⟨e, he⟩ : ∃ e, ls[k]? = some e := ⟨_, List.getElem?_eq_getElem (by rw [HLen.out]; exact hkm)⟩
            have hes := hs.cell k e he
            have hgl : g < W8.heap.size := World.block_lt_of_cell? W8 _ hes.1
            have Me := hs.zm e (List.mem_of_getElem? he)
            have hsum : sumZ (ls.take (k + 1)) = sumZ (ls.take k) + e.z := by rw [List.take_add_one, he, sumZ_app]; simp [sumZ]
            have hprod : prodZ (ls.take (k + 1)) = prodZ (ls.take k) * e.z := by rw [List.take_add_one, he, prodZ_app]; simp [prodZ]
            rw [show 0 + 2 * k = k * 2 by omega] at hes
            have E0 := Lib.hid hes.1
            have E1 := Lib.hid hes.2
            have HSum := Lib.hid hsum
            have HProd := Lib.hid hprod
            have HMe := Lib.hid Me
            clear hs he hes Me hsum hprod
            have r0 := P8.drew.c0
            have r1 := P8.drew.c1
            have e0 := ((Below.drew BW).cell (p := ⟨g, k * 2, none⟩) hgl).trans E0.out
            have e1 := ((Below.drew BW).cell (p := ⟨g, k * 2 + 1, none⟩) hgl).trans E1.out
            have X := T8.m.below (Below.drew (Below.refl _ _))
            obtain ⟨_, _, _, _, ex, X⟩ := X
            cases ex
            have Y := HMe.out.below (Below.drew BW)
            go_wp2_with fail
            go_region_with (first
              | (go_at_call 16; refine (addZ2 X Y (by omega) (by omega)).mono ?_; rintro e' w1 ⟨b1, A1, n1, c1, rfl, Z, hb1⟩; clear r0 r1 e0 e1; replace P8 := P8.drew.below hb1; replace P9 := P9.drew.below hb1; replace T9 := (T9.below (Below.drew (Below.refl _ _))).below hb1; replace BW := bl_trans (Below.drew BW) hb1; have r0 := P8.c0; have r1 := P8.c1; have f0 := P8.f 0; have f1 := P8.f 1; clear hb1 X Y))
            all_goals
              have st := belU_store (N := W8.heap.size) (t := b1) (B := A1) (m := n1) (d := c1) P8 (by omega)
              have Q1 : IsT ((w1.setCell ⟨w9.heap.size, 0, none⟩ (.bool b1)).setCell ⟨w9.heap.size, 1, none⟩ (.slice A1 n1 c1)) (.agg #[.bool b1, .slice A1 n1 c1]) (sumZ (ls.take (k + 1))) (10 + (k + 1)) := by
                rw [HSum.out]
                exact IsT.mono (IsZ.t (N := _) ⟨_, _, _, _, rfl, Z.belX st.1.x⟩) (by omega)
              replace T9 := T9.belX st.1.x
              replace P9 := P9.st2 (g' := w9.heap.size) (x := .bool b1) (y := .slice A1 n1 c1) (by omega)
              replace P8 := st.2
              replace BW := (BW.setCell (p := ⟨w9.heap.size, 0, none⟩) (by show _ ≤ w9.heap.size; omega) (.bool b1)).setCell (p := ⟨w9.heap.size, 1, none⟩) (by show _ ≤ w9.heap.size; omega) (.slice A1 n1 c1)
              clear st r0 r1 f0 f1 T8 Z
              generalize ((w1.setCell ⟨w9.heap.size, 0, none⟩ (.bool b1)).setCell ⟨w9.heap.size, 1, none⟩ (.slice A1 n1 c1)) = wA at P8 P9 T9 BW Q1 ⊢
              have T8 := Q1
              clear Q1
              have r0 := P9.drew.c0
              have r1 := P9.drew.c1
              have e0 := ((Below.drew BW).cell (p := ⟨g, k * 2, none⟩) hgl).trans E0.out
              have e1 := ((Below.drew BW).cell (p := ⟨g, k * 2 + 1, none⟩) hgl).trans E1.out
              have X := T9.m.below (Below.drew (Below.refl _ _))
              obtain ⟨_, _, _, _, ex, X⟩ := X
              cases ex
              have Y := HMe.out.below (Below.drew BW)
              go_wp2_with fail
              go_region_with (first
                | (go_at_call 20; refine (mulZ2 X Y (by omega) (by omega) (by omega)).mono ?_; rintro e' w1 ⟨b1, A1, n1, c1, rfl, Z, hb1⟩; clear r0 r1 e0 e1; replace P8 := P8.drew.below hb1; replace P9 := P9.drew.below hb1; replace T8 := (T8.below (Below.drew (Below.refl _ _))).below hb1; replace BW := bl_trans (Below.drew BW) hb1; have r0 := P9.c0; have r1 := P9.c1; have f0 := P9.f 0; have f1 := P9.f 1; clear hb1 X Y))
              all_goals
                have st := belU_store (N := W8.heap.size) (t := b1) (B := A1) (m := n1) (d := c1) P9 (by omega)
                have Q1 : IsT ((w1.setCell ⟨w9.heap.size + 1, 0, none⟩ (.bool b1)).setCell ⟨w9.heap.size + 1, 1, none⟩ (.slice A1 n1 c1)) (.agg #[.bool b1, .slice A1 n1 c1]) (prodZ (ls.take (k + 1))) (2 + 10 * (k + 1)) := by
                  rw [HProd.out]
                  exact IsT.mono (IsZ.t (N := _) ⟨_, _, _, _, rfl, Z.belX st.1.x⟩) (by omega)
                replace T8 := T8.belX st.1.x
                replace P8 := P8.st2 (g' := w9.heap.size + 1) (x := .bool b1) (y := .slice A1 n1 c1) (by omega)
                replace P9 := st.2
                replace BW := (BW.setCell (p := ⟨w9.heap.size + 1, 0, none⟩) (by show _ ≤ w9.heap.size + 1; omega) (.bool b1)).setCell (p := ⟨w9.heap.size + 1, 1, none⟩) (by show _ ≤ w9.heap.size + 1; omega) (.slice A1 n1 c1)
                clear st r0 r1 f0 f1 T9 Z
                generalize ((w1.setCell ⟨w9.heap.size + 1, 0, none⟩ (.bool b1)).setCell ⟨w9.heap.size + 1, 1, none⟩ (.slice A1 n1 c1)) = wB at P8 P9 T8 BW Q1 ⊢
                have T9 := Q1
                clear Q1
                go_wp2
                go_roundw
                case rel => exact ⟨k + 1, _, _, _, _, _, _, _, _, by omega, by go_num, P8, T8, P9, T9, BW⟩
                case measure => simp [intOf]; omega
          · obtain rfl : k = m := by omega
            have T8' := T8.mono (show 10 + k ≤ 20 by omega)
            have T9' := T9.mono (show 2 + 10 * k ≤ 80 by omega)
            rw [List.take_of_length_le (by rw [HLen.out]; exact Nat.le_refl _)] at T8' T9'
            have HL9 := HL8.out.below BW
            replace BB := bl_trans BB BW
            clear T8 T9 BW HL8 HZ8
            go_wp2_with fail
            refine wp_region_list (Ext := RB) (Rel := RBu) [fun v _ _ => v = .slice Ar k cr, fun v _ w => IsZ (wr).heap.size w v (sumZ ls) 20, fun v _ w => IsT w v (sumZ ls) 20, fun v _ _ => v = .bool true, fun v _ _ => v = .bool true, fun v _ _ => v = .slice Ar k cr, fun v _ w => IsZ (wr).heap.size w v (prodZ ls) 80, fun v _ w => IsT w v (prodZ ls) 80, fun v _ _ => v = .bool true, fun v _ _ => v = .bool true, fun v _ _ => v = .bool true, fun v _ w => IsT w v (sumZ ls) 20, fun v _ _ => v = .bool true, fun v _ _ => v = .bool true, fun v _ _ => v = .bool true, fun v _ w => IsT w v (prodZ ls) 80, fun v _ _ => v = .bool true, fun v _ _ => v = .bool true, fun v _ _ => v = .bool true] (n := 19) (by kernel_rfl) rfl (by kernel_rfl) (by kernel_rfl) (by kernel_rfl) (by kernel_rfl) (by kernel_rfl) rb_refl rb_trans ⟨sC, ⟨sZ, ⟨sT, ⟨sC, ⟨sC, ⟨sC, ⟨sZ, ⟨sT, ⟨sC, ⟨sC, ⟨sC, ⟨sT, ⟨sC, ⟨sC, ⟨sC, ⟨sT, ⟨sC, ⟨sC, ⟨sC, trivial⟩⟩⟩⟩⟩⟩⟩⟩⟩⟩⟩⟩⟩⟩⟩⟩⟩⟩⟩ ?_ ?_
            · refine ⟨⟨⟨⟨⟨⟨⟨⟨⟨⟨⟨⟨⟨⟨⟨⟨⟨⟨⟨trivial, ?_⟩, ?_⟩, ?_⟩, ?_⟩, ?_⟩, ?_⟩, ?_⟩, ?_⟩, ?_⟩, ?_⟩, ?_⟩, ?_⟩, ?_⟩, ?_⟩, ?_⟩, ?_⟩, ?_⟩, ?_⟩, ?_⟩
              · refine rs_plain rfl rfl fun a wr S => ?_
                have X := undrew S.ext
                exact wp_mv (ev_of ((S.old 1 (by kernel_rfl)).trans rfl)) (done (by kernel_rfl) rbu_refl rfl)
              · refine rs_plain rfl rfl fun a wr S => ?_
                have X := undrew S.ext
                obtain ⟨v0, e0, h0⟩ := S.got 0 (by kernel_rfl)
                exact st_call cf_big_Add (args1 ((ev_of (e0 175 (by kernel_rfl))).trans h0)) (by kernel_rfl) rb (cAddL (HL9.below X) H6.out X.size) (fun _ _ _ h => h)
              · refine rs_plain rfl rfl fun a wr S => ?_
                have X := undrew S.ext
                exact wp_load (ev_of ((S.old 8 (by kernel_rfl)).trans rfl)) (P8.below X) (done (by kernel_rfl) rbu_refl (T8'.below X))
              · refine rs_plain rfl rfl fun a wr S => ?_
                have X := undrew S.ext
                obtain ⟨v1, e1, h1⟩ := S.got 1 (by kernel_rfl)
                obtain ⟨v2, e2, h2⟩ := S.got 2 (by kernel_rfl)
                exact st_call cf_law02_same (args2 (ev_of (e1 176 (by kernel_rfl))) (ev_of (e2 177 (by kernel_rfl)))) (by kernel_rfl) rb (cSame h1.t h2 (by omega) (by omega) (decide_eq_true (rfl))) (fun _ _ _ h => h)
              · refine rs_plain rfl rfl fun a wr S => ?_
                have X := undrew S.ext
                obtain ⟨v3, e3, h3⟩ := S.got 3 (by kernel_rfl)
                exact wp_mv ((ev_of (e3 178 (by kernel_rfl))).trans h3) (done (by kernel_rfl) rbu_refl rfl)
              · refine rs_yes rfl rfl (by kernel_rfl) (by kernel_rfl : _ = some 179) (fun _ _ _ h => h) fun a wr S => ?_
                have X := undrew S.ext
                exact wp_mv (ev_of ((S.old 1 (by kernel_rfl)).trans rfl)) (done (by kernel_rfl) rbu_refl rfl)
              · refine rs_yes rfl rfl (by kernel_rfl) (by kernel_rfl : _ = some 179) (fun _ _ _ h => h) fun a wr S => ?_
                have X := undrew S.ext
                obtain ⟨v5, e5, h5⟩ := S.got 5 (by kernel_rfl)
                exact st_call cf_big_Mul (args1 ((ev_of (e5 180 (by kernel_rfl))).trans h5)) (by kernel_rfl) rb (cMulL (HL9.below X) H6.out X.size) (fun _ _ _ h => h)
              · refine rs_yes rfl rfl (by kernel_rfl) (by kernel_rfl : _ = some 179) (fun _ _ _ h => h) fun a wr S => ?_
                have X := undrew S.ext
                exact wp_load (ev_of ((S.old 9 (by kernel_rfl)).trans rfl)) (P9.below X) (done (by kernel_rfl) rbu_refl (T9'.below X))
              · refine rs_yes rfl rfl (by kernel_rfl) (by kernel_rfl : _ = some 179) (fun _ _ _ h => h) fun a wr S => ?_
                have X := undrew S.ext
                obtain ⟨v6, e6, h6⟩ := S.got 6 (by kernel_rfl)
                obtain ⟨v7, e7, h7⟩ := S.got 7 (by kernel_rfl)
                exact st_call cf_law02_same (args2 (ev_of (e6 181 (by kernel_rfl))) (ev_of (e7 182 (by kernel_rfl)))) (by kernel_rfl) rb (cSame h6.t h7 (by omega) (by omega) (decide_eq_true (rfl))) (fun _ _ _ h => h)
              · refine rs_plain rfl rfl fun a wr S => ?_
                have X := undrew S.ext
                obtain ⟨v4, e4, h4⟩ := S.got 4 (by kernel_rfl)
                obtain ⟨v8, e8, h8⟩ := S.got 8 (by kernel_rfl)
                exact wp_pickT ((ev_of (e4 179 (by kernel_rfl))).trans h4) ((ev_of (e8 183 (by kernel_rfl))).trans h8) (done (by kernel_rfl) rbu_refl rfl)
              · refine rs_plain rfl rfl fun a wr S => ?_
                have X := undrew S.ext
                obtain ⟨v9, e9, h9⟩ := S.got 9 (by kernel_rfl)
                exact wp_mv ((ev_of (e9 184 (by kernel_rfl))).trans h9) (done (by kernel_rfl) rbu_refl rfl)
              · refine rs_yes rfl rfl (by kernel_rfl) (by kernel_rfl : _ = some 185) (fun _ _ _ h => h) fun a wr S => ?_
                have X := undrew S.ext
                exact wp_load (ev_of ((S.old 8 (by kernel_rfl)).trans rfl)) (P8.below X) (done (by kernel_rfl) rbu_refl (T8'.below X))
              · refine rs_yes rfl rfl (by kernel_rfl) (by kernel_rfl : _ = some 185) (fun _ _ _ h => h) fun a wr S => ?_
                have X := undrew S.ext
                obtain ⟨v11, e11, h11⟩ := S.got 11 (by kernel_rfl)
                exact st_call cf_big_Right (args1 (ev_of (e11 186 (by kernel_rfl)))) (by kernel_rfl) rb (cRight h11 (by omega)) (fun _ _ _ h => h)
              · refine rs_plain rfl rfl fun a wr S => ?_
                have X := undrew S.ext
                obtain ⟨v10, e10, h10⟩ := S.got 10 (by kernel_rfl)
                obtain ⟨v12, e12, h12⟩ := S.got 12 (by kernel_rfl)
                exact wp_pickT ((ev_of (e10 185 (by kernel_rfl))).trans h10) ((ev_of (e12 187 (by kernel_rfl))).trans h12) (done (by kernel_rfl) rbu_refl rfl)
              · refine rs_plain rfl rfl fun a wr S => ?_
                have X := undrew S.ext
                obtain ⟨v13, e13, h13⟩ := S.got 13 (by kernel_rfl)
                exact wp_mv ((ev_of (e13 188 (by kernel_rfl))).trans h13) (done (by kernel_rfl) rbu_refl rfl)
              · refine rs_yes rfl rfl (by kernel_rfl) (by kernel_rfl : _ = some 189) (fun _ _ _ h => h) fun a wr S => ?_
                have X := undrew S.ext
                exact wp_load (ev_of ((S.old 9 (by kernel_rfl)).trans rfl)) (P9.below X) (done (by kernel_rfl) rbu_refl (T9'.below X))
              · refine rs_yes rfl rfl (by kernel_rfl) (by kernel_rfl : _ = some 189) (fun _ _ _ h => h) fun a wr S => ?_
                have X := undrew S.ext
                obtain ⟨v15, e15, h15⟩ := S.got 15 (by kernel_rfl)
                exact st_call cf_big_Right (args1 (ev_of (e15 190 (by kernel_rfl)))) (by kernel_rfl) rb (cRight h15 (by omega)) (fun _ _ _ h => h)
              · refine rs_plain rfl rfl fun a wr S => ?_
                have X := undrew S.ext
                obtain ⟨v14, e14, h14⟩ := S.got 14 (by kernel_rfl)
                obtain ⟨v16, e16, h16⟩ := S.got 16 (by kernel_rfl)
                exact wp_pickT ((ev_of (e14 189 (by kernel_rfl))).trans h14) ((ev_of (e16 191 (by kernel_rfl))).trans h16) (done (by kernel_rfl) rbu_refl rfl)
              · refine rs_plain rfl rfl fun a wr S => ?_
                have X := undrew S.ext
                obtain ⟨v17, e17, h17⟩ := S.got 17 (by kernel_rfl)
                exact wp_as ((ev_of (e17 192 (by kernel_rfl))).trans h17) (done (by kernel_rfl) rbu_refl rfl)
            · intro f5_ w5 hR hv
              replace hR := undrew hR
              have f0 : f5_ 0 = .slice Ar k cr := (hvc (hv 0 (by omega))).elim fun _ h => h
              have f3 : f5_ 3 = .bool true := (hvc (hv 3 (by omega))).elim fun _ h => h
              have f4 : f5_ 4 = .bool true := (hvc (hv 4 (by omega))).elim fun _ h => h
              have f5 : f5_ 5 = .slice Ar k cr := (hvc (hv 5 (by omega))).elim fun _ h => h
              have f8 : f5_ 8 = .bool true := (hvc (hv 8 (by omega))).elim fun _ h => h
              have f9 : f5_ 9 = .bool true := (hvc (hv 9 (by omega))).elim fun _ h => h
              have f10 : f5_ 10 = .bool true := (hvc (hv 10 (by omega))).elim fun _ h => h
              have f12 : f5_ 12 = .bool true := (hvc (hv 12 (by omega))).elim fun _ h => h
              have f13 : f5_ 13 = .bool true := (hvc (hv 13 (by omega))).elim fun _ h => h
              have f14 : f5_ 14 = .bool true := (hvc (hv 14 (by omega))).elim fun _ h => h
              have f16 : f5_ 16 = .bool true := (hvc (hv 16 (by omega))).elim fun _ h => h
              have f17 : f5_ 17 = .bool true := (hvc (hv 17 (by omega))).elim fun _ h => h
              have f18 : f5_ 18 = .bool true := (hvc (hv 18 (by omega))).elim fun _ h => h
              simp only [putFn, Act.put, List.setIfInBounds_toArray, List.set_cons_zero, List.set_cons_succ, f0, f3, f4, f5, f8, f9, f10, f12, f13, f14, f16, f17, f18]
              replace P8 := P8.below hR
              replace P9 := P9.below hR
              replace T8' := T8'.below hR
              replace T9' := T9'.below hR
              replace BB := bl_trans BB hR
              clear hR
              clear hv
              go_wp2_with fail
              go_ret
              exact ⟨rfl, BB⟩
theorem bigRing_walk (sa : Bool) (Aa : Option Addr) (na ca : Nat) (xa : List Nat) (sb : Bool) (Ab : Option Addr) (nb cb : Nat) (xb : List Nat) (sc : Bool) (Ac : Option Addr) (nc cc : Nat) (xc : List Nat) (Al : Option Addr) (nl cl : Nat) (es : List IE) (w : World) (ha : Rd w Aa na ca xa) (ma : na ≤ maxLen) (hb : Rd w Ab nb cb xb) (mb : nb ≤ maxLen) (hc : Rd w Ac nc cc xc) (mc : nc ≤ maxLen) (hL : IRow w Al nl cl es) (hM : nl ≤ maxLen) : Calls Try.prog 7 #[.agg #[.bool sa, .slice Aa na ca, .bool sb, .slice Ab nb cb, .bool sc, .slice Ac nc cc], .slice Al nl cl] w fun e w' => e = .returned (.bool true) ∧ Below w.heap.size w w' := by
  have Ma : IsM (w.alloc (.cells #[.bool sa, .slice Aa na ca, .bool sb, .slice Ab nb cb, .bool sc, .slice Ac nc cc] 59)) (.agg #[.bool sa, .slice Aa (min na 10) ca]) _ 10 := ⟨_, _, _, _, rfl, (few_zm (s := sa) ha 10).alloc _⟩
  have Mb : IsM (w.alloc (.cells #[.bool sa, .slice Aa na ca, .bool sb, .slice Ab nb cb, .bool sc, .slice Ac nc cc] 59)) (.agg #[.bool sb, .slice Ab (min nb 10) cb]) _ 10 := ⟨_, _, _, _, rfl, (few_zm (s := sb) hb 10).alloc _⟩
  have Mc : IsM (w.alloc (.cells #[.bool sa, .slice Aa na ca, .bool sb, .slice Ab nb cb, .bool sc, .slice Ac nc cc] 59)) (.agg #[.bool sc, .slice Ac (min nc 10) cc]) _ 10 := ⟨_, _, _, _, rfl, (few_zm (s := sc) hc 10).alloc _⟩
  exact bigRing_in sa Aa na ca xa sb Ab nb cb xb sc Ac nc cc xc Al nl cl es _ _ _ w (Lib.hid ha) (Lib.hid ma) (Lib.hid hb) (Lib.hid mb) (Lib.hid hc) (Lib.hid mc) (Lib.hid hL) (Lib.hid hM) (bl_alloc w _) (Ar.new w _ _) Ma Mb Mc

end Go.Proofs.Ythjgonfohjgfaaa
