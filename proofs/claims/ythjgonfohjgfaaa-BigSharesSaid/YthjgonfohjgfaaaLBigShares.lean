/- litmuslaw02.BigShares answers true at every input, and changes nothing that was there: its walk. -/
import Derived.Test.YthjgonfohjgfaaaZShare
namespace Go.Proofs.Ythjgonfohjgfaaa
open Go.RowKit
set_option linter.unusedVariables false
set_option maxRecDepth 100000

set_option maxHeartbeats 8000000 in
theorem bigShares_in (sa : Bool) (Aa : Option Addr) (na ca : Nat) (xa : List Nat) (sb : Bool) (Ab : Option Addr) (nb cb : Nat) (xs : List Nat) (za zb : Int) (w : World) (Ha : Hid (Rd w Aa na ca xa)) (Hb : Hid (Rd w Ab nb cb xs)) (Ga : Hid (na ≤ maxLen)) (Gb : Hid (nb ≤ maxLen)) (HZa : Hid (za = zv sa (M.val (xa.take (min na 8))))) (HZb : Hid (zb = zv sb (M.val (xs.take (min nb 8))))) :
    Calls Try.prog 8 #[.agg #[.bool sa, .slice Aa na ca], .agg #[.bool sb, .slice Ab nb cb]] w fun e w' => e = .returned (.bool true) ∧ Below w.heap.size w w' := by
  have Pa := (Bz.new w sa Aa na ca).alloc (.cells #[.bool sb, .slice Ab nb cb] 32)
  have Pb := Bz.new2 w (.cells #[.bool sa, .slice Aa na ca] 32) sb Ab nb cb
  have BB := bl_trans (bl_alloc w (.cells #[.bool sa, .slice Aa na ca] 32)) (bl_alloc _ (.cells #[.bool sb, .slice Ab nb cb] 32))
  have HA := Ha
  have HB := Hb
  go_enter Try.func8, Try.ntmps8
  go_wp2_with fail
  refine (cWorks _).mono ?_
  rintro e w1 ⟨_, rfl, hb1, rfl⟩
  replace Pa := Pa.below hb1
  replace Pb := Pb.below hb1
  replace BB := bl_trans BB hb1
  clear hb1
  have Fa := Lib.hid (show ∀ W, Below w.heap.size w W → Calls Try.prog 13 #[.agg #[.bool sa, .slice Aa na ca], .int .i64 8] W (Ans W fun _ v => v = .agg #[.bool sa, .slice Aa (min na 8) ca]) from fun W h => cFew (Ha.out.below h) Ga.out 8 _ rfl (by omega))
  have Fb := Lib.hid (show ∀ W, Below w.heap.size w W → Calls Try.prog 13 #[.agg #[.bool sb, .slice Ab nb cb], .int .i64 8] W (Ans W fun _ v => v = .agg #[.bool sb, .slice Ab (min nb 8) cb]) from fun W h => cFew (Hb.out.below h) Gb.out 8 _ rfl (by omega))
  have Pa_0 := Pa.c0
  have Pa_1 := Pa.c1
  have Pb_0 := Pb.c0
  have Pb_1 := Pb.c1
  go_wp2_with fail
  go_region_with (first
    | (go_at_call 13; ((with_reducible refine (Fa.out _ (Below.drew BB)).mono ?_); rintro e wf ⟨_, rfl, hf, rfl⟩; replace BB := bl_trans (Below.drew BB) hf; replace Pa := (Pa.drew).below hf; replace Pb := (Pb.drew).below hf; have Pa_2 := Pa.c0; have Pa_3 := Pa.c1; have Pb_2 := Pb.c0; have Pb_3 := Pb.c1; clear hf))
    | (go_at_call 13; ((with_reducible refine (Fb.out _ BB).mono ?_); rintro e wg ⟨_, rfl, hf, rfl⟩; replace BB := bl_trans BB hf; replace Pa := Pa.below hf; replace Pb := Pb.below hf; have Pa_4 := Pa.c0; have Pa_5 := Pa.c1; have Pb_4 := Pb.c0; have Pb_5 := Pb.c1; have Pa_6 := Pa.f 0; have Pa_7 := Pa.f 1; have Pb_6 := Pb.f 0; have Pb_7 := Pb.f 1; clear hf)))
  all_goals
    have st := two_store (s := sa) (A := Aa) (n := min na 8) (c := ca) (t := sb) (B := Ab) (m := min nb 8) (d := cb) Pa Pb (by omega) BB (Nat.le_refl _) (by omega)
    clear Pa_0 Pa_1 Pb_0 Pb_1 Pa_2 Pa_3 Pb_2 Pb_3 Pa_4 Pa_5 Pb_4 Pb_5 Pa_6 Pa_7 Pb_6 Pb_7
    replace Pa := st.1
    replace Pb := st.2.1
    replace BB := st.2.2
    clear st
    have Qa : IsM ((((wg.setCell ⟨w.heap.size, 0, none⟩ (.bool sa)).setCell ⟨w.heap.size, 1, none⟩ (.slice Aa (min na 8) ca)).setCell ⟨w.heap.size + 1, 0, none⟩ (.bool sb)).setCell ⟨w.heap.size + 1, 1, none⟩ (.slice Ab (min nb 8) cb)) (.agg #[.bool sa, .slice Aa (min na 8) ca]) za 8 := ⟨_, _, _, _, rfl, by rw [HZa.out]; exact few_zm (Ha.out.below BB) 8⟩
    have Qb : IsM ((((wg.setCell ⟨w.heap.size, 0, none⟩ (.bool sa)).setCell ⟨w.heap.size, 1, none⟩ (.slice Aa (min na 8) ca)).setCell ⟨w.heap.size + 1, 0, none⟩ (.bool sb)).setCell ⟨w.heap.size + 1, 1, none⟩ (.slice Ab (min nb 8) cb)) (.agg #[.bool sb, .slice Ab (min nb 8) cb]) zb 8 := ⟨_, _, _, _, rfl, by rw [HZb.out]; exact few_zm (Hb.out.below BB) 8⟩
    generalize ((((wg.setCell ⟨w.heap.size, 0, none⟩ (.bool sa)).setCell ⟨w.heap.size, 1, none⟩ (.slice Aa (min na 8) ca)).setCell ⟨w.heap.size + 1, 0, none⟩ (.bool sb)).setCell ⟨w.heap.size + 1, 1, none⟩ (.slice Ab (min nb 8) cb)) = wh at Pa Pb BB Qa Qb ⊢
    clear Ha Hb Ga Gb HZa HZb Fa Fb
    have hna : min na 8 ≤ 8 := Nat.min_le_right _ _
    have hnb : min nb 8 ≤ 8 := Nat.min_le_right _ _
    have Ra := (HA.out.below BB).take (m := min na 8) (Nat.min_le_left _ _)
    have Rb := (HB.out.below BB).take (m := min nb 8) (Nat.min_le_left _ _)
    obtain ⟨ya, hya⟩ : ∃ l, l = xa.take (min na 8) := ⟨_, rfl⟩
    obtain ⟨yb, hyb⟩ : ∃ l, l = xs.take (min nb 8) := ⟨_, rfl⟩
    rw [← hya] at Ra
    rw [← hyb] at Rb
    clear HA HB hya hyb Qa Qb
    generalize min na 8 = ma at Ra Pa hna ⊢
    generalize min nb 8 = mb at Rb Pb hnb ⊢
    go_wp2_with fail
    refine wp_region_list (Ext := (BelX (wh).heap.size)) (Rel := (BelU (wh).heap.size)) [fun v _ _ => v = .pointer (some ⟨w.heap.size, 0, none⟩), fun v _ _ => v = .bool sa, fun v _ w => IsE (wh).heap.size w v, fun v _ _ => v = .pointer (some ⟨w.heap.size, 1, none⟩), fun v _ _ => v = .slice Aa ma ca, fun v _ w => IsA (wh).heap.size w v (ma) (ya), fun v _ w => IsO (wh).heap.size w v sa (ma) (ya), fun v _ _ => v = .pointer (some ⟨(w.heap.size + 1), 0, none⟩), fun v _ _ => v = .bool sb, fun v _ w => IsE (wh).heap.size w v, fun v _ _ => v = .pointer (some ⟨(w.heap.size + 1), 1, none⟩), fun v _ _ => v = .slice Ab mb cb, fun v _ w => IsA (wh).heap.size w v (mb) (yb), fun v _ w => IsO (wh).heap.size w v sb (mb) (yb), fun v _ w => IsP (wh).heap.size v w, fun v _ w => IsP (wh).heap.size v w, fun _ u w => HasO (wh).heap.size u w sa (ma) (ya), fun _ u w => HasO (wh).heap.size u w sb (mb) (yb)] (n := 18) (by kernel_rfl) rfl (by kernel_rfl) (by kernel_rfl) (by kernel_rfl) (by kernel_rfl) (by kernel_rfl) (rx_refl _) (rxu_trans _) ⟨sC, ⟨sC, ⟨xE, ⟨sC, ⟨sC, ⟨xA, ⟨xO, ⟨sC, ⟨sC, ⟨xE, ⟨sC, ⟨sC, ⟨xA, ⟨xO, ⟨xP, ⟨xP, ⟨xHO, ⟨xHO, trivial⟩⟩⟩⟩⟩⟩⟩⟩⟩⟩⟩⟩⟩⟩⟩⟩⟩⟩ ?_ ?_
    · refine ⟨⟨⟨⟨⟨⟨⟨⟨⟨⟨⟨⟨⟨⟨⟨⟨⟨⟨trivial, ?_⟩, ?_⟩, ?_⟩, ?_⟩, ?_⟩, ?_⟩, ?_⟩, ?_⟩, ?_⟩, ?_⟩, ?_⟩, ?_⟩, ?_⟩, ?_⟩, ?_⟩, ?_⟩, ?_⟩, ?_⟩
      · refine rs_plain rfl rfl fun a wr S => ?_
        have X := undrewX S.ext
        exact wp_field0 (ev_of ((S.old 2 (by kernel_rfl)).trans rfl)) (done (by kernel_rfl) (rxu_refl _) rfl)
      · refine rs_plain rfl rfl fun a wr S => ?_
        have X := undrewX S.ext
        obtain ⟨v0, e0, h0⟩ := S.got 0 (by kernel_rfl)
        exact wp_loadB ((ev_of (e0 20 (by kernel_rfl))).trans h0) (Pa.below X) (done (by kernel_rfl) (rxu_refl _) rfl)
      · refine rs_plain rfl rfl fun a wr S => ?_
        have X := undrewX S.ext
        exact wp_bsE (done' (by kernel_rfl) ((rxu _) _ _ _ (bl_alloc _ _)) ⟨_, rfl, OwK.lit0 X.size⟩)
      · refine rs_plain rfl rfl fun a wr S => ?_
        have X := undrewX S.ext
        exact wp_field1 (ev_of ((S.old 2 (by kernel_rfl)).trans rfl)) (done (by kernel_rfl) (rxu_refl _) rfl)
      · refine rs_plain rfl rfl fun a wr S => ?_
        have X := undrewX S.ext
        obtain ⟨v3, e3, h3⟩ := S.got 3 (by kernel_rfl)
        exact wp_loadM ((ev_of (e3 23 (by kernel_rfl))).trans h3) (Pa.below X) (done (by kernel_rfl) (rxu_refl _) rfl)
      · refine rs_plain rfl rfl fun a wr S => ?_
        have X := undrewX S.ext
        obtain ⟨v2, e2, h2⟩ := S.got 2 (by kernel_rfl)
        obtain ⟨v4, e4, h4⟩ := S.got 4 (by kernel_rfl)
        exact st_app0 (by kernel_rfl) (ev_of (e2 22 (by kernel_rfl))) ((ev_of (e4 24 (by kernel_rfl))).trans h4) h2 (Ra.below X) (by omega) X.size (fun _ _ _ h => h)
      · refine rs_plain rfl rfl fun a wr S => ?_
        have X := undrewX S.ext
        obtain ⟨v1, e1, h1⟩ := S.got 1 (by kernel_rfl)
        obtain ⟨v5, e5, h5⟩ := S.got 5 (by kernel_rfl)
        obtain ⟨AA, cc, hvv, OO⟩ := (show IsA _ wr _ _ _ from h5)
        exact wp_bI ((ev_of (e1 21 (by kernel_rfl))).trans h1) ((ev_of (e5 25 (by kernel_rfl))).trans hvv) (done (by kernel_rfl) (rxu_refl _) ⟨_, _, rfl, OO⟩)
      · refine rs_plain rfl rfl fun a wr S => ?_
        have X := undrewX S.ext
        exact wp_field0 (ev_of ((S.old 3 (by kernel_rfl)).trans rfl)) (done (by kernel_rfl) (rxu_refl _) rfl)
      · refine rs_plain rfl rfl fun a wr S => ?_
        have X := undrewX S.ext
        obtain ⟨v7, e7, h7⟩ := S.got 7 (by kernel_rfl)
        exact wp_loadB ((ev_of (e7 27 (by kernel_rfl))).trans h7) (Pb.below X) (done (by kernel_rfl) (rxu_refl _) rfl)
      · refine rs_plain rfl rfl fun a wr S => ?_
        have X := undrewX S.ext
        exact wp_bsE (done' (by kernel_rfl) ((rxu _) _ _ _ (bl_alloc _ _)) ⟨_, rfl, OwK.lit0 X.size⟩)
      · refine rs_plain rfl rfl fun a wr S => ?_
        have X := undrewX S.ext
        exact wp_field1 (ev_of ((S.old 3 (by kernel_rfl)).trans rfl)) (done (by kernel_rfl) (rxu_refl _) rfl)
      · refine rs_plain rfl rfl fun a wr S => ?_
        have X := undrewX S.ext
        obtain ⟨v10, e10, h10⟩ := S.got 10 (by kernel_rfl)
        exact wp_loadM ((ev_of (e10 30 (by kernel_rfl))).trans h10) (Pb.below X) (done (by kernel_rfl) (rxu_refl _) rfl)
      · refine rs_plain rfl rfl fun a wr S => ?_
        have X := undrewX S.ext
        obtain ⟨v9, e9, h9⟩ := S.got 9 (by kernel_rfl)
        obtain ⟨v11, e11, h11⟩ := S.got 11 (by kernel_rfl)
        exact st_app0 (by kernel_rfl) (ev_of (e9 29 (by kernel_rfl))) ((ev_of (e11 31 (by kernel_rfl))).trans h11) h9 (Rb.below X) (by omega) X.size (fun _ _ _ h => h)
      · refine rs_plain rfl rfl fun a wr S => ?_
        have X := undrewX S.ext
        obtain ⟨v8, e8, h8⟩ := S.got 8 (by kernel_rfl)
        obtain ⟨v12, e12, h12⟩ := S.got 12 (by kernel_rfl)
        obtain ⟨AA, cc, hvv, OO⟩ := (show IsA _ wr _ _ _ from h12)
        exact wp_bI ((ev_of (e8 28 (by kernel_rfl))).trans h8) ((ev_of (e12 32 (by kernel_rfl))).trans hvv) (done (by kernel_rfl) (rxu_refl _) ⟨_, _, rfl, OO⟩)
      · refine rs_plain rfl rfl fun a wr S => ?_
        have X := undrewX S.ext
        refine st_alloc X.size (fun _ _ _ h => h) fun j vj u hj hs => ?_
        have hj' : j ∈ [14, 15] := alloc_cases (by kernel_rfl) j hj
        simp only [List.mem_cons, List.not_mem_nil, or_false] at hj'
        rcases hj' with rfl | rfl <;> exact hs
      · refine rs_plain rfl rfl fun a wr S => ?_
        have X := undrewX S.ext
        refine st_alloc X.size (fun _ _ _ h => h) fun j vj u hj hs => ?_
        have hj' : j ∈ [14, 15] := alloc_cases (by kernel_rfl) j hj
        simp only [List.mem_cons, List.not_mem_nil, or_false] at hj'
        rcases hj' with rfl | rfl <;> exact hs
      · refine rs_plain rfl rfl fun a wr S => ?_
        have X := undrewX S.ext
        obtain ⟨v14, e14, h14⟩ := S.got 14 (by kernel_rfl)
        obtain ⟨v6, e6, h6⟩ := S.got 6 (by kernel_rfl)
        exact st_storeO (by kernel_rfl) (by kernel_rfl) (ev_of (e14 5 (by kernel_rfl))) h14 (ev_of (e6 26 (by kernel_rfl))) h6 (fun _ _ _ h => h)
      · refine rs_plain rfl rfl fun a wr S => ?_
        have X := undrewX S.ext
        obtain ⟨v15, e15, h15⟩ := S.got 15 (by kernel_rfl)
        obtain ⟨v13, e13, h13⟩ := S.got 13 (by kernel_rfl)
        exact st_storeO (by kernel_rfl) (by kernel_rfl) (ev_of (e15 6 (by kernel_rfl))) h15 (ev_of (e13 33 (by kernel_rfl))) h13 (fun _ _ _ h => h)
    · intro fa w4 hR hv
      replace hR := undrewX hR
      have f0 : fa 0 = .pointer (some ⟨w.heap.size, 0, none⟩) := (hvc (hv 0 (by omega))).elim fun _ h => h
      have f1 : fa 1 = .bool sa := (hvc (hv 1 (by omega))).elim fun _ h => h
      have f3 : fa 3 = .pointer (some ⟨w.heap.size, 1, none⟩) := (hvc (hv 3 (by omega))).elim fun _ h => h
      have f4 : fa 4 = .slice Aa ma ca := (hvc (hv 4 (by omega))).elim fun _ h => h
      have f7 : fa 7 = .pointer (some ⟨(w.heap.size + 1), 0, none⟩) := (hvc (hv 7 (by omega))).elim fun _ h => h
      have f8 : fa 8 = .bool sb := (hvc (hv 8 (by omega))).elim fun _ h => h
      have f10 : fa 10 = .pointer (some ⟨(w.heap.size + 1), 1, none⟩) := (hvc (hv 10 (by omega))).elim fun _ h => h
      have f11 : fa 11 = .slice Ab mb cb := (hvc (hv 11 (by omega))).elim fun _ h => h
      obtain ⟨gx, Ax, cx, f14, hgx, Px, Ox⟩ := (show HasO _ (fa 14) w4 sa (ma) (ya) from hvs (hv 16 (by omega)) (by kernel_rfl))
      obtain ⟨gy, Ay, cy, f15, hgy, Py, Oy⟩ := (show HasO _ (fa 15) w4 sb (mb) (yb) from hvs (hv 17 (by omega)) (by kernel_rfl))
      simp only [putFn, Act.put, List.setIfInBounds_toArray, List.set_cons_zero, List.set_cons_succ, f0, f1, f3, f4, f7, f8, f10, f11, f14, f15]
      replace BB := bl_trans BB hR
      replace Pa := Pa.below hR
      replace Pb := Pb.below hR
      replace Ra := Ra.below hR
      replace Rb := Rb.below hR
      have Rx := Ox.rd
      have Ry := Oy.rd
      clear hR hv hgx hgy Ox Oy
      have Qx : IsM w4 (.agg #[.bool sa, .slice Ax ma cx]) (zv sa (M.val ya)) 8 := ⟨_, _, _, _, rfl, ⟨_, ⟨⟨_, Rx, rfl⟩, hna⟩, rfl⟩⟩
      have Qy : IsM w4 (.agg #[.bool sb, .slice Ay mb cy]) (zv sb (M.val yb)) 8 := ⟨_, _, _, _, rfl, ⟨_, ⟨⟨_, Ry, rfl⟩, hnb⟩, rfl⟩⟩
      have Nx : Nm w4 Ax ma cx (M.val ya) 8 := ⟨⟨_, Rx, rfl⟩, hna⟩
      have LX := Lib.hid (show ∀ p, Ax = some p → 0 < ma → p.block < w4.heap.size from fun p hp hn => Rx.blk hn hp)
      have LY := Lib.hid (show ∀ p, Ay = some p → 0 < mb → p.block < w4.heap.size from fun p hp hn => Ry.blk hn hp)
      have LA := Lib.hid (show ∀ p, Aa = some p → 0 < ma → p.block < w4.heap.size from fun p hp hn => Ra.blk hn hp)
      have LB := Lib.hid (show ∀ p, Ab = some p → 0 < mb → p.block < w4.heap.size from fun p hp hn => Rb.blk hn hp)
      have G2 := Lib.hid Pa.lt
      have G3 := Lib.hid Pb.lt
      have G5 := Lib.hid Px.lt
      have G6 := Lib.hid Py.lt
      have LW := Lib.hid BB.size
      have S4 : Sz w4 w4 := Below.refl _ _
      have Px_0 := Px.c0
      have Px_1 := Px.c1
      have Py_0 := Py.c0
      have Py_1 := Py.c1
      go_wp2_with fail
      refine (cDivO Qx Qy (by omega) (by omega) (Nat.le_refl _)).mono ?_
      rintro e w5 ⟨_, rfl, hb5, bq, Aq, nq, cq, oq, rfl, Uq⟩
      clear Px_0 Px_1 Py_0 Py_1
      replace Pa := Pa.below hb5
      replace Pb := Pb.below hb5
      replace Px := Px.below hb5
      replace Py := Py.below hb5
      replace Ra := Ra.below hb5
      replace Rb := Rb.below hb5
      replace Rx := Rx.below hb5
      replace Ry := Ry.below hb5
      replace Qx := Qx.below hb5
      replace Qy := Qy.below hb5
      replace Nx := Nx.below hb5
      replace S4 := S4.below hb5
      replace BB := bl_trans BB hb5
      clear hb5
      have P7 := Bz.new w5 bq Aq nq cq
      have Q7 : IsW0 w4.heap.size (w5.alloc (.cells #[.bool bq, .slice Aq nq cq] 32)) (.agg #[.bool bq, .slice Aq nq cq]) := ⟨_, _, _, _, rfl, Uq.below (bl_alloc w5 _)⟩
      clear Uq
      replace Pa := Pa.below (bl_alloc w5 (.cells #[.bool bq, .slice Aq nq cq] 32))
      replace Pb := Pb.below (bl_alloc w5 (.cells #[.bool bq, .slice Aq nq cq] 32))
      replace Px := Px.below (bl_alloc w5 (.cells #[.bool bq, .slice Aq nq cq] 32))
      replace Py := Py.below (bl_alloc w5 (.cells #[.bool bq, .slice Aq nq cq] 32))
      replace Ra := Ra.below (bl_alloc w5 (.cells #[.bool bq, .slice Aq nq cq] 32))
      replace Rb := Rb.below (bl_alloc w5 (.cells #[.bool bq, .slice Aq nq cq] 32))
      replace Rx := Rx.below (bl_alloc w5 (.cells #[.bool bq, .slice Aq nq cq] 32))
      replace Ry := Ry.below (bl_alloc w5 (.cells #[.bool bq, .slice Aq nq cq] 32))
      replace Qx := Qx.below (bl_alloc w5 (.cells #[.bool bq, .slice Aq nq cq] 32))
      replace Qy := Qy.below (bl_alloc w5 (.cells #[.bool bq, .slice Aq nq cq] 32))
      replace Nx := Nx.below (bl_alloc w5 (.cells #[.bool bq, .slice Aq nq cq] 32))
      replace S4 := S4.below (bl_alloc w5 (.cells #[.bool bq, .slice Aq nq cq] 32))
      replace BB := bl_trans BB (bl_alloc w5 (.cells #[.bool bq, .slice Aq nq cq] 32))
      have Px_0 := Px.c0
      have Px_1 := Px.c1
      have Py_0 := Py.c0
      have Py_1 := Py.c1
      go_wp2_with fail
      refine (cModO (N := w4.heap.size) Qx Qy (by omega) (by omega) S4.size).mono ?_
      rintro e w6 ⟨_, rfl, hb6, br, Ar, nr, cr, or, rfl, Ur⟩
      clear Px_0 Px_1 Py_0 Py_1
      replace Pa := Pa.below hb6
      replace Pb := Pb.below hb6
      replace Px := Px.below hb6
      replace Py := Py.below hb6
      replace Ra := Ra.below hb6
      replace Rb := Rb.below hb6
      replace Rx := Rx.below hb6
      replace Ry := Ry.below hb6
      replace Qx := Qx.below hb6
      replace Qy := Qy.below hb6
      replace Nx := Nx.below hb6
      replace S4 := S4.below hb6
      replace P7 := P7.below hb6
      replace Q7 := Q7.below hb6
      replace BB := bl_trans BB hb6
      clear hb6
      have P9 := Bz.new w6 br Ar nr cr
      have Q9 : IsW0 w4.heap.size (w6.alloc (.cells #[.bool br, .slice Ar nr cr] 32)) (.agg #[.bool br, .slice Ar nr cr]) := ⟨_, _, _, _, rfl, Ur.below (bl_alloc w6 _)⟩
      clear Ur
      replace Pa := Pa.below (bl_alloc w6 (.cells #[.bool br, .slice Ar nr cr] 32))
      replace Pb := Pb.below (bl_alloc w6 (.cells #[.bool br, .slice Ar nr cr] 32))
      replace Px := Px.below (bl_alloc w6 (.cells #[.bool br, .slice Ar nr cr] 32))
      replace Py := Py.below (bl_alloc w6 (.cells #[.bool br, .slice Ar nr cr] 32))
      replace Ra := Ra.below (bl_alloc w6 (.cells #[.bool br, .slice Ar nr cr] 32))
      replace Rb := Rb.below (bl_alloc w6 (.cells #[.bool br, .slice Ar nr cr] 32))
      replace Rx := Rx.below (bl_alloc w6 (.cells #[.bool br, .slice Ar nr cr] 32))
      replace Ry := Ry.below (bl_alloc w6 (.cells #[.bool br, .slice Ar nr cr] 32))
      replace Qx := Qx.below (bl_alloc w6 (.cells #[.bool br, .slice Ar nr cr] 32))
      replace Qy := Qy.below (bl_alloc w6 (.cells #[.bool br, .slice Ar nr cr] 32))
      replace Nx := Nx.below (bl_alloc w6 (.cells #[.bool br, .slice Ar nr cr] 32))
      replace S4 := S4.below (bl_alloc w6 (.cells #[.bool br, .slice Ar nr cr] 32))
      replace P7 := P7.below (bl_alloc w6 (.cells #[.bool br, .slice Ar nr cr] 32))
      replace Q7 := Q7.below (bl_alloc w6 (.cells #[.bool br, .slice Ar nr cr] 32))
      replace BB := bl_trans BB (bl_alloc w6 (.cells #[.bool br, .slice Ar nr cr] 32))
      have HN := Lib.hid S4.size
      go_wp2_with fail
      refine wp_region_list (Ext := RB) (Rel := RBu) [fun v _ _ => v = .pointer (some ⟨gx, 0, none⟩), fun v _ _ => v = .bool sa, fun v _ _ => v = .pointer (some ⟨gx, 1, none⟩), fun v _ _ => v = .slice Ax ma cx, fun v _ w => IsZ ((w6.alloc (.cells #[.bool br, .slice Ar nr cr] 32))).heap.size w v (zv sa (M.val ya)) 8, fun v _ _ => v = .agg #[.bool sa, .slice Ax ma cx], fun v _ w => IsZ ((w6.alloc (.cells #[.bool br, .slice Ar nr cr] 32))).heap.size w v (-(zv sa (M.val ya))) 8, fun v _ _ => v = .agg #[.bool sa, .slice Ax ma cx], fun v _ w => IsR1 w v (zv sa (M.val ya)) 8, fun v _ w => IsZ ((w6.alloc (.cells #[.bool br, .slice Ar nr cr] 32))).heap.size w v (zv sa (M.val ya)) 9, fun v _ _ => v = .agg #[.bool sa, .slice Ax ma cx], fun v _ _ => v = .agg #[.bool sb, .slice Ay mb cy], fun v _ w => IsR2 w v (zv sa (M.val ya)) 8 (zv sb (M.val yb)) 8, fun v _ w => IsZ ((w6.alloc (.cells #[.bool br, .slice Ar nr cr] 32))).heap.size w v ((zv sa (M.val ya)) + (zv sb (M.val yb))) 9, fun v _ _ => v = .agg #[.bool sa, .slice Ax ma cx], fun v _ w => IsT w v (0) 0, fun v _ w => IsR2 w v (zv sa (M.val ya)) 8 (0) 0, fun v _ w => IsZ ((w6.alloc (.cells #[.bool br, .slice Ar nr cr] 32))).heap.size w v ((zv sa (M.val ya)) + 0) 9, fun v _ _ => v = .agg #[.bool sa, .slice Ax ma cx], fun v _ w => IsR1 w v (zv sa (M.val ya)) 8, fun v _ w => IsZ ((w6.alloc (.cells #[.bool br, .slice Ar nr cr] 32))).heap.size w v (zv sa (M.val ya)) 10, fun v _ _ => v = .agg #[.bool sa, .slice Ax ma cx], fun v _ _ => v = .agg #[.bool sb, .slice Ay mb cy], fun v _ w => IsR2 w v (zv sa (M.val ya)) 8 (zv sb (M.val yb)) 8, fun v _ w => IsZ ((w6.alloc (.cells #[.bool br, .slice Ar nr cr] 32))).heap.size w v ((zv sa (M.val ya)) * (zv sb (M.val yb))) 16, fun v _ _ => v = .agg #[.bool sa, .slice Ax ma cx], fun v _ w => IsZ ((w6.alloc (.cells #[.bool br, .slice Ar nr cr] 32))).heap.size w v (1) 2, fun v _ w => IsR2 w v (zv sa (M.val ya)) 8 (1) 2, fun v _ w => IsZ ((w6.alloc (.cells #[.bool br, .slice Ar nr cr] 32))).heap.size w v ((zv sa (M.val ya)) * 1) 10, fun v _ _ => v = .agg #[.bool sa, .slice Ax ma cx], fun v _ _ => v = .agg #[.bool sb, .slice Ay mb cy], fun v _ w => IsZ ((w6.alloc (.cells #[.bool br, .slice Ar nr cr] 32))).heap.size w v ((zv sa (M.val ya)) - (zv sb (M.val yb))) 9, fun v _ _ => v = .agg #[.bool sa, .slice Ax ma cx], fun v _ w => IsT w v (0) 0, fun v _ w => IsZ ((w6.alloc (.cells #[.bool br, .slice Ar nr cr] 32))).heap.size w v ((zv sa (M.val ya)) - 0) 9, fun v _ w => IsW0 w4.heap.size w v, fun v _ w => IsW0 w4.heap.size w v, fun v _ w => IsR12 w4.heap.size w v, fun v _ w => IsR12 w4.heap.size w v] (n := 39) (by kernel_rfl) rfl (by kernel_rfl) (by kernel_rfl) (by kernel_rfl) (by kernel_rfl) (by kernel_rfl) rb_refl rb_trans ⟨sC, ⟨sC, ⟨sC, ⟨sC, ⟨sZ, ⟨sC, ⟨sZ, ⟨sC, ⟨sR1, ⟨sZ, ⟨sC, ⟨sC, ⟨sR2, ⟨sZ, ⟨sC, ⟨sT, ⟨sR2, ⟨sZ, ⟨sC, ⟨sR1, ⟨sZ, ⟨sC, ⟨sC, ⟨sR2, ⟨sZ, ⟨sC, ⟨sZ, ⟨sR2, ⟨sZ, ⟨sC, ⟨sC, ⟨sZ, ⟨sC, ⟨sT, ⟨sZ, ⟨sW0, ⟨sW0, ⟨sR12, ⟨sR12, trivial⟩⟩⟩⟩⟩⟩⟩⟩⟩⟩⟩⟩⟩⟩⟩⟩⟩⟩⟩⟩⟩⟩⟩⟩⟩⟩⟩⟩⟩⟩⟩⟩⟩⟩⟩⟩⟩⟩⟩ ?_ ?_
      · refine ⟨⟨⟨⟨⟨⟨⟨⟨⟨⟨⟨⟨⟨⟨⟨⟨⟨⟨⟨⟨⟨⟨⟨⟨⟨⟨⟨⟨⟨⟨⟨⟨⟨⟨⟨⟨⟨⟨⟨trivial, ?_⟩, ?_⟩, ?_⟩, ?_⟩, ?_⟩, ?_⟩, ?_⟩, ?_⟩, ?_⟩, ?_⟩, ?_⟩, ?_⟩, ?_⟩, ?_⟩, ?_⟩, ?_⟩, ?_⟩, ?_⟩, ?_⟩, ?_⟩, ?_⟩, ?_⟩, ?_⟩, ?_⟩, ?_⟩, ?_⟩, ?_⟩, ?_⟩, ?_⟩, ?_⟩, ?_⟩, ?_⟩, ?_⟩, ?_⟩, ?_⟩, ?_⟩, ?_⟩, ?_⟩, ?_⟩
        · refine rs_plain rfl rfl fun a wr S => ?_
          have X := undrew S.ext
          exact wp_field0 (ev_of ((S.old 5 (by kernel_rfl)).trans rfl)) (done (by kernel_rfl) rbu_refl rfl)
        · refine rs_plain rfl rfl fun a wr S => ?_
          have X := undrew S.ext
          obtain ⟨v0, e0, h0⟩ := S.got 0 (by kernel_rfl)
          exact wp_loadB ((ev_of (e0 46 (by kernel_rfl))).trans h0) (Px.below X) (done (by kernel_rfl) rbu_refl rfl)
        · refine rs_plain rfl rfl fun a wr S => ?_
          have X := undrew S.ext
          exact wp_field1 (ev_of ((S.old 5 (by kernel_rfl)).trans rfl)) (done (by kernel_rfl) rbu_refl rfl)
        · refine rs_plain rfl rfl fun a wr S => ?_
          have X := undrew S.ext
          obtain ⟨v2, e2, h2⟩ := S.got 2 (by kernel_rfl)
          exact wp_loadM ((ev_of (e2 48 (by kernel_rfl))).trans h2) (Px.below X) (done (by kernel_rfl) rbu_refl rfl)
        · refine rs_plain rfl rfl fun a wr S => ?_
          have X := undrew S.ext
          obtain ⟨v1, e1, h1⟩ := S.got 1 (by kernel_rfl)
          obtain ⟨v3, e3, h3⟩ := S.got 3 (by kernel_rfl)
          exact st_call cf_big_Of (args2 ((ev_of (e1 47 (by kernel_rfl))).trans h1) ((ev_of (e3 49 (by kernel_rfl))).trans h3)) (by kernel_rfl) rb (cOf sa (Nx.below X) (by omega) X.size) (fun _ _ _ h => h)
        · refine rs_plain rfl rfl fun a wr S => ?_
          have X := undrew S.ext
          exact wp_load (ev_of ((S.old 5 (by kernel_rfl)).trans rfl)) (Px.below X) (done (by kernel_rfl) rbu_refl rfl)
        · refine rs_plain rfl rfl fun a wr S => ?_
          have X := undrew S.ext
          obtain ⟨v5, e5, h5⟩ := S.got 5 (by kernel_rfl)
          exact st_call cf_big_Neg (args1 ((ev_of (e5 51 (by kernel_rfl))).trans h5)) (by kernel_rfl) rb (cNeg (Qx.below X) (by omega) X.size) (fun _ _ _ h => h)
        · refine rs_plain rfl rfl fun a wr S => ?_
          have X := undrew S.ext
          exact wp_load (ev_of ((S.old 5 (by kernel_rfl)).trans rfl)) (Px.below X) (done (by kernel_rfl) rbu_refl rfl)
        · refine rs_plain rfl rfl fun a wr S => ?_
          have X := undrew S.ext
          obtain ⟨v7, e7, h7⟩ := S.got 7 (by kernel_rfl)
          obtain ⟨b0, A0, n0, c0, hv0, Z0⟩ := (show IsM wr _ _ _ from (Qx.below X))
          exact wp_bs1 (((ev_of (e7 53 (by kernel_rfl))).trans h7).trans hv0) (done' (by kernel_rfl) (rb _ _ _ (bl_alloc _ _)) (IsR1.new Z0))
        · refine rs_plain rfl rfl fun a wr S => ?_
          have X := undrew S.ext
          obtain ⟨v8, e8, h8⟩ := S.got 8 (by kernel_rfl)
          exact st_call cf_big_Add (args1 (ev_of (e8 54 (by kernel_rfl)))) (by kernel_rfl) rb (cAdd1 h8 (by omega) X.size) (fun _ _ _ h => h)
        · refine rs_plain rfl rfl fun a wr S => ?_
          have X := undrew S.ext
          exact wp_load (ev_of ((S.old 5 (by kernel_rfl)).trans rfl)) (Px.below X) (done (by kernel_rfl) rbu_refl rfl)
        · refine rs_plain rfl rfl fun a wr S => ?_
          have X := undrew S.ext
          exact wp_load (ev_of ((S.old 6 (by kernel_rfl)).trans rfl)) (Py.below X) (done (by kernel_rfl) rbu_refl rfl)
        · refine rs_plain rfl rfl fun a wr S => ?_
          have X := undrew S.ext
          obtain ⟨v10, e10, h10⟩ := S.got 10 (by kernel_rfl)
          obtain ⟨v11, e11, h11⟩ := S.got 11 (by kernel_rfl)
          obtain ⟨b0, A0, n0, c0, hv0, Z0⟩ := (show IsM wr _ _ _ from (Qx.below X))
          obtain ⟨b1, A1, n1, c1, hv1, Z1⟩ := (show IsM wr _ _ _ from (Qy.below X))
          exact wp_bs2 (((ev_of (e10 56 (by kernel_rfl))).trans h10).trans hv0) (((ev_of (e11 57 (by kernel_rfl))).trans h11).trans hv1) (done' (by kernel_rfl) (rb _ _ _ (bl_alloc _ _)) (IsR2.new Z0 Z1))
        · refine rs_plain rfl rfl fun a wr S => ?_
          have X := undrew S.ext
          obtain ⟨v12, e12, h12⟩ := S.got 12 (by kernel_rfl)
          exact st_call cf_big_Add (args1 (ev_of (e12 58 (by kernel_rfl)))) (by kernel_rfl) rb (cAdd2 (z := (zv sa (M.val ya))) (u := (zv sb (M.val yb))) h12 (by omega) (by omega) X.size) (fun _ _ _ h => h)
        · refine rs_plain rfl rfl fun a wr S => ?_
          have X := undrew S.ext
          exact wp_load (ev_of ((S.old 5 (by kernel_rfl)).trans rfl)) (Px.below X) (done (by kernel_rfl) rbu_refl rfl)
        · refine rs_plain rfl rfl fun a wr S => ?_
          have X := undrew S.ext
          exact wp_build0 (done (by kernel_rfl) rbu_refl (IsT.zero _ 0))
        · refine rs_plain rfl rfl fun a wr S => ?_
          have X := undrew S.ext
          obtain ⟨v14, e14, h14⟩ := S.got 14 (by kernel_rfl)
          obtain ⟨v15, e15, h15⟩ := S.got 15 (by kernel_rfl)
          obtain ⟨b0, A0, n0, c0, hv0, Z0⟩ := (show IsM wr _ _ _ from (Qx.below X))
          obtain ⟨b1, A1, n1, c1, hv1, Z1⟩ := (show IsM wr _ _ _ from h15.m)
          exact wp_bs2 (((ev_of (e14 60 (by kernel_rfl))).trans h14).trans hv0) ((ev_of (e15 61 (by kernel_rfl))).trans hv1) (done' (by kernel_rfl) (rb _ _ _ (bl_alloc _ _)) (IsR2.new Z0 Z1))
        · refine rs_plain rfl rfl fun a wr S => ?_
          have X := undrew S.ext
          obtain ⟨v16, e16, h16⟩ := S.got 16 (by kernel_rfl)
          exact st_call cf_big_Add (args1 (ev_of (e16 62 (by kernel_rfl)))) (by kernel_rfl) rb (cAdd2 (z := (zv sa (M.val ya))) (u := 0) h16 (by omega) (by omega) X.size) (fun _ _ _ h => h)
        · refine rs_plain rfl rfl fun a wr S => ?_
          have X := undrew S.ext
          exact wp_load (ev_of ((S.old 5 (by kernel_rfl)).trans rfl)) (Px.below X) (done (by kernel_rfl) rbu_refl rfl)
        · refine rs_plain rfl rfl fun a wr S => ?_
          have X := undrew S.ext
          obtain ⟨v18, e18, h18⟩ := S.got 18 (by kernel_rfl)
          obtain ⟨b0, A0, n0, c0, hv0, Z0⟩ := (show IsM wr _ _ _ from (Qx.below X))
          exact wp_bs1 (((ev_of (e18 64 (by kernel_rfl))).trans h18).trans hv0) (done' (by kernel_rfl) (rb _ _ _ (bl_alloc _ _)) (IsR1.new Z0))
        · refine rs_plain rfl rfl fun a wr S => ?_
          have X := undrew S.ext
          obtain ⟨v19, e19, h19⟩ := S.got 19 (by kernel_rfl)
          exact st_call cf_big_Mul (args1 (ev_of (e19 65 (by kernel_rfl)))) (by kernel_rfl) rb (cMul1 h19 (by omega) X.size) (fun _ _ _ h => h)
        · refine rs_plain rfl rfl fun a wr S => ?_
          have X := undrew S.ext
          exact wp_load (ev_of ((S.old 5 (by kernel_rfl)).trans rfl)) (Px.below X) (done (by kernel_rfl) rbu_refl rfl)
        · refine rs_plain rfl rfl fun a wr S => ?_
          have X := undrew S.ext
          exact wp_load (ev_of ((S.old 6 (by kernel_rfl)).trans rfl)) (Py.below X) (done (by kernel_rfl) rbu_refl rfl)
        · refine rs_plain rfl rfl fun a wr S => ?_
          have X := undrew S.ext
          obtain ⟨v21, e21, h21⟩ := S.got 21 (by kernel_rfl)
          obtain ⟨v22, e22, h22⟩ := S.got 22 (by kernel_rfl)
          obtain ⟨b0, A0, n0, c0, hv0, Z0⟩ := (show IsM wr _ _ _ from (Qx.below X))
          obtain ⟨b1, A1, n1, c1, hv1, Z1⟩ := (show IsM wr _ _ _ from (Qy.below X))
          exact wp_bs2 (((ev_of (e21 67 (by kernel_rfl))).trans h21).trans hv0) (((ev_of (e22 68 (by kernel_rfl))).trans h22).trans hv1) (done' (by kernel_rfl) (rb _ _ _ (bl_alloc _ _)) (IsR2.new Z0 Z1))
        · refine rs_plain rfl rfl fun a wr S => ?_
          have X := undrew S.ext
          obtain ⟨v23, e23, h23⟩ := S.got 23 (by kernel_rfl)
          exact st_call cf_big_Mul (args1 (ev_of (e23 69 (by kernel_rfl)))) (by kernel_rfl) rb (cMul2 (z := (zv sa (M.val ya))) (u := (zv sb (M.val yb))) h23 (by omega) (by omega) (by omega) X.size) (fun _ _ _ h => h)
        · refine rs_plain rfl rfl fun a wr S => ?_
          have X := undrew S.ext
          exact wp_load (ev_of ((S.old 5 (by kernel_rfl)).trans rfl)) (Px.below X) (done (by kernel_rfl) rbu_refl rfl)
        · refine rs_plain rfl rfl fun a wr S => ?_
          have X := undrew S.ext
          exact st_call cf_big_From (args1 rfl) (by kernel_rfl) rb (cFrom _ (by omega) (by omega) X.size) (fun _ _ _ h => h)
        · refine rs_plain rfl rfl fun a wr S => ?_
          have X := undrew S.ext
          obtain ⟨v25, e25, h25⟩ := S.got 25 (by kernel_rfl)
          obtain ⟨v26, e26, h26⟩ := S.got 26 (by kernel_rfl)
          obtain ⟨b0, A0, n0, c0, hv0, Z0⟩ := (show IsM wr _ _ _ from (Qx.below X))
          obtain ⟨b1, A1, n1, c1, hv1, Z1⟩ := (show IsM wr _ _ _ from h26.m)
          exact wp_bs2 (((ev_of (e25 71 (by kernel_rfl))).trans h25).trans hv0) ((ev_of (e26 72 (by kernel_rfl))).trans hv1) (done' (by kernel_rfl) (rb _ _ _ (bl_alloc _ _)) (IsR2.new Z0 Z1))
        · refine rs_plain rfl rfl fun a wr S => ?_
          have X := undrew S.ext
          obtain ⟨v27, e27, h27⟩ := S.got 27 (by kernel_rfl)
          exact st_call cf_big_Mul (args1 (ev_of (e27 73 (by kernel_rfl)))) (by kernel_rfl) rb (cMul2 (z := (zv sa (M.val ya))) (u := 1) h27 (by omega) (by omega) (by omega) X.size) (fun _ _ _ h => h)
        · refine rs_plain rfl rfl fun a wr S => ?_
          have X := undrew S.ext
          exact wp_load (ev_of ((S.old 5 (by kernel_rfl)).trans rfl)) (Px.below X) (done (by kernel_rfl) rbu_refl rfl)
        · refine rs_plain rfl rfl fun a wr S => ?_
          have X := undrew S.ext
          exact wp_load (ev_of ((S.old 6 (by kernel_rfl)).trans rfl)) (Py.below X) (done (by kernel_rfl) rbu_refl rfl)
        · refine rs_plain rfl rfl fun a wr S => ?_
          have X := undrew S.ext
          obtain ⟨v29, e29, h29⟩ := S.got 29 (by kernel_rfl)
          obtain ⟨v30, e30, h30⟩ := S.got 30 (by kernel_rfl)
          exact st_call cf_big_Sub (args2 ((ev_of (e29 75 (by kernel_rfl))).trans h29) ((ev_of (e30 76 (by kernel_rfl))).trans h30)) (by kernel_rfl) rb (cSub (Qx.below X) (Qy.below X) (by omega) (by omega) X.size) (fun _ _ _ h => h)
        · refine rs_plain rfl rfl fun a wr S => ?_
          have X := undrew S.ext
          exact wp_load (ev_of ((S.old 5 (by kernel_rfl)).trans rfl)) (Px.below X) (done (by kernel_rfl) rbu_refl rfl)
        · refine rs_plain rfl rfl fun a wr S => ?_
          have X := undrew S.ext
          exact wp_build0 (done (by kernel_rfl) rbu_refl (IsT.zero _ 0))
        · refine rs_plain rfl rfl fun a wr S => ?_
          have X := undrew S.ext
          obtain ⟨v32, e32, h32⟩ := S.got 32 (by kernel_rfl)
          obtain ⟨v33, e33, h33⟩ := S.got 33 (by kernel_rfl)
          exact st_call cf_big_Sub (args2 ((ev_of (e32 78 (by kernel_rfl))).trans h32) (ev_of (e33 79 (by kernel_rfl)))) (by kernel_rfl) rb (cSub (Qx.below X) h33.m (by omega) (by omega) X.size) (fun _ _ _ h => h)
        · refine rs_plain rfl rfl fun a wr S => ?_
          have X := undrew S.ext
          exact wp_load (ev_of ((S.old 7 (by kernel_rfl)).trans rfl)) (P7.below X) (done (by kernel_rfl) rbu_refl (Q7.below X))
        · refine rs_plain rfl rfl fun a wr S => ?_
          have X := undrew S.ext
          exact wp_load (ev_of ((S.old 9 (by kernel_rfl)).trans rfl)) (P9.below X) (done (by kernel_rfl) rbu_refl (Q9.below X))
        · refine rs_plain rfl rfl fun a wr S => ?_
          have X := undrew S.ext
          obtain ⟨v4, e4, h4⟩ := S.got 4 (by kernel_rfl)
          obtain ⟨v6, e6, h6⟩ := S.got 6 (by kernel_rfl)
          obtain ⟨v9, e9, h9⟩ := S.got 9 (by kernel_rfl)
          obtain ⟨v13, e13, h13⟩ := S.got 13 (by kernel_rfl)
          obtain ⟨v17, e17, h17⟩ := S.got 17 (by kernel_rfl)
          obtain ⟨v20, e20, h20⟩ := S.got 20 (by kernel_rfl)
          obtain ⟨v24, e24, h24⟩ := S.got 24 (by kernel_rfl)
          obtain ⟨v28, e28, h28⟩ := S.got 28 (by kernel_rfl)
          obtain ⟨v31, e31, h31⟩ := S.got 31 (by kernel_rfl)
          obtain ⟨v34, e34, h34⟩ := S.got 34 (by kernel_rfl)
          obtain ⟨v35, e35, h35⟩ := S.got 35 (by kernel_rfl)
          obtain ⟨v36, e36, h36⟩ := S.got 36 (by kernel_rfl)
          obtain ⟨q0, hv0, o0⟩ := IsW0.ie (w := wr) (N := w4.heap.size) ((show IsZ _ wr _ _ _ from h4).w0 HN.out)
          obtain ⟨q1, hv1, o1⟩ := IsW0.ie (w := wr) (N := w4.heap.size) ((show IsZ _ wr _ _ _ from h6).w0 HN.out)
          obtain ⟨q2, hv2, o2⟩ := IsW0.ie (w := wr) (N := w4.heap.size) ((show IsZ _ wr _ _ _ from h9).w0 HN.out)
          obtain ⟨q3, hv3, o3⟩ := IsW0.ie (w := wr) (N := w4.heap.size) ((show IsZ _ wr _ _ _ from h13).w0 HN.out)
          obtain ⟨q4, hv4, o4⟩ := IsW0.ie (w := wr) (N := w4.heap.size) ((show IsZ _ wr _ _ _ from h17).w0 HN.out)
          obtain ⟨q5, hv5, o5⟩ := IsW0.ie (w := wr) (N := w4.heap.size) ((show IsZ _ wr _ _ _ from h20).w0 HN.out)
          obtain ⟨q6, hv6, o6⟩ := IsW0.ie (w := wr) (N := w4.heap.size) ((show IsZ _ wr _ _ _ from h24).w0 HN.out)
          obtain ⟨q7, hv7, o7⟩ := IsW0.ie (w := wr) (N := w4.heap.size) ((show IsZ _ wr _ _ _ from h28).w0 HN.out)
          obtain ⟨q8, hv8, o8⟩ := IsW0.ie (w := wr) (N := w4.heap.size) ((show IsZ _ wr _ _ _ from h31).w0 HN.out)
          obtain ⟨q9, hv9, o9⟩ := IsW0.ie (w := wr) (N := w4.heap.size) ((show IsZ _ wr _ _ _ from h34).w0 HN.out)
          obtain ⟨q10, hv10, o10⟩ := IsW0.ie (w := wr) (N := w4.heap.size) (h35)
          obtain ⟨q11, hv11, o11⟩ := IsW0.ie (w := wr) (N := w4.heap.size) (h36)
          exact wp_bs12 ((ev_of (e4 50 (by kernel_rfl))).trans hv0) ((ev_of (e6 52 (by kernel_rfl))).trans hv1) ((ev_of (e9 55 (by kernel_rfl))).trans hv2) ((ev_of (e13 59 (by kernel_rfl))).trans hv3) ((ev_of (e17 63 (by kernel_rfl))).trans hv4) ((ev_of (e20 66 (by kernel_rfl))).trans hv5) ((ev_of (e24 70 (by kernel_rfl))).trans hv6) ((ev_of (e28 74 (by kernel_rfl))).trans hv7) ((ev_of (e31 77 (by kernel_rfl))).trans hv8) ((ev_of (e34 80 (by kernel_rfl))).trans hv9) ((ev_of (e35 81 (by kernel_rfl))).trans hv10) ((ev_of (e36 82 (by kernel_rfl))).trans hv11) (done' (by kernel_rfl) (rb _ _ _ (bl_alloc _ _)) (IsR12.new [q0, q1, q2, q3, q4, q5, q6, q7, q8, q9, q10, q11] rfl (Nat.le_trans HN.out X.size) (by intro s hs; simp only [List.mem_cons, List.not_mem_nil, or_false] at hs; rcases hs with rfl | rfl | rfl | rfl | rfl | rfl | rfl | rfl | rfl | rfl | rfl | rfl <;> assumption)))
        · refine rs_plain rfl rfl fun a wr S => ?_
          have X := undrew S.ext
          obtain ⟨v37, e37, h37⟩ := S.got 37 (by kernel_rfl)
          exact wp_as (ev_of (e37 83 (by kernel_rfl))) (done (by kernel_rfl) rbu_refl h37)
      · intro fb w8 hR hv
        replace hR := undrew hR
        have f0 : fb 0 = .pointer (some ⟨gx, 0, none⟩) := (hvc (hv 0 (by omega))).elim fun _ h => h
        have f1 : fb 1 = .bool sa := (hvc (hv 1 (by omega))).elim fun _ h => h
        have f2 : fb 2 = .pointer (some ⟨gx, 1, none⟩) := (hvc (hv 2 (by omega))).elim fun _ h => h
        have f3 : fb 3 = .slice Ax ma cx := (hvc (hv 3 (by omega))).elim fun _ h => h
        have f5 : fb 5 = .agg #[.bool sa, .slice Ax ma cx] := (hvc (hv 5 (by omega))).elim fun _ h => h
        have f7 : fb 7 = .agg #[.bool sa, .slice Ax ma cx] := (hvc (hv 7 (by omega))).elim fun _ h => h
        have f10 : fb 10 = .agg #[.bool sa, .slice Ax ma cx] := (hvc (hv 10 (by omega))).elim fun _ h => h
        have f11 : fb 11 = .agg #[.bool sb, .slice Ay mb cy] := (hvc (hv 11 (by omega))).elim fun _ h => h
        have f14 : fb 14 = .agg #[.bool sa, .slice Ax ma cx] := (hvc (hv 14 (by omega))).elim fun _ h => h
        have f18 : fb 18 = .agg #[.bool sa, .slice Ax ma cx] := (hvc (hv 18 (by omega))).elim fun _ h => h
        have f21 : fb 21 = .agg #[.bool sa, .slice Ax ma cx] := (hvc (hv 21 (by omega))).elim fun _ h => h
        have f22 : fb 22 = .agg #[.bool sb, .slice Ay mb cy] := (hvc (hv 22 (by omega))).elim fun _ h => h
        have f25 : fb 25 = .agg #[.bool sa, .slice Ax ma cx] := (hvc (hv 25 (by omega))).elim fun _ h => h
        have f29 : fb 29 = .agg #[.bool sa, .slice Ax ma cx] := (hvc (hv 29 (by omega))).elim fun _ h => h
        have f30 : fb 30 = .agg #[.bool sb, .slice Ay mb cy] := (hvc (hv 30 (by omega))).elim fun _ h => h
        have f32 : fb 32 = .agg #[.bool sa, .slice Ax ma cx] := (hvc (hv 32 (by omega))).elim fun _ h => h
        obtain ⟨go, rso, f38, hlo, hNo, hao, hoo⟩ := (show IsR12 w4.heap.size w8 _ from (hvc (hv 38 (by omega))).elim fun _ h => h)
        simp only [putFn, Act.put, List.setIfInBounds_toArray, List.set_cons_zero, List.set_cons_succ, f0, f1, f2, f3, f5, f7, f10, f11, f14, f18, f21, f22, f25, f29, f30, f32, f38]
        replace Pa := Pa.below hR
        replace Pb := Pb.below hR
        replace Px := Px.below hR
        replace Py := Py.below hR
        replace Ra := Ra.below hR
        replace Rb := Rb.below hR
        replace Rx := Rx.below hR
        replace Ry := Ry.below hR
        replace Qx := Qx.below hR
        replace Qy := Qy.below hR
        replace Nx := Nx.below hR
        replace S4 := S4.below hR
        replace P7 := P7.below hR
        replace Q7 := Q7.below hR
        replace P9 := P9.below hR
        replace Q9 := Q9.below hR
        replace BB := bl_trans BB hR
        clear hR hv P7 Q7 P9 Q9 Qx Qy Nx HN
        have HS4 := Lib.hid S4
        have SP : Spoil w8 w8 w4.heap.size go (rso.map IE.r3) := by
          refine ⟨rfl, rfl, rfl, rfl, fun _ _ => rfl, ?_, ?_⟩
          · intro s hs
            obtain ⟨e, he, rfl⟩ := List.mem_map.1 hs
            exact (hoo e he).1
          · intro s hs
            obtain ⟨e, he, rfl⟩ := List.mem_map.1 hs
            exact (hoo e he).2
        have HSP := Lib.hid SP
        have HALL := Lib.hid hao
        have HLEN := Lib.hid hlo
        have HX := Lib.hid Rx
        have HY := Lib.hid Ry
        have HA := Lib.hid Ra
        have HB := Lib.hid Rb
        have H2 := Lib.hid Pa
        have H3 := Lib.hid Pb
        have H5 := Lib.hid Px
        have H6 := Lib.hid Py
        have HBB := Lib.hid BB
        clear S4 SP hao hlo hoo hNo Rx Ry Ra Rb Pa Pb Px Py BB
        go_wp2
        go_loopg [12] 12 (fun g v wr => ∃ i : Nat, i ≤ 12 ∧ g = 12 - i ∧ v = .int .i64 (i : Int) ∧ Spoil w8 wr w4.heap.size go (rso.map IE.r3))
        case atStart => exact ⟨0, by omega, rfl, rfl, HSP.out⟩
        case round =>
          obtain ⟨i, hi, hgi, rfl, sp⟩ := hrel
          by_cases h12 : i < 12
          · obtain ⟨⟨sb0, sA, sn, sc, sx⟩, hs⟩ : ∃ s, rso[i]? = some s := ⟨rso[i]'(by rw [HLEN.out]; exact h12), List.getElem?_eq_getElem _⟩
            have hc := sp.cellI HALL.out hs
            dsimp only at hc
            have hmem : (⟨sA, sn, sc⟩ : R3) ∈ rso.map IE.r3 := List.mem_map.2 ⟨_, List.mem_of_getElem? hs, rfl⟩
            have hsn : sn ≤ 9223372036854775807 := (sp.own _ hmem).le
            have HS1 := Lib.hid sp
            have HSI := Lib.hid hs
            have HMEM := Lib.hid hmem
            have HGI := Lib.hid hgi
            clear sp hs hgi hmem
            go_wp2
            go_loopg [13] sn (fun g v wr => ∃ k : Nat, k ≤ sn ∧ g = sn - k ∧ v = .int .i64 (k : Int) ∧ Spoil w8 wr w4.heap.size go (rso.map IE.r3))
            case atStart => exact ⟨0, by omega, rfl, rfl, HS1.out⟩
            case round =>
              obtain ⟨k, hk, hgk, rfl, sp⟩ := hrel
              have hc2 := sp.cellI HALL.out HSI.out
              dsimp only at hc2
              have HGK := Lib.hid hgk
              clear hgk hc HS1
              by_cases hkn : k < sn
              · obtain ⟨zs, ho⟩ := sp.own _ HMEM.out
                dsimp only at ho
                obtain ⟨g, rfl, hg1, hg2⟩ := ho.head (by omega)
                obtain ⟨x, hx⟩ : ∃ x, zs[k]? = some x := ⟨zs[k]'(by rw [ho.len]; exact hkn), List.getElem?_eq_getElem _⟩
                have c1 := ho.cellAt hx
                have f1 := ho.frozenAt k
                simp only [kU32] at c1
                have hxl := ho.lim x (List.mem_of_getElem? hx)
                obtain ⟨z, hz⟩ : ∃ z : Nat, z = (x + 1) % 4294967296 := ⟨_, rfl⟩
                have hzl : z < M.R := by rw [hz, M.R_eq]; omega
                have hz2 : ((x : Int) + 1) % 4294967296 = z := by rw [hz]; omega
                have HST := Lib.hid (sp.step (k := k) HMEM.out hzl)
                have hxl2 : x < 4294967296 := hxl
                clear sp ho hx hz hzl hxl
                go_wp2
                go_region
                go_wp2
                go_roundg (sn - (k + 1))
                case measure => have := HGK.out; omega
                case rel => exact ⟨k + 1, by omega, rfl, by go_num, HST.out⟩
              · have HS2 := Lib.hid sp
                clear sp
                go_wp2
                go_roundg (12 - (i + 1))
                case measure => have := HGI.out; omega
                case rel => exact ⟨i + 1, by omega, rfl, by go_num, HS2.out⟩
          · obtain rfl : i = 12 := by omega
            have P2 := sp.bz H2.out G2.out
            have P3 := sp.bz H3.out G3.out
            have P5 := sp.bz H5.out G5.out
            have P6 := sp.bz H6.out G6.out
            have HX' := Lib.hid (sp.rdLow HX.out LX.out)
            have HY' := Lib.hid (sp.rdLow HY.out LY.out)
            have HA' := Lib.hid (sp.rdLow HA.out LA.out)
            have HB' := Lib.hid (sp.rdLow HB.out LB.out)
            have HBB' := Lib.hid (sp.below HBB.out LW.out)
            clear sp hgi HX HY HA HB HBB HSP HALL LX LY LA LB LW h12 hi HLEN H2 H3 H5 H6 G2 G3 G5 G6 HS4
            have P2_0 := P2.c0
            have P2_1 := P2.c1
            have P3_0 := P3.c0
            have P5_0 := P5.c0
            have P5_1 := P5.c1
            have P6_0 := P6.c0
            go_wp2_with fail
            refine (cLimbs HX'.out HA'.out (by omega) (by omega) (decide_eq_true rfl)).mono ?_
            rintro e v1 ⟨_, rfl, g1, rfl⟩
            clear P2_0 P2_1 P3_0 P5_0 P5_1 P6_0
            replace HY' := Lib.hid (HY'.out.below g1)
            replace HB' := Lib.hid (HB'.out.below g1)
            replace HBB' := Lib.hid (bl_trans HBB'.out g1)
            replace P3 := P3.below g1
            replace P6 := P6.below g1
            have P3_1 := P3.c1
            have P6_1 := P6.c1
            clear HA' HX' g1
            go_wp2_with fail
            refine (cLimbs HY'.out HB'.out (by omega) (by omega) (decide_eq_true rfl)).mono ?_
            rintro e v2 ⟨_, rfl, g2, rfl⟩
            replace HBB' := Lib.hid (bl_trans HBB'.out g2)
            clear g2
            go_wp2_with fail
            go_ret
            exact ⟨rfl, HBB'.out⟩

theorem bigShares_walk (sa : Bool) (Aa : Option Addr) (na ca : Nat) (xa : List Nat) (sb : Bool) (Ab : Option Addr) (nb cb : Nat) (xs : List Nat) (w : World) (ha : Rd w Aa na ca xa) (ga : na ≤ maxLen) (hb : Rd w Ab nb cb xs) (gb : nb ≤ maxLen) :
    Calls Try.prog 8 #[.agg #[.bool sa, .slice Aa na ca], .agg #[.bool sb, .slice Ab nb cb]] w fun e w' => e = .returned (.bool true) ∧ Below w.heap.size w w' :=
  bigShares_in sa Aa na ca xa sb Ab nb cb xs _ _ w (Lib.hid ha) (Lib.hid hb) (Lib.hid ga) (Lib.hid gb) (Lib.hid rfl) (Lib.hid rfl)

end Go.Proofs.Ythjgonfohjgfaaa
