/- litmuslaw03.RatOrder answers true at every input, and changes nothing that was there: its walk. -/
import Derived.Test.YtbhgbilhoonopaaGreatQLaw
import Derived.Test.YtbhgbilhoonopaaGreatQOrd
namespace Go.Proofs.YtbhgbilhoonopaaGreat
open Go.RowKit
set_option linter.unusedVariables false
set_option maxRecDepth 100000

theorem ans_int {w : World} {x y : Int} (h : x = y) (e : Ending) (w' : World) (r : Ans w (fun _ v => v = .int .i64 x) e w') : Ans w (fun _ v => v = .int .i64 y) e w' := by
  rw [← h]
  exact r

set_option maxHeartbeats 4000000 in
theorem ratOrder_m (sa : Bool) (Aa : Option Addr) (na ca : Nat) (xa : List Nat) (Ba : Option Addr) (ma da : Nat) (ya : List Nat) (sb : Bool) (Ab : Option Addr) (nb cb : Nat) (xb : List Nat) (Bb : Option Addr) (mb db : Nat) (yb : List Nat) (sc : Bool) (Ac : Option Addr) (nc cc : Nat) (xc : List Nat) (Bc : Option Addr) (mc dc : Nat) (yc : List Nat) (qa qb qc : Rat) (s : Int) (w : World) (s0 : -1 ≤ s) (s1 : s ≤ 1) (HW : ∀ W : World, Calls Tryz.prog 39 #[] W (Ans W fun _ v => v = .bool true)) (Ha : Hid (Rd w Aa na ca xa)) (Ia : Hid (na ≤ maxLen)) (Ja : Hid (Rd w Ba ma da ya)) (Ka : Hid (ma ≤ maxLen)) (Hb : Hid (Rd w Ab nb cb xb)) (Ib : Hid (nb ≤ maxLen)) (Jb : Hid (Rd w Bb mb db yb)) (Kb : Hid (mb ≤ maxLen)) (Hc : Hid (Rd w Ac nc cc xc)) (Ic : Hid (nc ≤ maxLen)) (Jc : Hid (Rd w Bc mc dc yc)) (Kc : Hid (mc ≤ maxLen)) (Za : Hid (qa = mkRat (zv sa (M.val (xa.take (min na 4)))) (dOf (M.val (ya.take (min ma 4)))))) (Zb : Hid (qb = mkRat (zv sb (M.val (xb.take (min nb 4)))) (dOf (M.val (yb.take (min mb 4)))))) (Zc : Hid (qc = mkRat (zv sc (M.val (xc.take (min nc 4)))) (dOf (M.val (yc.take (min mc 4)))))) (HK : Hid (cmpQ qa qb = -1)) (HBA : Hid (cmpQ qb qa = 1)) (HAC : Hid (cmpQ (qa + qc) (qb + qc) = -1)) (HMC : Hid (cmpQ (qa * qc) (qb * qc) = -1 * s)) (HSC : Hid (sgn qc.num = s)) (HSU : Hid (sgn (qa - qb).num = -1)) (HEQ : Hid (¬ -qa = -qb)) : Calls Tryz.prog 7 #[.agg #[.bool sa, .slice Aa na ca, .slice Ba ma da], .agg #[.bool sb, .slice Ab nb cb, .slice Bb mb db], .agg #[.bool sc, .slice Ac nc cc, .slice Bc mc dc]] w fun e w' => e = .returned (.bool true) ∧ Below w.heap.size w w' := by
  have BB := bl_trans (bl_trans (bl_alloc w (.cells #[.bool sa, .slice Aa na ca, .slice Ba ma da] 26)) (bl_alloc _ (.cells #[.bool sb, .slice Ab nb cb, .slice Bb mb db] 26))) (bl_alloc _ (.cells #[.bool sc, .slice Ac nc cc, .slice Bc mc dc] 26))
  have Pa := ((Bq.new w sa Aa na ca Ba ma da).alloc (.cells #[.bool sb, .slice Ab nb cb, .slice Bb mb db] 26)).alloc (.cells #[.bool sc, .slice Ac nc cc, .slice Bc mc dc] 26)
  have Pb := (Bq.new2 w (.cells #[.bool sa, .slice Aa na ca, .slice Ba ma da] 26) sb Ab nb cb Bb mb db).alloc (.cells #[.bool sc, .slice Ac nc cc, .slice Bc mc dc] 26)
  have Pc := Bq.new3 w (.cells #[.bool sa, .slice Aa na ca, .slice Ba ma da] 26) (.cells #[.bool sb, .slice Ab nb cb, .slice Bb mb db] 26) sc Ac nc cc Bc mc dc
  go_enter Tryz.func7, Tryz.ntmps7
  go_wp2_with fail
  refine (HW _).mono ?_
  rintro e w1 ⟨_, rfl, hb1, rfl⟩
  replace Pa := Pa.below hb1
  replace Pb := Pb.below hb1
  replace Pc := Pc.below hb1
  replace BB := bl_trans BB hb1
  clear hb1 HW
  go_wp2_with fail
  refine wp_cut (by kernel_rfl) 6 ?_
  simp only [List.take_succ_cons, List.take_zero, List.drop_succ_cons, List.drop_zero]
  refine wp_cut_list (Ext := RB) (Rel := RBu) [fun v _ _ => v = .agg #[.bool sa, .slice Aa na ca, .slice Ba ma da], fun v _ _ => v = .agg #[.bool sa, .slice Aa (min na 4) ca, .slice Ba (min ma 4) da], fun v _ _ => v = .agg #[.bool sb, .slice Ab nb cb, .slice Bb mb db], fun v _ _ => v = .agg #[.bool sb, .slice Ab (min nb 4) cb, .slice Bb (min mb 4) db], fun v _ _ => v = .agg #[.bool sc, .slice Ac nc cc, .slice Bc mc dc], fun v _ _ => v = .agg #[.bool sc, .slice Ac (min nc 4) cc, .slice Bc (min mc 4) dc]] (n := 6) (by kernel_rfl) (by kernel_rfl) (by kernel_rfl) (by kernel_rfl) (by kernel_rfl) (by kernel_rfl) (by kernel_rfl) (by kernel_rfl) (by kernel_rfl) rb_refl rb_trans ⟨sC, ⟨sC, ⟨sC, ⟨sC, ⟨sC, ⟨sC, trivial⟩⟩⟩⟩⟩⟩ ?_ ?_
  · refine ⟨⟨⟨⟨⟨⟨trivial, ?_⟩, ?_⟩, ?_⟩, ?_⟩, ?_⟩, ?_⟩
    · refine rs_plain rfl rfl fun a wr S => ?_
      have X := undrew S.ext
      exact wp_qload (ev_of ((S.old 3 (by kernel_rfl)).trans rfl)) (Pa.below X) (done (by kernel_rfl) rbu_refl rfl)
    · refine rs_plain rfl rfl fun a wr S => ?_
      have X := undrew S.ext
      obtain ⟨v0, e0, h0⟩ := S.got 0 (by kernel_rfl)
      exact st_call cf_law03_few (args2 ((ev_of (e0 10 (by kernel_rfl))).trans h0) rfl) (by kernel_rfl) rb (cFew3 Ha.out.cap Ja.out.cap Ia.out Ka.out 4 _ rfl (by omega)) (fun _ _ _ h => h)
    · refine rs_plain rfl rfl fun a wr S => ?_
      have X := undrew S.ext
      exact wp_qload (ev_of ((S.old 4 (by kernel_rfl)).trans rfl)) (Pb.below X) (done (by kernel_rfl) rbu_refl rfl)
    · refine rs_plain rfl rfl fun a wr S => ?_
      have X := undrew S.ext
      obtain ⟨v2, e2, h2⟩ := S.got 2 (by kernel_rfl)
      exact st_call cf_law03_few (args2 ((ev_of (e2 12 (by kernel_rfl))).trans h2) rfl) (by kernel_rfl) rb (cFew3 Hb.out.cap Jb.out.cap Ib.out Kb.out 4 _ rfl (by omega)) (fun _ _ _ h => h)
    · refine rs_plain rfl rfl fun a wr S => ?_
      have X := undrew S.ext
      exact wp_qload (ev_of ((S.old 5 (by kernel_rfl)).trans rfl)) (Pc.below X) (done (by kernel_rfl) rbu_refl rfl)
    · refine rs_plain rfl rfl fun a wr S => ?_
      have X := undrew S.ext
      obtain ⟨v4, e4, h4⟩ := S.got 4 (by kernel_rfl)
      exact st_call cf_law03_few (args2 ((ev_of (e4 14 (by kernel_rfl))).trans h4) rfl) (by kernel_rfl) rb (cFew3 Hc.out.cap Jc.out.cap Ic.out Kc.out 4 _ rfl (by omega)) (fun _ _ _ h => h)
  · intro fa w2 hR hv hap
    clear hap
    replace hR := undrew hR
    have f0 : fa 0 = .agg #[.bool sa, .slice Aa na ca, .slice Ba ma da] := (hvc (hv 0 (by omega))).elim fun _ h => h
    have f1 : fa 1 = .agg #[.bool sa, .slice Aa (min na 4) ca, .slice Ba (min ma 4) da] := (hvc (hv 1 (by omega))).elim fun _ h => h
    have f2 : fa 2 = .agg #[.bool sb, .slice Ab nb cb, .slice Bb mb db] := (hvc (hv 2 (by omega))).elim fun _ h => h
    have f3 : fa 3 = .agg #[.bool sb, .slice Ab (min nb 4) cb, .slice Bb (min mb 4) db] := (hvc (hv 3 (by omega))).elim fun _ h => h
    have f4 : fa 4 = .agg #[.bool sc, .slice Ac nc cc, .slice Bc mc dc] := (hvc (hv 4 (by omega))).elim fun _ h => h
    have f5 : fa 5 = .agg #[.bool sc, .slice Ac (min nc 4) cc, .slice Bc (min mc 4) dc] := (hvc (hv 5 (by omega))).elim fun _ h => h
    simp only [putFn, Act.put, List.setIfInBounds_toArray, List.set_cons_zero, List.set_cons_succ, f0, f1, f2, f3, f4, f5]
    replace Pa := Pa.below hR
    replace Pb := Pb.below hR
    replace Pc := Pc.below hR
    replace BB := bl_trans BB hR
    clear hR hv
    have ra0 := Pa.c0
    have fa0 := Pa.f 0
    have ra1 := Pa.c1
    have fa1 := Pa.f 1
    have ra2 := Pa.c2
    have fa2 := Pa.f 2
    have rb0 := Pb.c0
    have fb0 := Pb.f 0
    have rb1 := Pb.c1
    have fb1 := Pb.f 1
    have rb2 := Pb.c2
    have fb2 := Pb.f 2
    have rc0 := Pc.c0
    have fc0 := Pc.f 0
    have rc1 := Pc.c1
    have fc1 := Pc.f 1
    have rc2 := Pc.c2
    have fc2 := Pc.f 2
    go_wp2_with fail
    clear ra0 fa0 ra1 fa1 ra2 fa2 rb0 fb0 rb1 fb1 rb2 fb2 rc0 fc0 rc1 fc1 rc2 fc2
    have Xa := (((((((Pa.set3 (b' := sa) (A' := Aa) (n' := min na 4) (c' := ca) (B' := Ba) (m' := min ma 4) (d' := da)).other (g' := w.heap.size + 1) (i := 0) (v := .bool sb) (by omega)).other (g' := w.heap.size + 1) (i := 1) (v := .slice Ab (min nb 4) cb) (by omega)).other (g' := w.heap.size + 1) (i := 2) (v := .slice Bb (min mb 4) db) (by omega)).other (g' := w.heap.size + 1 + 1) (i := 0) (v := .bool sc) (by omega)).other (g' := w.heap.size + 1 + 1) (i := 1) (v := .slice Ac (min nc 4) cc) (by omega)).other (g' := w.heap.size + 1 + 1) (i := 2) (v := .slice Bc (min mc 4) dc) (by omega))
    have Xb := (((((((Pb.other (g' := w.heap.size) (i := 0) (v := .bool sa) (by omega)).other (g' := w.heap.size) (i := 1) (v := .slice Aa (min na 4) ca) (by omega)).other (g' := w.heap.size) (i := 2) (v := .slice Ba (min ma 4) da) (by omega)).set3 (b' := sb) (A' := Ab) (n' := min nb 4) (c' := cb) (B' := Bb) (m' := min mb 4) (d' := db)).other (g' := w.heap.size + 1 + 1) (i := 0) (v := .bool sc) (by omega)).other (g' := w.heap.size + 1 + 1) (i := 1) (v := .slice Ac (min nc 4) cc) (by omega)).other (g' := w.heap.size + 1 + 1) (i := 2) (v := .slice Bc (min mc 4) dc) (by omega))
    have Xc := (((((((Pc.other (g' := w.heap.size) (i := 0) (v := .bool sa) (by omega)).other (g' := w.heap.size) (i := 1) (v := .slice Aa (min na 4) ca) (by omega)).other (g' := w.heap.size) (i := 2) (v := .slice Ba (min ma 4) da) (by omega)).other (g' := w.heap.size + 1) (i := 0) (v := .bool sb) (by omega)).other (g' := w.heap.size + 1) (i := 1) (v := .slice Ab (min nb 4) cb) (by omega)).other (g' := w.heap.size + 1) (i := 2) (v := .slice Bb (min mb 4) db) (by omega)).set3 (b' := sc) (A' := Ac) (n' := min nc 4) (c' := cc) (B' := Bc) (m' := min mc 4) (d' := dc))
    replace BB := (((((((((BB.setCell (p := ⟨w.heap.size, 0, none⟩) (by show _ ≤ w.heap.size; omega) (.bool sa)).setCell (p := ⟨w.heap.size, 1, none⟩) (by show _ ≤ w.heap.size; omega) (.slice Aa (min na 4) ca)).setCell (p := ⟨w.heap.size, 2, none⟩) (by show _ ≤ w.heap.size; omega) (.slice Ba (min ma 4) da)).setCell (p := ⟨w.heap.size + 1, 0, none⟩) (by show _ ≤ w.heap.size + 1; omega) (.bool sb)).setCell (p := ⟨w.heap.size + 1, 1, none⟩) (by show _ ≤ w.heap.size + 1; omega) (.slice Ab (min nb 4) cb)).setCell (p := ⟨w.heap.size + 1, 2, none⟩) (by show _ ≤ w.heap.size + 1; omega) (.slice Bb (min mb 4) db)).setCell (p := ⟨w.heap.size + 1 + 1, 0, none⟩) (by show _ ≤ w.heap.size + 1 + 1; omega) (.bool sc)).setCell (p := ⟨w.heap.size + 1 + 1, 1, none⟩) (by show _ ≤ w.heap.size + 1 + 1; omega) (.slice Ac (min nc 4) cc)).setCell (p := ⟨w.heap.size + 1 + 1, 2, none⟩) (by show _ ≤ w.heap.size + 1 + 1; omega) (.slice Bc (min mc 4) dc))
    clear Pa Pb Pc
    generalize (((((((((w2.setCell ⟨w.heap.size, 0, none⟩ (.bool sa)).setCell ⟨w.heap.size, 1, none⟩ (.slice Aa (min na 4) ca)).setCell ⟨w.heap.size, 2, none⟩ (.slice Ba (min ma 4) da)).setCell ⟨w.heap.size + 1, 0, none⟩ (.bool sb)).setCell ⟨w.heap.size + 1, 1, none⟩ (.slice Ab (min nb 4) cb)).setCell ⟨w.heap.size + 1, 2, none⟩ (.slice Bb (min mb 4) db)).setCell ⟨w.heap.size + 1 + 1, 0, none⟩ (.bool sc)).setCell ⟨w.heap.size + 1 + 1, 1, none⟩ (.slice Ac (min nc 4) cc)).setCell ⟨w.heap.size + 1 + 1, 2, none⟩ (.slice Bc (min mc 4) dc)) = wh at Xa Xb Xc BB ⊢
    have Qa : IsQm wh (.agg #[.bool sa, .slice Aa (min na 4) ca, .slice Ba (min ma 4) da]) qa 4 := by rw [Za.out]; exact few_q (Ha.out.below BB) (Ja.out.below BB) 4
    have Qb : IsQm wh (.agg #[.bool sb, .slice Ab (min nb 4) cb, .slice Bb (min mb 4) db]) qb 4 := by rw [Zb.out]; exact few_q (Hb.out.below BB) (Jb.out.below BB) 4
    have Qc : IsQm wh (.agg #[.bool sc, .slice Ac (min nc 4) cc, .slice Bc (min mc 4) dc]) qc 4 := by rw [Zc.out]; exact few_q (Hc.out.below BB) (Jc.out.below BB) 4
    clear Ha Ia Ja Ka Za Hb Ib Jb Kb Zb Hc Ic Jc Kc Zc
    have xa0 := Xa.c0
    have xa1 := Xa.c1
    have xa2 := Xa.c2
    have xb0 := Xb.c0
    have xb1 := Xb.c1
    have xb2 := Xb.c2
    have xc0 := Xc.c0
    have xc1 := Xc.c1
    have xc2 := Xc.c2
    refine (cQCmp Qa Qb (by omega) (by omega) (by omega) (by omega)).mono ?_
    rw [HK.out]
    rintro e w3 ⟨_, rfl, hb3, rfl⟩
    clear xa0 xa1 xa2 xb0 xb1 xb2 xc0 xc1 xc2
    replace Xa := Xa.below hb3
    replace Qa := Qa.below hb3
    replace Xb := Xb.below hb3
    replace Qb := Qb.below hb3
    replace Xc := Xc.below hb3
    replace Qc := Qc.below hb3
    replace BB := bl_trans BB hb3
    clear hb3
    go_wp2_with fail
    refine wp_region_list (Ext := RB) (Rel := RBu) [fun v _ _ => v = .int .i64 (-1), fun v _ _ => v = .bool false, fun v _ _ => v = .bool false, fun v _ _ => v = .int .i64 (-1), fun v _ _ => v = .bool false, fun v _ _ => v = .bool false, fun v _ _ => v = .bool false, fun v _ _ => v = .agg #[.bool sb, .slice Ab (min nb 4) cb, .slice Bb (min mb 4) db], fun v _ _ => v = .agg #[.bool sa, .slice Aa (min na 4) ca, .slice Ba (min ma 4) da], fun v _ _ => v = .int .i64 1, fun v _ _ => v = .int .i64 (-1), fun v _ _ => v = .int .i64 (-(-1)), fun v _ _ => v = .bool false, fun v _ _ => v = .bool false, fun v _ _ => v = .bool false, fun v _ _ => v = .agg #[.bool sa, .slice Aa (min na 4) ca, .slice Ba (min ma 4) da], fun v _ _ => v = .agg #[.bool sc, .slice Ac (min nc 4) cc, .slice Bc (min mc 4) dc], fun v _ w => IsQ (w3).heap.size w v (qa + qc) 9, fun v _ _ => v = .agg #[.bool sb, .slice Ab (min nb 4) cb, .slice Bb (min mb 4) db], fun v _ _ => v = .agg #[.bool sc, .slice Ac (min nc 4) cc, .slice Bc (min mc 4) dc], fun v _ w => IsQ (w3).heap.size w v (qb + qc) 9, fun v _ _ => v = .int .i64 (-1), fun v _ _ => v = .int .i64 (-1), fun v _ _ => v = .bool false, fun v _ _ => v = .bool false, fun v _ _ => v = .bool false, fun v _ _ => v = .agg #[.bool sa, .slice Aa (min na 4) ca, .slice Ba (min ma 4) da], fun v _ _ => v = .agg #[.bool sc, .slice Ac (min nc 4) cc, .slice Bc (min mc 4) dc], fun v _ w => IsQ (w3).heap.size w v (qa * qc) 8, fun v _ _ => v = .agg #[.bool sb, .slice Ab (min nb 4) cb, .slice Bb (min mb 4) db], fun v _ _ => v = .agg #[.bool sc, .slice Ac (min nc 4) cc, .slice Bc (min mc 4) dc], fun v _ w => IsQ (w3).heap.size w v (qb * qc) 8, fun v _ _ => v = .int .i64 ((-1) * s), fun v _ _ => v = .int .i64 (-1), fun v _ _ => v = .agg #[.bool sc, .slice Ac (min nc 4) cc, .slice Bc (min mc 4) dc], fun v _ _ => v = .int .i64 s, fun v _ _ => v = .int .i64 ((-1) * s), fun v _ _ => v = .bool false, fun v _ _ => v = .bool false, fun v _ _ => v = .bool false, fun v _ _ => v = .agg #[.bool sa, .slice Aa (min na 4) ca, .slice Ba (min ma 4) da], fun v _ _ => v = .agg #[.bool sb, .slice Ab (min nb 4) cb, .slice Bb (min mb 4) db], fun v _ w => IsQ (w3).heap.size w v (qa - qb) 9, fun v _ _ => v = .int .i64 (-1), fun v _ _ => v = .int .i64 (-1), fun v _ _ => v = .bool false, fun v _ _ => v = .bool false] (n := 47) (by kernel_rfl) rfl (by kernel_rfl) (by kernel_rfl) (by kernel_rfl) (by kernel_rfl) (by kernel_rfl) rb_refl rb_trans ⟨sC, ⟨sC, ⟨sC, ⟨sC, ⟨sC, ⟨sC, ⟨sC, ⟨sC, ⟨sC, ⟨sC, ⟨sC, ⟨sC, ⟨sC, ⟨sC, ⟨sC, ⟨sC, ⟨sC, ⟨sQ, ⟨sC, ⟨sC, ⟨sQ, ⟨sC, ⟨sC, ⟨sC, ⟨sC, ⟨sC, ⟨sC, ⟨sC, ⟨sQ, ⟨sC, ⟨sC, ⟨sQ, ⟨sC, ⟨sC, ⟨sC, ⟨sC, ⟨sC, ⟨sC, ⟨sC, ⟨sC, ⟨sC, ⟨sC, ⟨sQ, ⟨sC, ⟨sC, ⟨sC, ⟨sC, trivial⟩⟩⟩⟩⟩⟩⟩⟩⟩⟩⟩⟩⟩⟩⟩⟩⟩⟩⟩⟩⟩⟩⟩⟩⟩⟩⟩⟩⟩⟩⟩⟩⟩⟩⟩⟩⟩⟩⟩⟩⟩⟩⟩⟩⟩⟩⟩ ?_ ?_
    · refine ⟨⟨⟨⟨⟨⟨⟨⟨⟨⟨⟨⟨⟨⟨⟨⟨⟨⟨⟨⟨⟨⟨⟨⟨⟨⟨⟨⟨⟨⟨⟨⟨⟨⟨⟨⟨⟨⟨⟨⟨⟨⟨⟨⟨⟨⟨⟨trivial, ?_⟩, ?_⟩, ?_⟩, ?_⟩, ?_⟩, ?_⟩, ?_⟩, ?_⟩, ?_⟩, ?_⟩, ?_⟩, ?_⟩, ?_⟩, ?_⟩, ?_⟩, ?_⟩, ?_⟩, ?_⟩, ?_⟩, ?_⟩, ?_⟩, ?_⟩, ?_⟩, ?_⟩, ?_⟩, ?_⟩, ?_⟩, ?_⟩, ?_⟩, ?_⟩, ?_⟩, ?_⟩, ?_⟩, ?_⟩, ?_⟩, ?_⟩, ?_⟩, ?_⟩, ?_⟩, ?_⟩, ?_⟩, ?_⟩, ?_⟩, ?_⟩, ?_⟩, ?_⟩, ?_⟩
      · refine rs_plain rfl rfl fun a wr S => ?_
        have X := undrew S.ext
        exact wp_mv (ev_of ((S.old 7 (by kernel_rfl)).trans rfl)) (done (by kernel_rfl) rbu_refl rfl)
      · refine rs_plain rfl rfl fun a wr S => ?_
        have X := undrew S.ext
        obtain ⟨v0, e0, h0⟩ := S.got 0 (by kernel_rfl)
        exact wp_ltI ((ev_of (e0 19 (by kernel_rfl))).trans h0) rfl (done (by kernel_rfl) rbu_refl (congrArg Value.bool (by decide)))
      · refine rs_plain rfl rfl fun a wr S => ?_
        have X := undrew S.ext
        obtain ⟨v1, e1, h1⟩ := S.got 1 (by kernel_rfl)
        exact wp_mv ((ev_of (e1 20 (by kernel_rfl))).trans h1) (done (by kernel_rfl) rbu_refl rfl)
      · refine rs_yes rfl rfl (by kernel_rfl) (by kernel_rfl : _ = some 21) (fun _ _ _ h => h) fun a wr S => ?_
        have X := undrew S.ext
        exact wp_mv (ev_of ((S.old 7 (by kernel_rfl)).trans rfl)) (done (by kernel_rfl) rbu_refl rfl)
      · refine rs_yes rfl rfl (by kernel_rfl) (by kernel_rfl : _ = some 21) (fun _ _ _ h => h) fun a wr S => ?_
        have X := undrew S.ext
        obtain ⟨v3, e3, h3⟩ := S.got 3 (by kernel_rfl)
        exact wp_gtI ((ev_of (e3 22 (by kernel_rfl))).trans h3) rfl (done (by kernel_rfl) rbu_refl (congrArg Value.bool (by decide)))
      · refine rs_plain rfl rfl fun a wr S => ?_
        have X := undrew S.ext
        obtain ⟨v2, e2, h2⟩ := S.got 2 (by kernel_rfl)
        obtain ⟨v4, e4, h4⟩ := S.got 4 (by kernel_rfl)
        exact wp_pickF ((ev_of (e2 21 (by kernel_rfl))).trans h2) ((ev_of (e4 23 (by kernel_rfl))).trans h4) (done (by kernel_rfl) rbu_refl rfl)
      · refine rs_plain rfl rfl fun a wr S => ?_
        have X := undrew S.ext
        obtain ⟨v5, e5, h5⟩ := S.got 5 (by kernel_rfl)
        exact wp_mv ((ev_of (e5 24 (by kernel_rfl))).trans h5) (done (by kernel_rfl) rbu_refl rfl)
      · refine rs_yes rfl rfl (by kernel_rfl) (by kernel_rfl : _ = some 25) (fun _ _ _ h => h) fun a wr S => ?_
        have X := undrew S.ext
        exact wp_qload (ev_of ((S.old 4 (by kernel_rfl)).trans rfl)) (Xb.below X) (done (by kernel_rfl) rbu_refl rfl)
      · refine rs_yes rfl rfl (by kernel_rfl) (by kernel_rfl : _ = some 25) (fun _ _ _ h => h) fun a wr S => ?_
        have X := undrew S.ext
        exact wp_qload (ev_of ((S.old 3 (by kernel_rfl)).trans rfl)) (Xa.below X) (done (by kernel_rfl) rbu_refl rfl)
      · refine rs_yes rfl rfl (by kernel_rfl) (by kernel_rfl : _ = some 25) (fun _ _ _ h => h) fun a wr S => ?_
        have X := undrew S.ext
        obtain ⟨v7, e7, h7⟩ := S.got 7 (by kernel_rfl)
        obtain ⟨v8, e8, h8⟩ := S.got 8 (by kernel_rfl)
        exact st_call cf_rat_Cmp (args2 ((ev_of (e7 26 (by kernel_rfl))).trans h7) ((ev_of (e8 27 (by kernel_rfl))).trans h8)) (by kernel_rfl) rb ((cQCmp (show IsQm _ _ _ _ from (Qb.below X)) (show IsQm _ _ _ _ from (Qa.below X)) (by omega) (by omega) (by omega) (by omega)).mono (ans_int HBA.out)) (fun _ _ _ h => h)
      · refine rs_yes rfl rfl (by kernel_rfl) (by kernel_rfl : _ = some 25) (fun _ _ _ h => h) fun a wr S => ?_
        have X := undrew S.ext
        exact wp_mv (ev_of ((S.old 7 (by kernel_rfl)).trans rfl)) (done (by kernel_rfl) rbu_refl rfl)
      · refine rs_yes rfl rfl (by kernel_rfl) (by kernel_rfl : _ = some 25) (fun _ _ _ h => h) fun a wr S => ?_
        have X := undrew S.ext
        obtain ⟨v10, e10, h10⟩ := S.got 10 (by kernel_rfl)
        exact wp_negI ((ev_of (e10 29 (by kernel_rfl))).trans h10) (by decide) (by decide) (done (by kernel_rfl) rbu_refl rfl)
      · refine rs_yes rfl rfl (by kernel_rfl) (by kernel_rfl : _ = some 25) (fun _ _ _ h => h) fun a wr S => ?_
        have X := undrew S.ext
        obtain ⟨v9, e9, h9⟩ := S.got 9 (by kernel_rfl)
        obtain ⟨v11, e11, h11⟩ := S.got 11 (by kernel_rfl)
        exact wp_neI ((ev_of (e9 28 (by kernel_rfl))).trans h9) ((ev_of (e11 30 (by kernel_rfl))).trans h11) (Or.inl rfl) (done (by kernel_rfl) rbu_refl (congrArg Value.bool (by decide)))
      · refine rs_plain rfl rfl fun a wr S => ?_
        have X := undrew S.ext
        obtain ⟨v6, e6, h6⟩ := S.got 6 (by kernel_rfl)
        obtain ⟨v12, e12, h12⟩ := S.got 12 (by kernel_rfl)
        exact wp_pickF ((ev_of (e6 25 (by kernel_rfl))).trans h6) ((ev_of (e12 31 (by kernel_rfl))).trans h12) (done (by kernel_rfl) rbu_refl rfl)
      · refine rs_plain rfl rfl fun a wr S => ?_
        have X := undrew S.ext
        obtain ⟨v13, e13, h13⟩ := S.got 13 (by kernel_rfl)
        exact wp_mv ((ev_of (e13 32 (by kernel_rfl))).trans h13) (done (by kernel_rfl) rbu_refl rfl)
      · refine rs_yes rfl rfl (by kernel_rfl) (by kernel_rfl : _ = some 33) (fun _ _ _ h => h) fun a wr S => ?_
        have X := undrew S.ext
        exact wp_qload (ev_of ((S.old 3 (by kernel_rfl)).trans rfl)) (Xa.below X) (done (by kernel_rfl) rbu_refl rfl)
      · refine rs_yes rfl rfl (by kernel_rfl) (by kernel_rfl : _ = some 33) (fun _ _ _ h => h) fun a wr S => ?_
        have X := undrew S.ext
        exact wp_qload (ev_of ((S.old 5 (by kernel_rfl)).trans rfl)) (Xc.below X) (done (by kernel_rfl) rbu_refl rfl)
      · refine rs_yes rfl rfl (by kernel_rfl) (by kernel_rfl : _ = some 33) (fun _ _ _ h => h) fun a wr S => ?_
        have X := undrew S.ext
        obtain ⟨v15, e15, h15⟩ := S.got 15 (by kernel_rfl)
        obtain ⟨v16, e16, h16⟩ := S.got 16 (by kernel_rfl)
        exact st_call cf_rat_Add (args2 ((ev_of (e15 34 (by kernel_rfl))).trans h15) ((ev_of (e16 35 (by kernel_rfl))).trans h16)) (by kernel_rfl) rb ((cQAdd (show IsQm _ _ _ _ from (Qa.below X)) (show IsQm _ _ _ _ from (Qc.below X)) (by omega) (by omega) (by omega) (by omega)).mono (ansQ_base X.size)) (fun _ _ _ h => h)
      · refine rs_yes rfl rfl (by kernel_rfl) (by kernel_rfl : _ = some 33) (fun _ _ _ h => h) fun a wr S => ?_
        have X := undrew S.ext
        exact wp_qload (ev_of ((S.old 4 (by kernel_rfl)).trans rfl)) (Xb.below X) (done (by kernel_rfl) rbu_refl rfl)
      · refine rs_yes rfl rfl (by kernel_rfl) (by kernel_rfl : _ = some 33) (fun _ _ _ h => h) fun a wr S => ?_
        have X := undrew S.ext
        exact wp_qload (ev_of ((S.old 5 (by kernel_rfl)).trans rfl)) (Xc.below X) (done (by kernel_rfl) rbu_refl rfl)
      · refine rs_yes rfl rfl (by kernel_rfl) (by kernel_rfl : _ = some 33) (fun _ _ _ h => h) fun a wr S => ?_
        have X := undrew S.ext
        obtain ⟨v18, e18, h18⟩ := S.got 18 (by kernel_rfl)
        obtain ⟨v19, e19, h19⟩ := S.got 19 (by kernel_rfl)
        exact st_call cf_rat_Add (args2 ((ev_of (e18 37 (by kernel_rfl))).trans h18) ((ev_of (e19 38 (by kernel_rfl))).trans h19)) (by kernel_rfl) rb ((cQAdd (show IsQm _ _ _ _ from (Qb.below X)) (show IsQm _ _ _ _ from (Qc.below X)) (by omega) (by omega) (by omega) (by omega)).mono (ansQ_base X.size)) (fun _ _ _ h => h)
      · refine rs_yes rfl rfl (by kernel_rfl) (by kernel_rfl : _ = some 33) (fun _ _ _ h => h) fun a wr S => ?_
        have X := undrew S.ext
        obtain ⟨v17, e17, h17⟩ := S.got 17 (by kernel_rfl)
        obtain ⟨v20, e20, h20⟩ := S.got 20 (by kernel_rfl)
        exact st_call cf_rat_Cmp (args2 (ev_of (e17 36 (by kernel_rfl))) (ev_of (e20 39 (by kernel_rfl)))) (by kernel_rfl) rb ((cQCmp (show IsQm _ _ _ _ from h17.m) (show IsQm _ _ _ _ from h20.m) (by omega) (by omega) (by omega) (by omega)).mono (ans_int HAC.out)) (fun _ _ _ h => h)
      · refine rs_yes rfl rfl (by kernel_rfl) (by kernel_rfl : _ = some 33) (fun _ _ _ h => h) fun a wr S => ?_
        have X := undrew S.ext
        exact wp_mv (ev_of ((S.old 7 (by kernel_rfl)).trans rfl)) (done (by kernel_rfl) rbu_refl rfl)
      · refine rs_yes rfl rfl (by kernel_rfl) (by kernel_rfl : _ = some 33) (fun _ _ _ h => h) fun a wr S => ?_
        have X := undrew S.ext
        obtain ⟨v21, e21, h21⟩ := S.got 21 (by kernel_rfl)
        obtain ⟨v22, e22, h22⟩ := S.got 22 (by kernel_rfl)
        exact wp_neI ((ev_of (e21 40 (by kernel_rfl))).trans h21) ((ev_of (e22 41 (by kernel_rfl))).trans h22) (Or.inl rfl) (done (by kernel_rfl) rbu_refl (congrArg Value.bool (by decide)))
      · refine rs_plain rfl rfl fun a wr S => ?_
        have X := undrew S.ext
        obtain ⟨v14, e14, h14⟩ := S.got 14 (by kernel_rfl)
        obtain ⟨v23, e23, h23⟩ := S.got 23 (by kernel_rfl)
        exact wp_pickF ((ev_of (e14 33 (by kernel_rfl))).trans h14) ((ev_of (e23 42 (by kernel_rfl))).trans h23) (done (by kernel_rfl) rbu_refl rfl)
      · refine rs_plain rfl rfl fun a wr S => ?_
        have X := undrew S.ext
        obtain ⟨v24, e24, h24⟩ := S.got 24 (by kernel_rfl)
        exact wp_mv ((ev_of (e24 43 (by kernel_rfl))).trans h24) (done (by kernel_rfl) rbu_refl rfl)
      · refine rs_yes rfl rfl (by kernel_rfl) (by kernel_rfl : _ = some 44) (fun _ _ _ h => h) fun a wr S => ?_
        have X := undrew S.ext
        exact wp_qload (ev_of ((S.old 3 (by kernel_rfl)).trans rfl)) (Xa.below X) (done (by kernel_rfl) rbu_refl rfl)
      · refine rs_yes rfl rfl (by kernel_rfl) (by kernel_rfl : _ = some 44) (fun _ _ _ h => h) fun a wr S => ?_
        have X := undrew S.ext
        exact wp_qload (ev_of ((S.old 5 (by kernel_rfl)).trans rfl)) (Xc.below X) (done (by kernel_rfl) rbu_refl rfl)
      · refine rs_yes rfl rfl (by kernel_rfl) (by kernel_rfl : _ = some 44) (fun _ _ _ h => h) fun a wr S => ?_
        have X := undrew S.ext
        obtain ⟨v26, e26, h26⟩ := S.got 26 (by kernel_rfl)
        obtain ⟨v27, e27, h27⟩ := S.got 27 (by kernel_rfl)
        exact st_call cf_rat_Mul (args2 ((ev_of (e26 45 (by kernel_rfl))).trans h26) ((ev_of (e27 46 (by kernel_rfl))).trans h27)) (by kernel_rfl) rb ((cQMul (show IsQm _ _ _ _ from (Qa.below X)) (show IsQm _ _ _ _ from (Qc.below X)) (by omega) (by omega) (by omega) (by omega)).mono (ansQ_base X.size)) (fun _ _ _ h => h)
      · refine rs_yes rfl rfl (by kernel_rfl) (by kernel_rfl : _ = some 44) (fun _ _ _ h => h) fun a wr S => ?_
        have X := undrew S.ext
        exact wp_qload (ev_of ((S.old 4 (by kernel_rfl)).trans rfl)) (Xb.below X) (done (by kernel_rfl) rbu_refl rfl)
      · refine rs_yes rfl rfl (by kernel_rfl) (by kernel_rfl : _ = some 44) (fun _ _ _ h => h) fun a wr S => ?_
        have X := undrew S.ext
        exact wp_qload (ev_of ((S.old 5 (by kernel_rfl)).trans rfl)) (Xc.below X) (done (by kernel_rfl) rbu_refl rfl)
      · refine rs_yes rfl rfl (by kernel_rfl) (by kernel_rfl : _ = some 44) (fun _ _ _ h => h) fun a wr S => ?_
        have X := undrew S.ext
        obtain ⟨v29, e29, h29⟩ := S.got 29 (by kernel_rfl)
        obtain ⟨v30, e30, h30⟩ := S.got 30 (by kernel_rfl)
        exact st_call cf_rat_Mul (args2 ((ev_of (e29 48 (by kernel_rfl))).trans h29) ((ev_of (e30 49 (by kernel_rfl))).trans h30)) (by kernel_rfl) rb ((cQMul (show IsQm _ _ _ _ from (Qb.below X)) (show IsQm _ _ _ _ from (Qc.below X)) (by omega) (by omega) (by omega) (by omega)).mono (ansQ_base X.size)) (fun _ _ _ h => h)
      · refine rs_yes rfl rfl (by kernel_rfl) (by kernel_rfl : _ = some 44) (fun _ _ _ h => h) fun a wr S => ?_
        have X := undrew S.ext
        obtain ⟨v28, e28, h28⟩ := S.got 28 (by kernel_rfl)
        obtain ⟨v31, e31, h31⟩ := S.got 31 (by kernel_rfl)
        exact st_call cf_rat_Cmp (args2 (ev_of (e28 47 (by kernel_rfl))) (ev_of (e31 50 (by kernel_rfl)))) (by kernel_rfl) rb ((cQCmp (show IsQm _ _ _ _ from h28.m) (show IsQm _ _ _ _ from h31.m) (by omega) (by omega) (by omega) (by omega)).mono (ans_int HMC.out)) (fun _ _ _ h => h)
      · refine rs_yes rfl rfl (by kernel_rfl) (by kernel_rfl : _ = some 44) (fun _ _ _ h => h) fun a wr S => ?_
        have X := undrew S.ext
        exact wp_mv (ev_of ((S.old 7 (by kernel_rfl)).trans rfl)) (done (by kernel_rfl) rbu_refl rfl)
      · refine rs_yes rfl rfl (by kernel_rfl) (by kernel_rfl : _ = some 44) (fun _ _ _ h => h) fun a wr S => ?_
        have X := undrew S.ext
        exact wp_qload (ev_of ((S.old 5 (by kernel_rfl)).trans rfl)) (Xc.below X) (done (by kernel_rfl) rbu_refl rfl)
      · refine rs_yes rfl rfl (by kernel_rfl) (by kernel_rfl : _ = some 44) (fun _ _ _ h => h) fun a wr S => ?_
        have X := undrew S.ext
        obtain ⟨v34, e34, h34⟩ := S.got 34 (by kernel_rfl)
        exact st_call cf_rat_Sign (args1 ((ev_of (e34 53 (by kernel_rfl))).trans h34)) (by kernel_rfl) rb (cQSign (show IsQm _ _ _ _ from (Qc.below X)) (by omega) HSC.out) (fun _ _ _ h => h)
      · refine rs_yes rfl rfl (by kernel_rfl) (by kernel_rfl : _ = some 44) (fun _ _ _ h => h) fun a wr S => ?_
        have X := undrew S.ext
        obtain ⟨v33, e33, h33⟩ := S.got 33 (by kernel_rfl)
        obtain ⟨v35, e35, h35⟩ := S.got 35 (by kernel_rfl)
        exact wp_mulI ((ev_of (e33 52 (by kernel_rfl))).trans h33) ((ev_of (e35 54 (by kernel_rfl))).trans h35) (by omega) (by omega) (done (by kernel_rfl) rbu_refl rfl)
      · refine rs_yes rfl rfl (by kernel_rfl) (by kernel_rfl : _ = some 44) (fun _ _ _ h => h) fun a wr S => ?_
        have X := undrew S.ext
        obtain ⟨v32, e32, h32⟩ := S.got 32 (by kernel_rfl)
        obtain ⟨v36, e36, h36⟩ := S.got 36 (by kernel_rfl)
        exact wp_neI ((ev_of (e32 51 (by kernel_rfl))).trans h32) ((ev_of (e36 55 (by kernel_rfl))).trans h36) (Or.inl rfl) (done (by kernel_rfl) rbu_refl (congrArg Value.bool (bne_self_eq_false _)))
      · refine rs_plain rfl rfl fun a wr S => ?_
        have X := undrew S.ext
        obtain ⟨v25, e25, h25⟩ := S.got 25 (by kernel_rfl)
        obtain ⟨v37, e37, h37⟩ := S.got 37 (by kernel_rfl)
        exact wp_pickF ((ev_of (e25 44 (by kernel_rfl))).trans h25) ((ev_of (e37 56 (by kernel_rfl))).trans h37) (done (by kernel_rfl) rbu_refl rfl)
      · refine rs_plain rfl rfl fun a wr S => ?_
        have X := undrew S.ext
        obtain ⟨v38, e38, h38⟩ := S.got 38 (by kernel_rfl)
        exact wp_mv ((ev_of (e38 57 (by kernel_rfl))).trans h38) (done (by kernel_rfl) rbu_refl rfl)
      · refine rs_yes rfl rfl (by kernel_rfl) (by kernel_rfl : _ = some 58) (fun _ _ _ h => h) fun a wr S => ?_
        have X := undrew S.ext
        exact wp_qload (ev_of ((S.old 3 (by kernel_rfl)).trans rfl)) (Xa.below X) (done (by kernel_rfl) rbu_refl rfl)
      · refine rs_yes rfl rfl (by kernel_rfl) (by kernel_rfl : _ = some 58) (fun _ _ _ h => h) fun a wr S => ?_
        have X := undrew S.ext
        exact wp_qload (ev_of ((S.old 4 (by kernel_rfl)).trans rfl)) (Xb.below X) (done (by kernel_rfl) rbu_refl rfl)
      · refine rs_yes rfl rfl (by kernel_rfl) (by kernel_rfl : _ = some 58) (fun _ _ _ h => h) fun a wr S => ?_
        have X := undrew S.ext
        obtain ⟨v40, e40, h40⟩ := S.got 40 (by kernel_rfl)
        obtain ⟨v41, e41, h41⟩ := S.got 41 (by kernel_rfl)
        exact st_call cf_rat_Sub (args2 ((ev_of (e40 59 (by kernel_rfl))).trans h40) ((ev_of (e41 60 (by kernel_rfl))).trans h41)) (by kernel_rfl) rb ((cQSub (show IsQm _ _ _ _ from (Qa.below X)) (show IsQm _ _ _ _ from (Qb.below X)) (by omega) (by omega) (by omega) (by omega)).mono (ansQ_base X.size)) (fun _ _ _ h => h)
      · refine rs_yes rfl rfl (by kernel_rfl) (by kernel_rfl : _ = some 58) (fun _ _ _ h => h) fun a wr S => ?_
        have X := undrew S.ext
        obtain ⟨v42, e42, h42⟩ := S.got 42 (by kernel_rfl)
        exact st_call cf_rat_Sign (args1 (ev_of (e42 61 (by kernel_rfl)))) (by kernel_rfl) rb (cQSign (show IsQm _ _ _ _ from h42.m) (by omega) HSU.out) (fun _ _ _ h => h)
      · refine rs_yes rfl rfl (by kernel_rfl) (by kernel_rfl : _ = some 58) (fun _ _ _ h => h) fun a wr S => ?_
        have X := undrew S.ext
        exact wp_mv (ev_of ((S.old 7 (by kernel_rfl)).trans rfl)) (done (by kernel_rfl) rbu_refl rfl)
      · refine rs_yes rfl rfl (by kernel_rfl) (by kernel_rfl : _ = some 58) (fun _ _ _ h => h) fun a wr S => ?_
        have X := undrew S.ext
        obtain ⟨v43, e43, h43⟩ := S.got 43 (by kernel_rfl)
        obtain ⟨v44, e44, h44⟩ := S.got 44 (by kernel_rfl)
        exact wp_neI ((ev_of (e43 62 (by kernel_rfl))).trans h43) ((ev_of (e44 63 (by kernel_rfl))).trans h44) (Or.inl rfl) (done (by kernel_rfl) rbu_refl (congrArg Value.bool (by decide)))
      · refine rs_plain rfl rfl fun a wr S => ?_
        have X := undrew S.ext
        obtain ⟨v39, e39, h39⟩ := S.got 39 (by kernel_rfl)
        obtain ⟨v45, e45, h45⟩ := S.got 45 (by kernel_rfl)
        exact wp_pickF ((ev_of (e39 58 (by kernel_rfl))).trans h39) ((ev_of (e45 64 (by kernel_rfl))).trans h45) (done (by kernel_rfl) rbu_refl rfl)
    · intro fb w4 hR hv
      replace hR := undrew hR
      have f0 : fb 0 = .int .i64 (-1) := (hvc (hv 0 (by omega))).elim fun _ h => h
      have f1 : fb 1 = .bool false := (hvc (hv 1 (by omega))).elim fun _ h => h
      have f2 : fb 2 = .bool false := (hvc (hv 2 (by omega))).elim fun _ h => h
      have f3 : fb 3 = .int .i64 (-1) := (hvc (hv 3 (by omega))).elim fun _ h => h
      have f4 : fb 4 = .bool false := (hvc (hv 4 (by omega))).elim fun _ h => h
      have f5 : fb 5 = .bool false := (hvc (hv 5 (by omega))).elim fun _ h => h
      have f6 : fb 6 = .bool false := (hvc (hv 6 (by omega))).elim fun _ h => h
      have f7 : fb 7 = .agg #[.bool sb, .slice Ab (min nb 4) cb, .slice Bb (min mb 4) db] := (hvc (hv 7 (by omega))).elim fun _ h => h
      have f8 : fb 8 = .agg #[.bool sa, .slice Aa (min na 4) ca, .slice Ba (min ma 4) da] := (hvc (hv 8 (by omega))).elim fun _ h => h
      have f9 : fb 9 = .int .i64 1 := (hvc (hv 9 (by omega))).elim fun _ h => h
      have f10 : fb 10 = .int .i64 (-1) := (hvc (hv 10 (by omega))).elim fun _ h => h
      have f11 : fb 11 = .int .i64 (-(-1)) := (hvc (hv 11 (by omega))).elim fun _ h => h
      have f12 : fb 12 = .bool false := (hvc (hv 12 (by omega))).elim fun _ h => h
      have f13 : fb 13 = .bool false := (hvc (hv 13 (by omega))).elim fun _ h => h
      have f14 : fb 14 = .bool false := (hvc (hv 14 (by omega))).elim fun _ h => h
      have f15 : fb 15 = .agg #[.bool sa, .slice Aa (min na 4) ca, .slice Ba (min ma 4) da] := (hvc (hv 15 (by omega))).elim fun _ h => h
      have f16 : fb 16 = .agg #[.bool sc, .slice Ac (min nc 4) cc, .slice Bc (min mc 4) dc] := (hvc (hv 16 (by omega))).elim fun _ h => h
      have f18 : fb 18 = .agg #[.bool sb, .slice Ab (min nb 4) cb, .slice Bb (min mb 4) db] := (hvc (hv 18 (by omega))).elim fun _ h => h
      have f19 : fb 19 = .agg #[.bool sc, .slice Ac (min nc 4) cc, .slice Bc (min mc 4) dc] := (hvc (hv 19 (by omega))).elim fun _ h => h
      have f21 : fb 21 = .int .i64 (-1) := (hvc (hv 21 (by omega))).elim fun _ h => h
      have f22 : fb 22 = .int .i64 (-1) := (hvc (hv 22 (by omega))).elim fun _ h => h
      have f23 : fb 23 = .bool false := (hvc (hv 23 (by omega))).elim fun _ h => h
      have f24 : fb 24 = .bool false := (hvc (hv 24 (by omega))).elim fun _ h => h
      have f25 : fb 25 = .bool false := (hvc (hv 25 (by omega))).elim fun _ h => h
      have f26 : fb 26 = .agg #[.bool sa, .slice Aa (min na 4) ca, .slice Ba (min ma 4) da] := (hvc (hv 26 (by omega))).elim fun _ h => h
      have f27 : fb 27 = .agg #[.bool sc, .slice Ac (min nc 4) cc, .slice Bc (min mc 4) dc] := (hvc (hv 27 (by omega))).elim fun _ h => h
      have f29 : fb 29 = .agg #[.bool sb, .slice Ab (min nb 4) cb, .slice Bb (min mb 4) db] := (hvc (hv 29 (by omega))).elim fun _ h => h
      have f30 : fb 30 = .agg #[.bool sc, .slice Ac (min nc 4) cc, .slice Bc (min mc 4) dc] := (hvc (hv 30 (by omega))).elim fun _ h => h
      have f32 : fb 32 = .int .i64 ((-1) * s) := (hvc (hv 32 (by omega))).elim fun _ h => h
      have f33 : fb 33 = .int .i64 (-1) := (hvc (hv 33 (by omega))).elim fun _ h => h
      have f34 : fb 34 = .agg #[.bool sc, .slice Ac (min nc 4) cc, .slice Bc (min mc 4) dc] := (hvc (hv 34 (by omega))).elim fun _ h => h
      have f35 : fb 35 = .int .i64 s := (hvc (hv 35 (by omega))).elim fun _ h => h
      have f36 : fb 36 = .int .i64 ((-1) * s) := (hvc (hv 36 (by omega))).elim fun _ h => h
      have f37 : fb 37 = .bool false := (hvc (hv 37 (by omega))).elim fun _ h => h
      have f38 : fb 38 = .bool false := (hvc (hv 38 (by omega))).elim fun _ h => h
      have f39 : fb 39 = .bool false := (hvc (hv 39 (by omega))).elim fun _ h => h
      have f40 : fb 40 = .agg #[.bool sa, .slice Aa (min na 4) ca, .slice Ba (min ma 4) da] := (hvc (hv 40 (by omega))).elim fun _ h => h
      have f41 : fb 41 = .agg #[.bool sb, .slice Ab (min nb 4) cb, .slice Bb (min mb 4) db] := (hvc (hv 41 (by omega))).elim fun _ h => h
      have f43 : fb 43 = .int .i64 (-1) := (hvc (hv 43 (by omega))).elim fun _ h => h
      have f44 : fb 44 = .int .i64 (-1) := (hvc (hv 44 (by omega))).elim fun _ h => h
      have f45 : fb 45 = .bool false := (hvc (hv 45 (by omega))).elim fun _ h => h
      have f46 : fb 46 = .bool false := (hvc (hv 46 (by omega))).elim fun _ h => h
      simp only [putFn, Act.put, List.setIfInBounds_toArray, List.set_cons_zero, List.set_cons_succ, f0, f1, f2, f3, f4, f5, f6, f7, f8, f9, f10, f11, f12, f13, f14, f15, f16, f18, f19, f21, f22, f23, f24, f25, f26, f27, f29, f30, f32, f33, f34, f35, f36, f37, f38, f39, f40, f41, f43, f44, f45, f46]
      replace Xa := Xa.below hR
      replace Qa := Qa.below hR
      replace Xb := Xb.below hR
      replace Qb := Qb.below hR
      replace Xc := Xc.below hR
      replace Qc := Qc.below hR
      replace BB := bl_trans BB hR
      clear hR hv
      go_wp2_with fail
      obtain ⟨t, ht⟩ : ∃ t, cmpQ qb qc = t := ⟨_, rfl⟩
      have HT := Lib.hid ht
      obtain ⟨u, hu⟩ : ∃ u, cmpQ qa qc = u := ⟨_, rfl⟩
      have HU := Lib.hid hu
      have hc : t ≤ 0 → u ≤ 0 := fun h => by rw [← hu]; exact cmpQ_chain (b := qb) (by rw [HK.out]; omega) (by rw [ht]; exact h)
      clear ht hu
      by_cases hp : 0 < t
      · clear hc HU
        refine wp_region_list (Ext := RB) (Rel := RBu) [fun v _ _ => v = .int .i64 (-1), fun v _ _ => v = .bool false, fun v _ _ => v = .agg #[.bool sa, .slice Aa (min na 4) ca, .slice Ba (min ma 4) da], fun v _ w => IsQ (w4).heap.size w v (-qa) 4, fun v _ _ => v = .agg #[.bool sb, .slice Ab (min nb 4) cb, .slice Bb (min mb 4) db], fun v _ w => IsQ (w4).heap.size w v (-qb) 4, fun v _ _ => v = .bool false, fun v _ _ => v = .bool true, fun v _ _ => v = .bool true, fun v _ _ => v = .int .i64 (-1), fun v _ _ => v = .bool false, fun v _ _ => v = .bool false, fun v _ _ => v = .agg #[.bool sb, .slice Ab (min nb 4) cb, .slice Bb (min mb 4) db], fun v _ _ => v = .agg #[.bool sc, .slice Ac (min nc 4) cc, .slice Bc (min mc 4) dc], fun v _ _ => v = .int .i64 t, fun v _ _ => v = .bool true, fun v _ _ => v = .bool true, fun v _ _ => v = .bool true, fun v _ _ => v = undef, fun v _ _ => v = undef, fun v _ _ => v = undef, fun v _ _ => v = undef, fun v _ _ => v = Value.bool true, fun v _ _ => v = Value.bool true, fun v _ _ => v = Value.bool true] (n := 25) (by kernel_rfl) rfl (by kernel_rfl) (by kernel_rfl) (by kernel_rfl) (by kernel_rfl) (by kernel_rfl) rb_refl rb_trans ⟨sC, ⟨sC, ⟨sC, ⟨sQ, ⟨sC, ⟨sQ, ⟨sC, ⟨sC, ⟨sC, ⟨sC, ⟨sC, ⟨sC, ⟨sC, ⟨sC, ⟨sC, ⟨sC, ⟨sC, ⟨sC, ⟨sC, ⟨sC, ⟨sC, ⟨sC, ⟨sC, ⟨sC, ⟨sC, trivial⟩⟩⟩⟩⟩⟩⟩⟩⟩⟩⟩⟩⟩⟩⟩⟩⟩⟩⟩⟩⟩⟩⟩⟩⟩ ?_ ?_
        · refine ⟨⟨⟨⟨⟨⟨⟨⟨⟨⟨⟨⟨⟨⟨⟨⟨⟨⟨⟨⟨⟨⟨⟨⟨⟨trivial, ?_⟩, ?_⟩, ?_⟩, ?_⟩, ?_⟩, ?_⟩, ?_⟩, ?_⟩, ?_⟩, ?_⟩, ?_⟩, ?_⟩, ?_⟩, ?_⟩, ?_⟩, ?_⟩, ?_⟩, ?_⟩, ?_⟩, ?_⟩, ?_⟩, ?_⟩, ?_⟩, ?_⟩, ?_⟩
          · refine rs_plain rfl rfl fun a wr S => ?_
            have X := undrew S.ext
            exact wp_mv (ev_of ((S.old 7 (by kernel_rfl)).trans rfl)) (done (by kernel_rfl) rbu_refl rfl)
          · refine rs_plain rfl rfl fun a wr S => ?_
            have X := undrew S.ext
            obtain ⟨v0, e0, h0⟩ := S.got 0 (by kernel_rfl)
            exact wp_eqI ((ev_of (e0 66 (by kernel_rfl))).trans h0) rfl (Or.inl rfl) (done (by kernel_rfl) rbu_refl (congrArg Value.bool (by decide)))
          · refine rs_plain rfl rfl fun a wr S => ?_
            have X := undrew S.ext
            exact wp_qload (ev_of ((S.old 3 (by kernel_rfl)).trans rfl)) (Xa.below X) (done (by kernel_rfl) rbu_refl rfl)
          · refine rs_plain rfl rfl fun a wr S => ?_
            have X := undrew S.ext
            obtain ⟨v2, e2, h2⟩ := S.got 2 (by kernel_rfl)
            exact st_call cf_rat_Neg (args1 ((ev_of (e2 68 (by kernel_rfl))).trans h2)) (by kernel_rfl) rb ((cQNeg (show IsQm _ _ _ _ from (Qa.below X)) (by omega) (by omega)).mono (ansQ_base X.size)) (fun _ _ _ h => h)
          · refine rs_plain rfl rfl fun a wr S => ?_
            have X := undrew S.ext
            exact wp_qload (ev_of ((S.old 4 (by kernel_rfl)).trans rfl)) (Xb.below X) (done (by kernel_rfl) rbu_refl rfl)
          · refine rs_plain rfl rfl fun a wr S => ?_
            have X := undrew S.ext
            obtain ⟨v4, e4, h4⟩ := S.got 4 (by kernel_rfl)
            exact st_call cf_rat_Neg (args1 ((ev_of (e4 70 (by kernel_rfl))).trans h4)) (by kernel_rfl) rb ((cQNeg (show IsQm _ _ _ _ from (Qb.below X)) (by omega) (by omega)).mono (ansQ_base X.size)) (fun _ _ _ h => h)
          · refine rs_plain rfl rfl fun a wr S => ?_
            have X := undrew S.ext
            obtain ⟨v3, e3, h3⟩ := S.got 3 (by kernel_rfl)
            obtain ⟨v5, e5, h5⟩ := S.got 5 (by kernel_rfl)
            exact st_call cf_law03_same (args2 (ev_of (e3 69 (by kernel_rfl))) (ev_of (e5 71 (by kernel_rfl)))) (by kernel_rfl) rb (cSame3 (show IsQt _ _ _ _ from h3.t) (show IsQt _ _ _ _ from h5.t) (by omega) (by omega) (r := false) ⟨fun h => (by cases h), fun h => absurd h HEQ.out⟩) (fun _ _ _ h => h)
          · refine rs_plain rfl rfl fun a wr S => ?_
            have X := undrew S.ext
            obtain ⟨v1, e1, h1⟩ := S.got 1 (by kernel_rfl)
            obtain ⟨v6, e6, h6⟩ := S.got 6 (by kernel_rfl)
            exact wp_eqB ((ev_of (e1 67 (by kernel_rfl))).trans h1) ((ev_of (e6 72 (by kernel_rfl))).trans h6) (done (by kernel_rfl) rbu_refl (congrArg Value.bool (by decide)))
          · refine rs_plain rfl rfl fun a wr S => ?_
            have X := undrew S.ext
            obtain ⟨v7, e7, h7⟩ := S.got 7 (by kernel_rfl)
            exact wp_mv ((ev_of (e7 73 (by kernel_rfl))).trans h7) (done (by kernel_rfl) rbu_refl rfl)
          · refine rs_yes rfl rfl (by kernel_rfl) (by kernel_rfl : _ = some 74) (fun _ _ _ h => h) fun a wr S => ?_
            have X := undrew S.ext
            exact wp_mv (ev_of ((S.old 7 (by kernel_rfl)).trans rfl)) (done (by kernel_rfl) rbu_refl rfl)
          · refine rs_yes rfl rfl (by kernel_rfl) (by kernel_rfl : _ = some 74) (fun _ _ _ h => h) fun a wr S => ?_
            have X := undrew S.ext
            obtain ⟨v9, e9, h9⟩ := S.got 9 (by kernel_rfl)
            exact wp_gtI ((ev_of (e9 75 (by kernel_rfl))).trans h9) rfl (done (by kernel_rfl) rbu_refl (congrArg Value.bool (by decide)))
          · refine rs_yes rfl rfl (by kernel_rfl) (by kernel_rfl : _ = some 74) (fun _ _ _ h => h) fun a wr S => ?_
            have X := undrew S.ext
            obtain ⟨v10, e10, h10⟩ := S.got 10 (by kernel_rfl)
            exact wp_mv ((ev_of (e10 76 (by kernel_rfl))).trans h10) (done (by kernel_rfl) rbu_refl rfl)
          · refine rs_yes rfl rfl (by kernel_rfl) (by kernel_rfl : _ = some 77) (fun _ _ _ h => h) fun a wr S => ?_
            have X := undrew S.ext
            exact wp_qload (ev_of ((S.old 4 (by kernel_rfl)).trans rfl)) (Xb.below X) (done (by kernel_rfl) rbu_refl rfl)
          · refine rs_yes rfl rfl (by kernel_rfl) (by kernel_rfl : _ = some 77) (fun _ _ _ h => h) fun a wr S => ?_
            have X := undrew S.ext
            exact wp_qload (ev_of ((S.old 5 (by kernel_rfl)).trans rfl)) (Xc.below X) (done (by kernel_rfl) rbu_refl rfl)
          · refine rs_yes rfl rfl (by kernel_rfl) (by kernel_rfl : _ = some 77) (fun _ _ _ h => h) fun a wr S => ?_
            have X := undrew S.ext
            obtain ⟨v12, e12, h12⟩ := S.got 12 (by kernel_rfl)
            obtain ⟨v13, e13, h13⟩ := S.got 13 (by kernel_rfl)
            exact st_call cf_rat_Cmp (args2 ((ev_of (e12 78 (by kernel_rfl))).trans h12) ((ev_of (e13 79 (by kernel_rfl))).trans h13)) (by kernel_rfl) rb ((cQCmp (show IsQm _ _ _ _ from (Qb.below X)) (show IsQm _ _ _ _ from (Qc.below X)) (by omega) (by omega) (by omega) (by omega)).mono (ans_int HT.out)) (fun _ _ _ h => h)
          · refine rs_yes rfl rfl (by kernel_rfl) (by kernel_rfl : _ = some 77) (fun _ _ _ h => h) fun a wr S => ?_
            have X := undrew S.ext
            obtain ⟨v14, e14, h14⟩ := S.got 14 (by kernel_rfl)
            exact wp_gtI ((ev_of (e14 80 (by kernel_rfl))).trans h14) rfl (done (by kernel_rfl) rbu_refl (congrArg Value.bool (decide_eq_true hp)))
          · refine rs_yes rfl rfl (by kernel_rfl) (by kernel_rfl : _ = some 74) (fun _ _ _ h => h) fun a wr S => ?_
            have X := undrew S.ext
            obtain ⟨v11, e11, h11⟩ := S.got 11 (by kernel_rfl)
            obtain ⟨v15, e15, h15⟩ := S.got 15 (by kernel_rfl)
            exact wp_pickF ((ev_of (e11 77 (by kernel_rfl))).trans h11) ((ev_of (e15 81 (by kernel_rfl))).trans h15) (done (by kernel_rfl) rbu_refl rfl)
          · refine rs_yes rfl rfl (by kernel_rfl) (by kernel_rfl : _ = some 74) (fun _ _ _ h => h) fun a wr S => ?_
            have X := undrew S.ext
            obtain ⟨v16, e16, h16⟩ := S.got 16 (by kernel_rfl)
            exact wp_mv ((ev_of (e16 82 (by kernel_rfl))).trans h16) (done (by kernel_rfl) rbu_refl rfl)
          · exact rs_no rfl rfl (by kernel_rfl) (by kernel_rfl : _ = some 83) (fun _ _ _ h => h) (by kernel_rfl) rbu_refl (fun _ _ => rfl)
          · exact rs_no rfl rfl (by kernel_rfl) (by kernel_rfl : _ = some 83) (fun _ _ _ h => h) (by kernel_rfl) rbu_refl (fun _ _ => rfl)
          · exact rs_no rfl rfl (by kernel_rfl) (by kernel_rfl : _ = some 83) (fun _ _ _ h => h) (by kernel_rfl) rbu_refl (fun _ _ => rfl)
          · exact rs_no rfl rfl (by kernel_rfl) (by kernel_rfl : _ = some 83) (fun _ _ _ h => h) (by kernel_rfl) rbu_refl (fun _ _ => rfl)
          · refine rs_yes rfl rfl (by kernel_rfl) (by kernel_rfl : _ = some 74) (fun _ _ _ h => h) fun a wr S => ?_
            have X := undrew S.ext
            obtain ⟨v17, e17, h17⟩ := S.got 17 (by kernel_rfl)
            exact wp_pickT ((ev_of (e17 83 (by kernel_rfl))).trans h17) rfl (done (by kernel_rfl) rbu_refl rfl)
          · refine rs_plain rfl rfl fun a wr S => ?_
            have X := undrew S.ext
            obtain ⟨v8, e8, h8⟩ := S.got 8 (by kernel_rfl)
            obtain ⟨v22, e22, h22⟩ := S.got 22 (by kernel_rfl)
            exact wp_pickT ((ev_of (e8 74 (by kernel_rfl))).trans h8) ((ev_of (e22 88 (by kernel_rfl))).trans h22) (done (by kernel_rfl) rbu_refl rfl)
          · refine rs_plain rfl rfl fun a wr S => ?_
            have X := undrew S.ext
            obtain ⟨v23, e23, h23⟩ := S.got 23 (by kernel_rfl)
            exact wp_as ((ev_of (e23 89 (by kernel_rfl))).trans h23) (done (by kernel_rfl) rbu_refl rfl)
        · intro fc w5 hR hv
          replace hR := undrew hR
          have f0 : fc 0 = .int .i64 (-1) := (hvc (hv 0 (by omega))).elim fun _ h => h
          have f1 : fc 1 = .bool false := (hvc (hv 1 (by omega))).elim fun _ h => h
          have f2 : fc 2 = .agg #[.bool sa, .slice Aa (min na 4) ca, .slice Ba (min ma 4) da] := (hvc (hv 2 (by omega))).elim fun _ h => h
          have f4 : fc 4 = .agg #[.bool sb, .slice Ab (min nb 4) cb, .slice Bb (min mb 4) db] := (hvc (hv 4 (by omega))).elim fun _ h => h
          have f6 : fc 6 = .bool false := (hvc (hv 6 (by omega))).elim fun _ h => h
          have f7 : fc 7 = .bool true := (hvc (hv 7 (by omega))).elim fun _ h => h
          have f8 : fc 8 = .bool true := (hvc (hv 8 (by omega))).elim fun _ h => h
          have f9 : fc 9 = .int .i64 (-1) := (hvc (hv 9 (by omega))).elim fun _ h => h
          have f10 : fc 10 = .bool false := (hvc (hv 10 (by omega))).elim fun _ h => h
          have f11 : fc 11 = .bool false := (hvc (hv 11 (by omega))).elim fun _ h => h
          have f12 : fc 12 = .agg #[.bool sb, .slice Ab (min nb 4) cb, .slice Bb (min mb 4) db] := (hvc (hv 12 (by omega))).elim fun _ h => h
          have f13 : fc 13 = .agg #[.bool sc, .slice Ac (min nc 4) cc, .slice Bc (min mc 4) dc] := (hvc (hv 13 (by omega))).elim fun _ h => h
          have f14 : fc 14 = .int .i64 t := (hvc (hv 14 (by omega))).elim fun _ h => h
          have f15 : fc 15 = .bool true := (hvc (hv 15 (by omega))).elim fun _ h => h
          have f16 : fc 16 = .bool true := (hvc (hv 16 (by omega))).elim fun _ h => h
          have f17 : fc 17 = .bool true := (hvc (hv 17 (by omega))).elim fun _ h => h
          have f18 : fc 18 = undef := (hvc (hv 18 (by omega))).elim fun _ h => h
          have f19 : fc 19 = undef := (hvc (hv 19 (by omega))).elim fun _ h => h
          have f20 : fc 20 = undef := (hvc (hv 20 (by omega))).elim fun _ h => h
          have f21 : fc 21 = undef := (hvc (hv 21 (by omega))).elim fun _ h => h
          have f22 : fc 22 = Value.bool true := (hvc (hv 22 (by omega))).elim fun _ h => h
          have f23 : fc 23 = Value.bool true := (hvc (hv 23 (by omega))).elim fun _ h => h
          have f24 : fc 24 = Value.bool true := (hvc (hv 24 (by omega))).elim fun _ h => h
          simp only [putFn, Act.put, List.setIfInBounds_toArray, List.set_cons_zero, List.set_cons_succ, f0, f1, f2, f4, f6, f7, f8, f9, f10, f11, f12, f13, f14, f15, f16, f17, f18, f19, f20, f21, f22, f23, f24]
          replace BB := bl_trans BB hR
          clear hR hv
          go_wp2_with fail
          go_ret
          exact ⟨rfl, BB⟩
      · have hu : u ≤ 0 := hc (by omega)
        clear hc
        refine wp_region_list (Ext := RB) (Rel := RBu) [fun v _ _ => v = .int .i64 (-1), fun v _ _ => v = .bool false, fun v _ _ => v = .agg #[.bool sa, .slice Aa (min na 4) ca, .slice Ba (min ma 4) da], fun v _ w => IsQ (w4).heap.size w v (-qa) 4, fun v _ _ => v = .agg #[.bool sb, .slice Ab (min nb 4) cb, .slice Bb (min mb 4) db], fun v _ w => IsQ (w4).heap.size w v (-qb) 4, fun v _ _ => v = .bool false, fun v _ _ => v = .bool true, fun v _ _ => v = .bool true, fun v _ _ => v = .int .i64 (-1), fun v _ _ => v = .bool false, fun v _ _ => v = .bool false, fun v _ _ => v = .agg #[.bool sb, .slice Ab (min nb 4) cb, .slice Bb (min mb 4) db], fun v _ _ => v = .agg #[.bool sc, .slice Ac (min nc 4) cc, .slice Bc (min mc 4) dc], fun v _ _ => v = .int .i64 t, fun v _ _ => v = .bool false, fun v _ _ => v = .bool false, fun v _ _ => v = .bool false, fun v _ _ => v = .agg #[.bool sa, .slice Aa (min na 4) ca, .slice Ba (min ma 4) da], fun v _ _ => v = .agg #[.bool sc, .slice Ac (min nc 4) cc, .slice Bc (min mc 4) dc], fun v _ _ => v = .int .i64 u, fun v _ _ => v = .bool true, fun v _ _ => v = .bool true, fun v _ _ => v = .bool true, fun v _ _ => v = .bool true] (n := 25) (by kernel_rfl) rfl (by kernel_rfl) (by kernel_rfl) (by kernel_rfl) (by kernel_rfl) (by kernel_rfl) rb_refl rb_trans ⟨sC, ⟨sC, ⟨sC, ⟨sQ, ⟨sC, ⟨sQ, ⟨sC, ⟨sC, ⟨sC, ⟨sC, ⟨sC, ⟨sC, ⟨sC, ⟨sC, ⟨sC, ⟨sC, ⟨sC, ⟨sC, ⟨sC, ⟨sC, ⟨sC, ⟨sC, ⟨sC, ⟨sC, ⟨sC, trivial⟩⟩⟩⟩⟩⟩⟩⟩⟩⟩⟩⟩⟩⟩⟩⟩⟩⟩⟩⟩⟩⟩⟩⟩⟩ ?_ ?_
        · refine ⟨⟨⟨⟨⟨⟨⟨⟨⟨⟨⟨⟨⟨⟨⟨⟨⟨⟨⟨⟨⟨⟨⟨⟨⟨trivial, ?_⟩, ?_⟩, ?_⟩, ?_⟩, ?_⟩, ?_⟩, ?_⟩, ?_⟩, ?_⟩, ?_⟩, ?_⟩, ?_⟩, ?_⟩, ?_⟩, ?_⟩, ?_⟩, ?_⟩, ?_⟩, ?_⟩, ?_⟩, ?_⟩, ?_⟩, ?_⟩, ?_⟩, ?_⟩
          · refine rs_plain rfl rfl fun a wr S => ?_
            have X := undrew S.ext
            exact wp_mv (ev_of ((S.old 7 (by kernel_rfl)).trans rfl)) (done (by kernel_rfl) rbu_refl rfl)
          · refine rs_plain rfl rfl fun a wr S => ?_
            have X := undrew S.ext
            obtain ⟨v0, e0, h0⟩ := S.got 0 (by kernel_rfl)
            exact wp_eqI ((ev_of (e0 66 (by kernel_rfl))).trans h0) rfl (Or.inl rfl) (done (by kernel_rfl) rbu_refl (congrArg Value.bool (by decide)))
          · refine rs_plain rfl rfl fun a wr S => ?_
            have X := undrew S.ext
            exact wp_qload (ev_of ((S.old 3 (by kernel_rfl)).trans rfl)) (Xa.below X) (done (by kernel_rfl) rbu_refl rfl)
          · refine rs_plain rfl rfl fun a wr S => ?_
            have X := undrew S.ext
            obtain ⟨v2, e2, h2⟩ := S.got 2 (by kernel_rfl)
            exact st_call cf_rat_Neg (args1 ((ev_of (e2 68 (by kernel_rfl))).trans h2)) (by kernel_rfl) rb ((cQNeg (show IsQm _ _ _ _ from (Qa.below X)) (by omega) (by omega)).mono (ansQ_base X.size)) (fun _ _ _ h => h)
          · refine rs_plain rfl rfl fun a wr S => ?_
            have X := undrew S.ext
            exact wp_qload (ev_of ((S.old 4 (by kernel_rfl)).trans rfl)) (Xb.below X) (done (by kernel_rfl) rbu_refl rfl)
          · refine rs_plain rfl rfl fun a wr S => ?_
            have X := undrew S.ext
            obtain ⟨v4, e4, h4⟩ := S.got 4 (by kernel_rfl)
            exact st_call cf_rat_Neg (args1 ((ev_of (e4 70 (by kernel_rfl))).trans h4)) (by kernel_rfl) rb ((cQNeg (show IsQm _ _ _ _ from (Qb.below X)) (by omega) (by omega)).mono (ansQ_base X.size)) (fun _ _ _ h => h)
          · refine rs_plain rfl rfl fun a wr S => ?_
            have X := undrew S.ext
            obtain ⟨v3, e3, h3⟩ := S.got 3 (by kernel_rfl)
            obtain ⟨v5, e5, h5⟩ := S.got 5 (by kernel_rfl)
            exact st_call cf_law03_same (args2 (ev_of (e3 69 (by kernel_rfl))) (ev_of (e5 71 (by kernel_rfl)))) (by kernel_rfl) rb (cSame3 (show IsQt _ _ _ _ from h3.t) (show IsQt _ _ _ _ from h5.t) (by omega) (by omega) (r := false) ⟨fun h => (by cases h), fun h => absurd h HEQ.out⟩) (fun _ _ _ h => h)
          · refine rs_plain rfl rfl fun a wr S => ?_
            have X := undrew S.ext
            obtain ⟨v1, e1, h1⟩ := S.got 1 (by kernel_rfl)
            obtain ⟨v6, e6, h6⟩ := S.got 6 (by kernel_rfl)
            exact wp_eqB ((ev_of (e1 67 (by kernel_rfl))).trans h1) ((ev_of (e6 72 (by kernel_rfl))).trans h6) (done (by kernel_rfl) rbu_refl (congrArg Value.bool (by decide)))
          · refine rs_plain rfl rfl fun a wr S => ?_
            have X := undrew S.ext
            obtain ⟨v7, e7, h7⟩ := S.got 7 (by kernel_rfl)
            exact wp_mv ((ev_of (e7 73 (by kernel_rfl))).trans h7) (done (by kernel_rfl) rbu_refl rfl)
          · refine rs_yes rfl rfl (by kernel_rfl) (by kernel_rfl : _ = some 74) (fun _ _ _ h => h) fun a wr S => ?_
            have X := undrew S.ext
            exact wp_mv (ev_of ((S.old 7 (by kernel_rfl)).trans rfl)) (done (by kernel_rfl) rbu_refl rfl)
          · refine rs_yes rfl rfl (by kernel_rfl) (by kernel_rfl : _ = some 74) (fun _ _ _ h => h) fun a wr S => ?_
            have X := undrew S.ext
            obtain ⟨v9, e9, h9⟩ := S.got 9 (by kernel_rfl)
            exact wp_gtI ((ev_of (e9 75 (by kernel_rfl))).trans h9) rfl (done (by kernel_rfl) rbu_refl (congrArg Value.bool (by decide)))
          · refine rs_yes rfl rfl (by kernel_rfl) (by kernel_rfl : _ = some 74) (fun _ _ _ h => h) fun a wr S => ?_
            have X := undrew S.ext
            obtain ⟨v10, e10, h10⟩ := S.got 10 (by kernel_rfl)
            exact wp_mv ((ev_of (e10 76 (by kernel_rfl))).trans h10) (done (by kernel_rfl) rbu_refl rfl)
          · refine rs_yes rfl rfl (by kernel_rfl) (by kernel_rfl : _ = some 77) (fun _ _ _ h => h) fun a wr S => ?_
            have X := undrew S.ext
            exact wp_qload (ev_of ((S.old 4 (by kernel_rfl)).trans rfl)) (Xb.below X) (done (by kernel_rfl) rbu_refl rfl)
          · refine rs_yes rfl rfl (by kernel_rfl) (by kernel_rfl : _ = some 77) (fun _ _ _ h => h) fun a wr S => ?_
            have X := undrew S.ext
            exact wp_qload (ev_of ((S.old 5 (by kernel_rfl)).trans rfl)) (Xc.below X) (done (by kernel_rfl) rbu_refl rfl)
          · refine rs_yes rfl rfl (by kernel_rfl) (by kernel_rfl : _ = some 77) (fun _ _ _ h => h) fun a wr S => ?_
            have X := undrew S.ext
            obtain ⟨v12, e12, h12⟩ := S.got 12 (by kernel_rfl)
            obtain ⟨v13, e13, h13⟩ := S.got 13 (by kernel_rfl)
            exact st_call cf_rat_Cmp (args2 ((ev_of (e12 78 (by kernel_rfl))).trans h12) ((ev_of (e13 79 (by kernel_rfl))).trans h13)) (by kernel_rfl) rb ((cQCmp (show IsQm _ _ _ _ from (Qb.below X)) (show IsQm _ _ _ _ from (Qc.below X)) (by omega) (by omega) (by omega) (by omega)).mono (ans_int HT.out)) (fun _ _ _ h => h)
          · refine rs_yes rfl rfl (by kernel_rfl) (by kernel_rfl : _ = some 77) (fun _ _ _ h => h) fun a wr S => ?_
            have X := undrew S.ext
            obtain ⟨v14, e14, h14⟩ := S.got 14 (by kernel_rfl)
            exact wp_gtI ((ev_of (e14 80 (by kernel_rfl))).trans h14) rfl (done (by kernel_rfl) rbu_refl (congrArg Value.bool (decide_eq_false hp)))
          · refine rs_yes rfl rfl (by kernel_rfl) (by kernel_rfl : _ = some 74) (fun _ _ _ h => h) fun a wr S => ?_
            have X := undrew S.ext
            obtain ⟨v11, e11, h11⟩ := S.got 11 (by kernel_rfl)
            obtain ⟨v15, e15, h15⟩ := S.got 15 (by kernel_rfl)
            exact wp_pickF ((ev_of (e11 77 (by kernel_rfl))).trans h11) ((ev_of (e15 81 (by kernel_rfl))).trans h15) (done (by kernel_rfl) rbu_refl rfl)
          · refine rs_yes rfl rfl (by kernel_rfl) (by kernel_rfl : _ = some 74) (fun _ _ _ h => h) fun a wr S => ?_
            have X := undrew S.ext
            obtain ⟨v16, e16, h16⟩ := S.got 16 (by kernel_rfl)
            exact wp_mv ((ev_of (e16 82 (by kernel_rfl))).trans h16) (done (by kernel_rfl) rbu_refl rfl)
          · refine rs_yes rfl rfl (by kernel_rfl) (by kernel_rfl : _ = some 83) (fun _ _ _ h => h) fun a wr S => ?_
            have X := undrew S.ext
            exact wp_qload (ev_of ((S.old 3 (by kernel_rfl)).trans rfl)) (Xa.below X) (done (by kernel_rfl) rbu_refl rfl)
          · refine rs_yes rfl rfl (by kernel_rfl) (by kernel_rfl : _ = some 83) (fun _ _ _ h => h) fun a wr S => ?_
            have X := undrew S.ext
            exact wp_qload (ev_of ((S.old 5 (by kernel_rfl)).trans rfl)) (Xc.below X) (done (by kernel_rfl) rbu_refl rfl)
          · refine rs_yes rfl rfl (by kernel_rfl) (by kernel_rfl : _ = some 83) (fun _ _ _ h => h) fun a wr S => ?_
            have X := undrew S.ext
            obtain ⟨v18, e18, h18⟩ := S.got 18 (by kernel_rfl)
            obtain ⟨v19, e19, h19⟩ := S.got 19 (by kernel_rfl)
            exact st_call cf_rat_Cmp (args2 ((ev_of (e18 84 (by kernel_rfl))).trans h18) ((ev_of (e19 85 (by kernel_rfl))).trans h19)) (by kernel_rfl) rb ((cQCmp (show IsQm _ _ _ _ from (Qa.below X)) (show IsQm _ _ _ _ from (Qc.below X)) (by omega) (by omega) (by omega) (by omega)).mono (ans_int HU.out)) (fun _ _ _ h => h)
          · refine rs_yes rfl rfl (by kernel_rfl) (by kernel_rfl : _ = some 83) (fun _ _ _ h => h) fun a wr S => ?_
            have X := undrew S.ext
            obtain ⟨v20, e20, h20⟩ := S.got 20 (by kernel_rfl)
            exact wp_leI ((ev_of (e20 86 (by kernel_rfl))).trans h20) rfl (done (by kernel_rfl) rbu_refl (congrArg Value.bool (decide_eq_true hu)))
          · refine rs_yes rfl rfl (by kernel_rfl) (by kernel_rfl : _ = some 74) (fun _ _ _ h => h) fun a wr S => ?_
            have X := undrew S.ext
            obtain ⟨v17, e17, h17⟩ := S.got 17 (by kernel_rfl)
            obtain ⟨v21, e21, h21⟩ := S.got 21 (by kernel_rfl)
            exact wp_pickF ((ev_of (e17 83 (by kernel_rfl))).trans h17) ((ev_of (e21 87 (by kernel_rfl))).trans h21) (done (by kernel_rfl) rbu_refl rfl)
          · refine rs_plain rfl rfl fun a wr S => ?_
            have X := undrew S.ext
            obtain ⟨v8, e8, h8⟩ := S.got 8 (by kernel_rfl)
            obtain ⟨v22, e22, h22⟩ := S.got 22 (by kernel_rfl)
            exact wp_pickT ((ev_of (e8 74 (by kernel_rfl))).trans h8) ((ev_of (e22 88 (by kernel_rfl))).trans h22) (done (by kernel_rfl) rbu_refl rfl)
          · refine rs_plain rfl rfl fun a wr S => ?_
            have X := undrew S.ext
            obtain ⟨v23, e23, h23⟩ := S.got 23 (by kernel_rfl)
            exact wp_as ((ev_of (e23 89 (by kernel_rfl))).trans h23) (done (by kernel_rfl) rbu_refl rfl)
        · intro fc w5 hR hv
          replace hR := undrew hR
          have f0 : fc 0 = .int .i64 (-1) := (hvc (hv 0 (by omega))).elim fun _ h => h
          have f1 : fc 1 = .bool false := (hvc (hv 1 (by omega))).elim fun _ h => h
          have f2 : fc 2 = .agg #[.bool sa, .slice Aa (min na 4) ca, .slice Ba (min ma 4) da] := (hvc (hv 2 (by omega))).elim fun _ h => h
          have f4 : fc 4 = .agg #[.bool sb, .slice Ab (min nb 4) cb, .slice Bb (min mb 4) db] := (hvc (hv 4 (by omega))).elim fun _ h => h
          have f6 : fc 6 = .bool false := (hvc (hv 6 (by omega))).elim fun _ h => h
          have f7 : fc 7 = .bool true := (hvc (hv 7 (by omega))).elim fun _ h => h
          have f8 : fc 8 = .bool true := (hvc (hv 8 (by omega))).elim fun _ h => h
          have f9 : fc 9 = .int .i64 (-1) := (hvc (hv 9 (by omega))).elim fun _ h => h
          have f10 : fc 10 = .bool false := (hvc (hv 10 (by omega))).elim fun _ h => h
          have f11 : fc 11 = .bool false := (hvc (hv 11 (by omega))).elim fun _ h => h
          have f12 : fc 12 = .agg #[.bool sb, .slice Ab (min nb 4) cb, .slice Bb (min mb 4) db] := (hvc (hv 12 (by omega))).elim fun _ h => h
          have f13 : fc 13 = .agg #[.bool sc, .slice Ac (min nc 4) cc, .slice Bc (min mc 4) dc] := (hvc (hv 13 (by omega))).elim fun _ h => h
          have f14 : fc 14 = .int .i64 t := (hvc (hv 14 (by omega))).elim fun _ h => h
          have f15 : fc 15 = .bool false := (hvc (hv 15 (by omega))).elim fun _ h => h
          have f16 : fc 16 = .bool false := (hvc (hv 16 (by omega))).elim fun _ h => h
          have f17 : fc 17 = .bool false := (hvc (hv 17 (by omega))).elim fun _ h => h
          have f18 : fc 18 = .agg #[.bool sa, .slice Aa (min na 4) ca, .slice Ba (min ma 4) da] := (hvc (hv 18 (by omega))).elim fun _ h => h
          have f19 : fc 19 = .agg #[.bool sc, .slice Ac (min nc 4) cc, .slice Bc (min mc 4) dc] := (hvc (hv 19 (by omega))).elim fun _ h => h
          have f20 : fc 20 = .int .i64 u := (hvc (hv 20 (by omega))).elim fun _ h => h
          have f21 : fc 21 = .bool true := (hvc (hv 21 (by omega))).elim fun _ h => h
          have f22 : fc 22 = .bool true := (hvc (hv 22 (by omega))).elim fun _ h => h
          have f23 : fc 23 = .bool true := (hvc (hv 23 (by omega))).elim fun _ h => h
          have f24 : fc 24 = .bool true := (hvc (hv 24 (by omega))).elim fun _ h => h
          simp only [putFn, Act.put, List.setIfInBounds_toArray, List.set_cons_zero, List.set_cons_succ, f0, f1, f2, f4, f6, f7, f8, f9, f10, f11, f12, f13, f14, f15, f16, f17, f18, f19, f20, f21, f22, f23, f24]
          replace BB := bl_trans BB hR
          clear hR hv
          go_wp2_with fail
          go_ret
          exact ⟨rfl, BB⟩

set_option maxHeartbeats 4000000 in
theorem ratOrder_z (sa : Bool) (Aa : Option Addr) (na ca : Nat) (xa : List Nat) (Ba : Option Addr) (ma da : Nat) (ya : List Nat) (sb : Bool) (Ab : Option Addr) (nb cb : Nat) (xb : List Nat) (Bb : Option Addr) (mb db : Nat) (yb : List Nat) (sc : Bool) (Ac : Option Addr) (nc cc : Nat) (xc : List Nat) (Bc : Option Addr) (mc dc : Nat) (yc : List Nat) (qa qb qc : Rat) (s : Int) (w : World) (s0 : -1 ≤ s) (s1 : s ≤ 1) (HW : ∀ W : World, Calls Tryz.prog 39 #[] W (Ans W fun _ v => v = .bool true)) (Ha : Hid (Rd w Aa na ca xa)) (Ia : Hid (na ≤ maxLen)) (Ja : Hid (Rd w Ba ma da ya)) (Ka : Hid (ma ≤ maxLen)) (Hb : Hid (Rd w Ab nb cb xb)) (Ib : Hid (nb ≤ maxLen)) (Jb : Hid (Rd w Bb mb db yb)) (Kb : Hid (mb ≤ maxLen)) (Hc : Hid (Rd w Ac nc cc xc)) (Ic : Hid (nc ≤ maxLen)) (Jc : Hid (Rd w Bc mc dc yc)) (Kc : Hid (mc ≤ maxLen)) (Za : Hid (qa = mkRat (zv sa (M.val (xa.take (min na 4)))) (dOf (M.val (ya.take (min ma 4)))))) (Zb : Hid (qb = mkRat (zv sb (M.val (xb.take (min nb 4)))) (dOf (M.val (yb.take (min mb 4)))))) (Zc : Hid (qc = mkRat (zv sc (M.val (xc.take (min nc 4)))) (dOf (M.val (yc.take (min mc 4)))))) (HK : Hid (cmpQ qa qb = 0)) (HBA : Hid (cmpQ qb qa = 0)) (HAC : Hid (cmpQ (qa + qc) (qb + qc) = 0)) (HMC : Hid (cmpQ (qa * qc) (qb * qc) = 0 * s)) (HSC : Hid (sgn qc.num = s)) (HSU : Hid (sgn (qa - qb).num = 0)) (HEQ : Hid (-qa = -qb)) : Calls Tryz.prog 7 #[.agg #[.bool sa, .slice Aa na ca, .slice Ba ma da], .agg #[.bool sb, .slice Ab nb cb, .slice Bb mb db], .agg #[.bool sc, .slice Ac nc cc, .slice Bc mc dc]] w fun e w' => e = .returned (.bool true) ∧ Below w.heap.size w w' := by
  have BB := bl_trans (bl_trans (bl_alloc w (.cells #[.bool sa, .slice Aa na ca, .slice Ba ma da] 26)) (bl_alloc _ (.cells #[.bool sb, .slice Ab nb cb, .slice Bb mb db] 26))) (bl_alloc _ (.cells #[.bool sc, .slice Ac nc cc, .slice Bc mc dc] 26))
  have Pa := ((Bq.new w sa Aa na ca Ba ma da).alloc (.cells #[.bool sb, .slice Ab nb cb, .slice Bb mb db] 26)).alloc (.cells #[.bool sc, .slice Ac nc cc, .slice Bc mc dc] 26)
  have Pb := (Bq.new2 w (.cells #[.bool sa, .slice Aa na ca, .slice Ba ma da] 26) sb Ab nb cb Bb mb db).alloc (.cells #[.bool sc, .slice Ac nc cc, .slice Bc mc dc] 26)
  have Pc := Bq.new3 w (.cells #[.bool sa, .slice Aa na ca, .slice Ba ma da] 26) (.cells #[.bool sb, .slice Ab nb cb, .slice Bb mb db] 26) sc Ac nc cc Bc mc dc
  go_enter Tryz.func7, Tryz.ntmps7
  go_wp2_with fail
  refine (HW _).mono ?_
  rintro e w1 ⟨_, rfl, hb1, rfl⟩
  replace Pa := Pa.below hb1
  replace Pb := Pb.below hb1
  replace Pc := Pc.below hb1
  replace BB := bl_trans BB hb1
  clear hb1 HW
  go_wp2_with fail
  refine wp_cut (by kernel_rfl) 6 ?_
  simp only [List.take_succ_cons, List.take_zero, List.drop_succ_cons, List.drop_zero]
  refine wp_cut_list (Ext := RB) (Rel := RBu) [fun v _ _ => v = .agg #[.bool sa, .slice Aa na ca, .slice Ba ma da], fun v _ _ => v = .agg #[.bool sa, .slice Aa (min na 4) ca, .slice Ba (min ma 4) da], fun v _ _ => v = .agg #[.bool sb, .slice Ab nb cb, .slice Bb mb db], fun v _ _ => v = .agg #[.bool sb, .slice Ab (min nb 4) cb, .slice Bb (min mb 4) db], fun v _ _ => v = .agg #[.bool sc, .slice Ac nc cc, .slice Bc mc dc], fun v _ _ => v = .agg #[.bool sc, .slice Ac (min nc 4) cc, .slice Bc (min mc 4) dc]] (n := 6) (by kernel_rfl) (by kernel_rfl) (by kernel_rfl) (by kernel_rfl) (by kernel_rfl) (by kernel_rfl) (by kernel_rfl) (by kernel_rfl) (by kernel_rfl) rb_refl rb_trans ⟨sC, ⟨sC, ⟨sC, ⟨sC, ⟨sC, ⟨sC, trivial⟩⟩⟩⟩⟩⟩ ?_ ?_
  · refine ⟨⟨⟨⟨⟨⟨trivial, ?_⟩, ?_⟩, ?_⟩, ?_⟩, ?_⟩, ?_⟩
    · refine rs_plain rfl rfl fun a wr S => ?_
      have X := undrew S.ext
      exact wp_qload (ev_of ((S.old 3 (by kernel_rfl)).trans rfl)) (Pa.below X) (done (by kernel_rfl) rbu_refl rfl)
    · refine rs_plain rfl rfl fun a wr S => ?_
      have X := undrew S.ext
      obtain ⟨v0, e0, h0⟩ := S.got 0 (by kernel_rfl)
      exact st_call cf_law03_few (args2 ((ev_of (e0 10 (by kernel_rfl))).trans h0) rfl) (by kernel_rfl) rb (cFew3 Ha.out.cap Ja.out.cap Ia.out Ka.out 4 _ rfl (by omega)) (fun _ _ _ h => h)
    · refine rs_plain rfl rfl fun a wr S => ?_
      have X := undrew S.ext
      exact wp_qload (ev_of ((S.old 4 (by kernel_rfl)).trans rfl)) (Pb.below X) (done (by kernel_rfl) rbu_refl rfl)
    · refine rs_plain rfl rfl fun a wr S => ?_
      have X := undrew S.ext
      obtain ⟨v2, e2, h2⟩ := S.got 2 (by kernel_rfl)
      exact st_call cf_law03_few (args2 ((ev_of (e2 12 (by kernel_rfl))).trans h2) rfl) (by kernel_rfl) rb (cFew3 Hb.out.cap Jb.out.cap Ib.out Kb.out 4 _ rfl (by omega)) (fun _ _ _ h => h)
    · refine rs_plain rfl rfl fun a wr S => ?_
      have X := undrew S.ext
      exact wp_qload (ev_of ((S.old 5 (by kernel_rfl)).trans rfl)) (Pc.below X) (done (by kernel_rfl) rbu_refl rfl)
    · refine rs_plain rfl rfl fun a wr S => ?_
      have X := undrew S.ext
      obtain ⟨v4, e4, h4⟩ := S.got 4 (by kernel_rfl)
      exact st_call cf_law03_few (args2 ((ev_of (e4 14 (by kernel_rfl))).trans h4) rfl) (by kernel_rfl) rb (cFew3 Hc.out.cap Jc.out.cap Ic.out Kc.out 4 _ rfl (by omega)) (fun _ _ _ h => h)
  · intro fa w2 hR hv hap
    clear hap
    replace hR := undrew hR
    have f0 : fa 0 = .agg #[.bool sa, .slice Aa na ca, .slice Ba ma da] := (hvc (hv 0 (by omega))).elim fun _ h => h
    have f1 : fa 1 = .agg #[.bool sa, .slice Aa (min na 4) ca, .slice Ba (min ma 4) da] := (hvc (hv 1 (by omega))).elim fun _ h => h
    have f2 : fa 2 = .agg #[.bool sb, .slice Ab nb cb, .slice Bb mb db] := (hvc (hv 2 (by omega))).elim fun _ h => h
    have f3 : fa 3 = .agg #[.bool sb, .slice Ab (min nb 4) cb, .slice Bb (min mb 4) db] := (hvc (hv 3 (by omega))).elim fun _ h => h
    have f4 : fa 4 = .agg #[.bool sc, .slice Ac nc cc, .slice Bc mc dc] := (hvc (hv 4 (by omega))).elim fun _ h => h
    have f5 : fa 5 = .agg #[.bool sc, .slice Ac (min nc 4) cc, .slice Bc (min mc 4) dc] := (hvc (hv 5 (by omega))).elim fun _ h => h
    simp only [putFn, Act.put, List.setIfInBounds_toArray, List.set_cons_zero, List.set_cons_succ, f0, f1, f2, f3, f4, f5]
    replace Pa := Pa.below hR
    replace Pb := Pb.below hR
    replace Pc := Pc.below hR
    replace BB := bl_trans BB hR
    clear hR hv
    have ra0 := Pa.c0
    have fa0 := Pa.f 0
    have ra1 := Pa.c1
    have fa1 := Pa.f 1
    have ra2 := Pa.c2
    have fa2 := Pa.f 2
    have rb0 := Pb.c0
    have fb0 := Pb.f 0
    have rb1 := Pb.c1
    have fb1 := Pb.f 1
    have rb2 := Pb.c2
    have fb2 := Pb.f 2
    have rc0 := Pc.c0
    have fc0 := Pc.f 0
    have rc1 := Pc.c1
    have fc1 := Pc.f 1
    have rc2 := Pc.c2
    have fc2 := Pc.f 2
    go_wp2_with fail
    clear ra0 fa0 ra1 fa1 ra2 fa2 rb0 fb0 rb1 fb1 rb2 fb2 rc0 fc0 rc1 fc1 rc2 fc2
    have Xa := (((((((Pa.set3 (b' := sa) (A' := Aa) (n' := min na 4) (c' := ca) (B' := Ba) (m' := min ma 4) (d' := da)).other (g' := w.heap.size + 1) (i := 0) (v := .bool sb) (by omega)).other (g' := w.heap.size + 1) (i := 1) (v := .slice Ab (min nb 4) cb) (by omega)).other (g' := w.heap.size + 1) (i := 2) (v := .slice Bb (min mb 4) db) (by omega)).other (g' := w.heap.size + 1 + 1) (i := 0) (v := .bool sc) (by omega)).other (g' := w.heap.size + 1 + 1) (i := 1) (v := .slice Ac (min nc 4) cc) (by omega)).other (g' := w.heap.size + 1 + 1) (i := 2) (v := .slice Bc (min mc 4) dc) (by omega))
    have Xb := (((((((Pb.other (g' := w.heap.size) (i := 0) (v := .bool sa) (by omega)).other (g' := w.heap.size) (i := 1) (v := .slice Aa (min na 4) ca) (by omega)).other (g' := w.heap.size) (i := 2) (v := .slice Ba (min ma 4) da) (by omega)).set3 (b' := sb) (A' := Ab) (n' := min nb 4) (c' := cb) (B' := Bb) (m' := min mb 4) (d' := db)).other (g' := w.heap.size + 1 + 1) (i := 0) (v := .bool sc) (by omega)).other (g' := w.heap.size + 1 + 1) (i := 1) (v := .slice Ac (min nc 4) cc) (by omega)).other (g' := w.heap.size + 1 + 1) (i := 2) (v := .slice Bc (min mc 4) dc) (by omega))
    have Xc := (((((((Pc.other (g' := w.heap.size) (i := 0) (v := .bool sa) (by omega)).other (g' := w.heap.size) (i := 1) (v := .slice Aa (min na 4) ca) (by omega)).other (g' := w.heap.size) (i := 2) (v := .slice Ba (min ma 4) da) (by omega)).other (g' := w.heap.size + 1) (i := 0) (v := .bool sb) (by omega)).other (g' := w.heap.size + 1) (i := 1) (v := .slice Ab (min nb 4) cb) (by omega)).other (g' := w.heap.size + 1) (i := 2) (v := .slice Bb (min mb 4) db) (by omega)).set3 (b' := sc) (A' := Ac) (n' := min nc 4) (c' := cc) (B' := Bc) (m' := min mc 4) (d' := dc))
    replace BB := (((((((((BB.setCell (p := ⟨w.heap.size, 0, none⟩) (by show _ ≤ w.heap.size; omega) (.bool sa)).setCell (p := ⟨w.heap.size, 1, none⟩) (by show _ ≤ w.heap.size; omega) (.slice Aa (min na 4) ca)).setCell (p := ⟨w.heap.size, 2, none⟩) (by show _ ≤ w.heap.size; omega) (.slice Ba (min ma 4) da)).setCell (p := ⟨w.heap.size + 1, 0, none⟩) (by show _ ≤ w.heap.size + 1; omega) (.bool sb)).setCell (p := ⟨w.heap.size + 1, 1, none⟩) (by show _ ≤ w.heap.size + 1; omega) (.slice Ab (min nb 4) cb)).setCell (p := ⟨w.heap.size + 1, 2, none⟩) (by show _ ≤ w.heap.size + 1; omega) (.slice Bb (min mb 4) db)).setCell (p := ⟨w.heap.size + 1 + 1, 0, none⟩) (by show _ ≤ w.heap.size + 1 + 1; omega) (.bool sc)).setCell (p := ⟨w.heap.size + 1 + 1, 1, none⟩) (by show _ ≤ w.heap.size + 1 + 1; omega) (.slice Ac (min nc 4) cc)).setCell (p := ⟨w.heap.size + 1 + 1, 2, none⟩) (by show _ ≤ w.heap.size + 1 + 1; omega) (.slice Bc (min mc 4) dc))
    clear Pa Pb Pc
    generalize (((((((((w2.setCell ⟨w.heap.size, 0, none⟩ (.bool sa)).setCell ⟨w.heap.size, 1, none⟩ (.slice Aa (min na 4) ca)).setCell ⟨w.heap.size, 2, none⟩ (.slice Ba (min ma 4) da)).setCell ⟨w.heap.size + 1, 0, none⟩ (.bool sb)).setCell ⟨w.heap.size + 1, 1, none⟩ (.slice Ab (min nb 4) cb)).setCell ⟨w.heap.size + 1, 2, none⟩ (.slice Bb (min mb 4) db)).setCell ⟨w.heap.size + 1 + 1, 0, none⟩ (.bool sc)).setCell ⟨w.heap.size + 1 + 1, 1, none⟩ (.slice Ac (min nc 4) cc)).setCell ⟨w.heap.size + 1 + 1, 2, none⟩ (.slice Bc (min mc 4) dc)) = wh at Xa Xb Xc BB ⊢
    have Qa : IsQm wh (.agg #[.bool sa, .slice Aa (min na 4) ca, .slice Ba (min ma 4) da]) qa 4 := by rw [Za.out]; exact few_q (Ha.out.below BB) (Ja.out.below BB) 4
    have Qb : IsQm wh (.agg #[.bool sb, .slice Ab (min nb 4) cb, .slice Bb (min mb 4) db]) qb 4 := by rw [Zb.out]; exact few_q (Hb.out.below BB) (Jb.out.below BB) 4
    have Qc : IsQm wh (.agg #[.bool sc, .slice Ac (min nc 4) cc, .slice Bc (min mc 4) dc]) qc 4 := by rw [Zc.out]; exact few_q (Hc.out.below BB) (Jc.out.below BB) 4
    clear Ha Ia Ja Ka Za Hb Ib Jb Kb Zb Hc Ic Jc Kc Zc
    have xa0 := Xa.c0
    have xa1 := Xa.c1
    have xa2 := Xa.c2
    have xb0 := Xb.c0
    have xb1 := Xb.c1
    have xb2 := Xb.c2
    have xc0 := Xc.c0
    have xc1 := Xc.c1
    have xc2 := Xc.c2
    refine (cQCmp Qa Qb (by omega) (by omega) (by omega) (by omega)).mono ?_
    rw [HK.out]
    rintro e w3 ⟨_, rfl, hb3, rfl⟩
    clear xa0 xa1 xa2 xb0 xb1 xb2 xc0 xc1 xc2
    replace Xa := Xa.below hb3
    replace Qa := Qa.below hb3
    replace Xb := Xb.below hb3
    replace Qb := Qb.below hb3
    replace Xc := Xc.below hb3
    replace Qc := Qc.below hb3
    replace BB := bl_trans BB hb3
    clear hb3
    go_wp2_with fail
    refine wp_region_list (Ext := RB) (Rel := RBu) [fun v _ _ => v = .int .i64 0, fun v _ _ => v = .bool false, fun v _ _ => v = .bool false, fun v _ _ => v = .int .i64 0, fun v _ _ => v = .bool false, fun v _ _ => v = .bool false, fun v _ _ => v = .bool false, fun v _ _ => v = .agg #[.bool sb, .slice Ab (min nb 4) cb, .slice Bb (min mb 4) db], fun v _ _ => v = .agg #[.bool sa, .slice Aa (min na 4) ca, .slice Ba (min ma 4) da], fun v _ _ => v = .int .i64 0, fun v _ _ => v = .int .i64 0, fun v _ _ => v = .int .i64 (-0), fun v _ _ => v = .bool false, fun v _ _ => v = .bool false, fun v _ _ => v = .bool false, fun v _ _ => v = .agg #[.bool sa, .slice Aa (min na 4) ca, .slice Ba (min ma 4) da], fun v _ _ => v = .agg #[.bool sc, .slice Ac (min nc 4) cc, .slice Bc (min mc 4) dc], fun v _ w => IsQ (w3).heap.size w v (qa + qc) 9, fun v _ _ => v = .agg #[.bool sb, .slice Ab (min nb 4) cb, .slice Bb (min mb 4) db], fun v _ _ => v = .agg #[.bool sc, .slice Ac (min nc 4) cc, .slice Bc (min mc 4) dc], fun v _ w => IsQ (w3).heap.size w v (qb + qc) 9, fun v _ _ => v = .int .i64 0, fun v _ _ => v = .int .i64 0, fun v _ _ => v = .bool false, fun v _ _ => v = .bool false, fun v _ _ => v = .bool false, fun v _ _ => v = .agg #[.bool sa, .slice Aa (min na 4) ca, .slice Ba (min ma 4) da], fun v _ _ => v = .agg #[.bool sc, .slice Ac (min nc 4) cc, .slice Bc (min mc 4) dc], fun v _ w => IsQ (w3).heap.size w v (qa * qc) 8, fun v _ _ => v = .agg #[.bool sb, .slice Ab (min nb 4) cb, .slice Bb (min mb 4) db], fun v _ _ => v = .agg #[.bool sc, .slice Ac (min nc 4) cc, .slice Bc (min mc 4) dc], fun v _ w => IsQ (w3).heap.size w v (qb * qc) 8, fun v _ _ => v = .int .i64 (0 * s), fun v _ _ => v = .int .i64 0, fun v _ _ => v = .agg #[.bool sc, .slice Ac (min nc 4) cc, .slice Bc (min mc 4) dc], fun v _ _ => v = .int .i64 s, fun v _ _ => v = .int .i64 (0 * s), fun v _ _ => v = .bool false, fun v _ _ => v = .bool false, fun v _ _ => v = .bool false, fun v _ _ => v = .agg #[.bool sa, .slice Aa (min na 4) ca, .slice Ba (min ma 4) da], fun v _ _ => v = .agg #[.bool sb, .slice Ab (min nb 4) cb, .slice Bb (min mb 4) db], fun v _ w => IsQ (w3).heap.size w v (qa - qb) 9, fun v _ _ => v = .int .i64 0, fun v _ _ => v = .int .i64 0, fun v _ _ => v = .bool false, fun v _ _ => v = .bool false] (n := 47) (by kernel_rfl) rfl (by kernel_rfl) (by kernel_rfl) (by kernel_rfl) (by kernel_rfl) (by kernel_rfl) rb_refl rb_trans ⟨sC, ⟨sC, ⟨sC, ⟨sC, ⟨sC, ⟨sC, ⟨sC, ⟨sC, ⟨sC, ⟨sC, ⟨sC, ⟨sC, ⟨sC, ⟨sC, ⟨sC, ⟨sC, ⟨sC, ⟨sQ, ⟨sC, ⟨sC, ⟨sQ, ⟨sC, ⟨sC, ⟨sC, ⟨sC, ⟨sC, ⟨sC, ⟨sC, ⟨sQ, ⟨sC, ⟨sC, ⟨sQ, ⟨sC, ⟨sC, ⟨sC, ⟨sC, ⟨sC, ⟨sC, ⟨sC, ⟨sC, ⟨sC, ⟨sC, ⟨sQ, ⟨sC, ⟨sC, ⟨sC, ⟨sC, trivial⟩⟩⟩⟩⟩⟩⟩⟩⟩⟩⟩⟩⟩⟩⟩⟩⟩⟩⟩⟩⟩⟩⟩⟩⟩⟩⟩⟩⟩⟩⟩⟩⟩⟩⟩⟩⟩⟩⟩⟩⟩⟩⟩⟩⟩⟩⟩ ?_ ?_
    · refine ⟨⟨⟨⟨⟨⟨⟨⟨⟨⟨⟨⟨⟨⟨⟨⟨⟨⟨⟨⟨⟨⟨⟨⟨⟨⟨⟨⟨⟨⟨⟨⟨⟨⟨⟨⟨⟨⟨⟨⟨⟨⟨⟨⟨⟨⟨⟨trivial, ?_⟩, ?_⟩, ?_⟩, ?_⟩, ?_⟩, ?_⟩, ?_⟩, ?_⟩, ?_⟩, ?_⟩, ?_⟩, ?_⟩, ?_⟩, ?_⟩, ?_⟩, ?_⟩, ?_⟩, ?_⟩, ?_⟩, ?_⟩, ?_⟩, ?_⟩, ?_⟩, ?_⟩, ?_⟩, ?_⟩, ?_⟩, ?_⟩, ?_⟩, ?_⟩, ?_⟩, ?_⟩, ?_⟩, ?_⟩, ?_⟩, ?_⟩, ?_⟩, ?_⟩, ?_⟩, ?_⟩, ?_⟩, ?_⟩, ?_⟩, ?_⟩, ?_⟩, ?_⟩, ?_⟩
      · refine rs_plain rfl rfl fun a wr S => ?_
        have X := undrew S.ext
        exact wp_mv (ev_of ((S.old 7 (by kernel_rfl)).trans rfl)) (done (by kernel_rfl) rbu_refl rfl)
      · refine rs_plain rfl rfl fun a wr S => ?_
        have X := undrew S.ext
        obtain ⟨v0, e0, h0⟩ := S.got 0 (by kernel_rfl)
        exact wp_ltI ((ev_of (e0 19 (by kernel_rfl))).trans h0) rfl (done (by kernel_rfl) rbu_refl (congrArg Value.bool (by decide)))
      · refine rs_plain rfl rfl fun a wr S => ?_
        have X := undrew S.ext
        obtain ⟨v1, e1, h1⟩ := S.got 1 (by kernel_rfl)
        exact wp_mv ((ev_of (e1 20 (by kernel_rfl))).trans h1) (done (by kernel_rfl) rbu_refl rfl)
      · refine rs_yes rfl rfl (by kernel_rfl) (by kernel_rfl : _ = some 21) (fun _ _ _ h => h) fun a wr S => ?_
        have X := undrew S.ext
        exact wp_mv (ev_of ((S.old 7 (by kernel_rfl)).trans rfl)) (done (by kernel_rfl) rbu_refl rfl)
      · refine rs_yes rfl rfl (by kernel_rfl) (by kernel_rfl : _ = some 21) (fun _ _ _ h => h) fun a wr S => ?_
        have X := undrew S.ext
        obtain ⟨v3, e3, h3⟩ := S.got 3 (by kernel_rfl)
        exact wp_gtI ((ev_of (e3 22 (by kernel_rfl))).trans h3) rfl (done (by kernel_rfl) rbu_refl (congrArg Value.bool (by decide)))
      · refine rs_plain rfl rfl fun a wr S => ?_
        have X := undrew S.ext
        obtain ⟨v2, e2, h2⟩ := S.got 2 (by kernel_rfl)
        obtain ⟨v4, e4, h4⟩ := S.got 4 (by kernel_rfl)
        exact wp_pickF ((ev_of (e2 21 (by kernel_rfl))).trans h2) ((ev_of (e4 23 (by kernel_rfl))).trans h4) (done (by kernel_rfl) rbu_refl rfl)
      · refine rs_plain rfl rfl fun a wr S => ?_
        have X := undrew S.ext
        obtain ⟨v5, e5, h5⟩ := S.got 5 (by kernel_rfl)
        exact wp_mv ((ev_of (e5 24 (by kernel_rfl))).trans h5) (done (by kernel_rfl) rbu_refl rfl)
      · refine rs_yes rfl rfl (by kernel_rfl) (by kernel_rfl : _ = some 25) (fun _ _ _ h => h) fun a wr S => ?_
        have X := undrew S.ext
        exact wp_qload (ev_of ((S.old 4 (by kernel_rfl)).trans rfl)) (Xb.below X) (done (by kernel_rfl) rbu_refl rfl)
      · refine rs_yes rfl rfl (by kernel_rfl) (by kernel_rfl : _ = some 25) (fun _ _ _ h => h) fun a wr S => ?_
        have X := undrew S.ext
        exact wp_qload (ev_of ((S.old 3 (by kernel_rfl)).trans rfl)) (Xa.below X) (done (by kernel_rfl) rbu_refl rfl)
      · refine rs_yes rfl rfl (by kernel_rfl) (by kernel_rfl : _ = some 25) (fun _ _ _ h => h) fun a wr S => ?_
        have X := undrew S.ext
        obtain ⟨v7, e7, h7⟩ := S.got 7 (by kernel_rfl)
        obtain ⟨v8, e8, h8⟩ := S.got 8 (by kernel_rfl)
        exact st_call cf_rat_Cmp (args2 ((ev_of (e7 26 (by kernel_rfl))).trans h7) ((ev_of (e8 27 (by kernel_rfl))).trans h8)) (by kernel_rfl) rb ((cQCmp (show IsQm _ _ _ _ from (Qb.below X)) (show IsQm _ _ _ _ from (Qa.below X)) (by omega) (by omega) (by omega) (by omega)).mono (ans_int HBA.out)) (fun _ _ _ h => h)
      · refine rs_yes rfl rfl (by kernel_rfl) (by kernel_rfl : _ = some 25) (fun _ _ _ h => h) fun a wr S => ?_
        have X := undrew S.ext
        exact wp_mv (ev_of ((S.old 7 (by kernel_rfl)).trans rfl)) (done (by kernel_rfl) rbu_refl rfl)
      · refine rs_yes rfl rfl (by kernel_rfl) (by kernel_rfl : _ = some 25) (fun _ _ _ h => h) fun a wr S => ?_
        have X := undrew S.ext
        obtain ⟨v10, e10, h10⟩ := S.got 10 (by kernel_rfl)
        exact wp_negI ((ev_of (e10 29 (by kernel_rfl))).trans h10) (by decide) (by decide) (done (by kernel_rfl) rbu_refl rfl)
      · refine rs_yes rfl rfl (by kernel_rfl) (by kernel_rfl : _ = some 25) (fun _ _ _ h => h) fun a wr S => ?_
        have X := undrew S.ext
        obtain ⟨v9, e9, h9⟩ := S.got 9 (by kernel_rfl)
        obtain ⟨v11, e11, h11⟩ := S.got 11 (by kernel_rfl)
        exact wp_neI ((ev_of (e9 28 (by kernel_rfl))).trans h9) ((ev_of (e11 30 (by kernel_rfl))).trans h11) (Or.inl rfl) (done (by kernel_rfl) rbu_refl (congrArg Value.bool (by decide)))
      · refine rs_plain rfl rfl fun a wr S => ?_
        have X := undrew S.ext
        obtain ⟨v6, e6, h6⟩ := S.got 6 (by kernel_rfl)
        obtain ⟨v12, e12, h12⟩ := S.got 12 (by kernel_rfl)
        exact wp_pickF ((ev_of (e6 25 (by kernel_rfl))).trans h6) ((ev_of (e12 31 (by kernel_rfl))).trans h12) (done (by kernel_rfl) rbu_refl rfl)
      · refine rs_plain rfl rfl fun a wr S => ?_
        have X := undrew S.ext
        obtain ⟨v13, e13, h13⟩ := S.got 13 (by kernel_rfl)
        exact wp_mv ((ev_of (e13 32 (by kernel_rfl))).trans h13) (done (by kernel_rfl) rbu_refl rfl)
      · refine rs_yes rfl rfl (by kernel_rfl) (by kernel_rfl : _ = some 33) (fun _ _ _ h => h) fun a wr S => ?_
        have X := undrew S.ext
        exact wp_qload (ev_of ((S.old 3 (by kernel_rfl)).trans rfl)) (Xa.below X) (done (by kernel_rfl) rbu_refl rfl)
      · refine rs_yes rfl rfl (by kernel_rfl) (by kernel_rfl : _ = some 33) (fun _ _ _ h => h) fun a wr S => ?_
        have X := undrew S.ext
        exact wp_qload (ev_of ((S.old 5 (by kernel_rfl)).trans rfl)) (Xc.below X) (done (by kernel_rfl) rbu_refl rfl)
      · refine rs_yes rfl rfl (by kernel_rfl) (by kernel_rfl : _ = some 33) (fun _ _ _ h => h) fun a wr S => ?_
        have X := undrew S.ext
        obtain ⟨v15, e15, h15⟩ := S.got 15 (by kernel_rfl)
        obtain ⟨v16, e16, h16⟩ := S.got 16 (by kernel_rfl)
        exact st_call cf_rat_Add (args2 ((ev_of (e15 34 (by kernel_rfl))).trans h15) ((ev_of (e16 35 (by kernel_rfl))).trans h16)) (by kernel_rfl) rb ((cQAdd (show IsQm _ _ _ _ from (Qa.below X)) (show IsQm _ _ _ _ from (Qc.below X)) (by omega) (by omega) (by omega) (by omega)).mono (ansQ_base X.size)) (fun _ _ _ h => h)
      · refine rs_yes rfl rfl (by kernel_rfl) (by kernel_rfl : _ = some 33) (fun _ _ _ h => h) fun a wr S => ?_
        have X := undrew S.ext
        exact wp_qload (ev_of ((S.old 4 (by kernel_rfl)).trans rfl)) (Xb.below X) (done (by kernel_rfl) rbu_refl rfl)
      · refine rs_yes rfl rfl (by kernel_rfl) (by kernel_rfl : _ = some 33) (fun _ _ _ h => h) fun a wr S => ?_
        have X := undrew S.ext
        exact wp_qload (ev_of ((S.old 5 (by kernel_rfl)).trans rfl)) (Xc.below X) (done (by kernel_rfl) rbu_refl rfl)
      · refine rs_yes rfl rfl (by kernel_rfl) (by kernel_rfl : _ = some 33) (fun _ _ _ h => h) fun a wr S => ?_
        have X := undrew S.ext
        obtain ⟨v18, e18, h18⟩ := S.got 18 (by kernel_rfl)
        obtain ⟨v19, e19, h19⟩ := S.got 19 (by kernel_rfl)
        exact st_call cf_rat_Add (args2 ((ev_of (e18 37 (by kernel_rfl))).trans h18) ((ev_of (e19 38 (by kernel_rfl))).trans h19)) (by kernel_rfl) rb ((cQAdd (show IsQm _ _ _ _ from (Qb.below X)) (show IsQm _ _ _ _ from (Qc.below X)) (by omega) (by omega) (by omega) (by omega)).mono (ansQ_base X.size)) (fun _ _ _ h => h)
      · refine rs_yes rfl rfl (by kernel_rfl) (by kernel_rfl : _ = some 33) (fun _ _ _ h => h) fun a wr S => ?_
        have X := undrew S.ext
        obtain ⟨v17, e17, h17⟩ := S.got 17 (by kernel_rfl)
        obtain ⟨v20, e20, h20⟩ := S.got 20 (by kernel_rfl)
        exact st_call cf_rat_Cmp (args2 (ev_of (e17 36 (by kernel_rfl))) (ev_of (e20 39 (by kernel_rfl)))) (by kernel_rfl) rb ((cQCmp (show IsQm _ _ _ _ from h17.m) (show IsQm _ _ _ _ from h20.m) (by omega) (by omega) (by omega) (by omega)).mono (ans_int HAC.out)) (fun _ _ _ h => h)
      · refine rs_yes rfl rfl (by kernel_rfl) (by kernel_rfl : _ = some 33) (fun _ _ _ h => h) fun a wr S => ?_
        have X := undrew S.ext
        exact wp_mv (ev_of ((S.old 7 (by kernel_rfl)).trans rfl)) (done (by kernel_rfl) rbu_refl rfl)
      · refine rs_yes rfl rfl (by kernel_rfl) (by kernel_rfl : _ = some 33) (fun _ _ _ h => h) fun a wr S => ?_
        have X := undrew S.ext
        obtain ⟨v21, e21, h21⟩ := S.got 21 (by kernel_rfl)
        obtain ⟨v22, e22, h22⟩ := S.got 22 (by kernel_rfl)
        exact wp_neI ((ev_of (e21 40 (by kernel_rfl))).trans h21) ((ev_of (e22 41 (by kernel_rfl))).trans h22) (Or.inl rfl) (done (by kernel_rfl) rbu_refl (congrArg Value.bool (by decide)))
      · refine rs_plain rfl rfl fun a wr S => ?_
        have X := undrew S.ext
        obtain ⟨v14, e14, h14⟩ := S.got 14 (by kernel_rfl)
        obtain ⟨v23, e23, h23⟩ := S.got 23 (by kernel_rfl)
        exact wp_pickF ((ev_of (e14 33 (by kernel_rfl))).trans h14) ((ev_of (e23 42 (by kernel_rfl))).trans h23) (done (by kernel_rfl) rbu_refl rfl)
      · refine rs_plain rfl rfl fun a wr S => ?_
        have X := undrew S.ext
        obtain ⟨v24, e24, h24⟩ := S.got 24 (by kernel_rfl)
        exact wp_mv ((ev_of (e24 43 (by kernel_rfl))).trans h24) (done (by kernel_rfl) rbu_refl rfl)
      · refine rs_yes rfl rfl (by kernel_rfl) (by kernel_rfl : _ = some 44) (fun _ _ _ h => h) fun a wr S => ?_
        have X := undrew S.ext
        exact wp_qload (ev_of ((S.old 3 (by kernel_rfl)).trans rfl)) (Xa.below X) (done (by kernel_rfl) rbu_refl rfl)
      · refine rs_yes rfl rfl (by kernel_rfl) (by kernel_rfl : _ = some 44) (fun _ _ _ h => h) fun a wr S => ?_
        have X := undrew S.ext
        exact wp_qload (ev_of ((S.old 5 (by kernel_rfl)).trans rfl)) (Xc.below X) (done (by kernel_rfl) rbu_refl rfl)
      · refine rs_yes rfl rfl (by kernel_rfl) (by kernel_rfl : _ = some 44) (fun _ _ _ h => h) fun a wr S => ?_
        have X := undrew S.ext
        obtain ⟨v26, e26, h26⟩ := S.got 26 (by kernel_rfl)
        obtain ⟨v27, e27, h27⟩ := S.got 27 (by kernel_rfl)
        exact st_call cf_rat_Mul (args2 ((ev_of (e26 45 (by kernel_rfl))).trans h26) ((ev_of (e27 46 (by kernel_rfl))).trans h27)) (by kernel_rfl) rb ((cQMul (show IsQm _ _ _ _ from (Qa.below X)) (show IsQm _ _ _ _ from (Qc.below X)) (by omega) (by omega) (by omega) (by omega)).mono (ansQ_base X.size)) (fun _ _ _ h => h)
      · refine rs_yes rfl rfl (by kernel_rfl) (by kernel_rfl : _ = some 44) (fun _ _ _ h => h) fun a wr S => ?_
        have X := undrew S.ext
        exact wp_qload (ev_of ((S.old 4 (by kernel_rfl)).trans rfl)) (Xb.below X) (done (by kernel_rfl) rbu_refl rfl)
      · refine rs_yes rfl rfl (by kernel_rfl) (by kernel_rfl : _ = some 44) (fun _ _ _ h => h) fun a wr S => ?_
        have X := undrew S.ext
        exact wp_qload (ev_of ((S.old 5 (by kernel_rfl)).trans rfl)) (Xc.below X) (done (by kernel_rfl) rbu_refl rfl)
      · refine rs_yes rfl rfl (by kernel_rfl) (by kernel_rfl : _ = some 44) (fun _ _ _ h => h) fun a wr S => ?_
        have X := undrew S.ext
        obtain ⟨v29, e29, h29⟩ := S.got 29 (by kernel_rfl)
        obtain ⟨v30, e30, h30⟩ := S.got 30 (by kernel_rfl)
        exact st_call cf_rat_Mul (args2 ((ev_of (e29 48 (by kernel_rfl))).trans h29) ((ev_of (e30 49 (by kernel_rfl))).trans h30)) (by kernel_rfl) rb ((cQMul (show IsQm _ _ _ _ from (Qb.below X)) (show IsQm _ _ _ _ from (Qc.below X)) (by omega) (by omega) (by omega) (by omega)).mono (ansQ_base X.size)) (fun _ _ _ h => h)
      · refine rs_yes rfl rfl (by kernel_rfl) (by kernel_rfl : _ = some 44) (fun _ _ _ h => h) fun a wr S => ?_
        have X := undrew S.ext
        obtain ⟨v28, e28, h28⟩ := S.got 28 (by kernel_rfl)
        obtain ⟨v31, e31, h31⟩ := S.got 31 (by kernel_rfl)
        exact st_call cf_rat_Cmp (args2 (ev_of (e28 47 (by kernel_rfl))) (ev_of (e31 50 (by kernel_rfl)))) (by kernel_rfl) rb ((cQCmp (show IsQm _ _ _ _ from h28.m) (show IsQm _ _ _ _ from h31.m) (by omega) (by omega) (by omega) (by omega)).mono (ans_int HMC.out)) (fun _ _ _ h => h)
      · refine rs_yes rfl rfl (by kernel_rfl) (by kernel_rfl : _ = some 44) (fun _ _ _ h => h) fun a wr S => ?_
        have X := undrew S.ext
        exact wp_mv (ev_of ((S.old 7 (by kernel_rfl)).trans rfl)) (done (by kernel_rfl) rbu_refl rfl)
      · refine rs_yes rfl rfl (by kernel_rfl) (by kernel_rfl : _ = some 44) (fun _ _ _ h => h) fun a wr S => ?_
        have X := undrew S.ext
        exact wp_qload (ev_of ((S.old 5 (by kernel_rfl)).trans rfl)) (Xc.below X) (done (by kernel_rfl) rbu_refl rfl)
      · refine rs_yes rfl rfl (by kernel_rfl) (by kernel_rfl : _ = some 44) (fun _ _ _ h => h) fun a wr S => ?_
        have X := undrew S.ext
        obtain ⟨v34, e34, h34⟩ := S.got 34 (by kernel_rfl)
        exact st_call cf_rat_Sign (args1 ((ev_of (e34 53 (by kernel_rfl))).trans h34)) (by kernel_rfl) rb (cQSign (show IsQm _ _ _ _ from (Qc.below X)) (by omega) HSC.out) (fun _ _ _ h => h)
      · refine rs_yes rfl rfl (by kernel_rfl) (by kernel_rfl : _ = some 44) (fun _ _ _ h => h) fun a wr S => ?_
        have X := undrew S.ext
        obtain ⟨v33, e33, h33⟩ := S.got 33 (by kernel_rfl)
        obtain ⟨v35, e35, h35⟩ := S.got 35 (by kernel_rfl)
        exact wp_mulI ((ev_of (e33 52 (by kernel_rfl))).trans h33) ((ev_of (e35 54 (by kernel_rfl))).trans h35) (by omega) (by omega) (done (by kernel_rfl) rbu_refl rfl)
      · refine rs_yes rfl rfl (by kernel_rfl) (by kernel_rfl : _ = some 44) (fun _ _ _ h => h) fun a wr S => ?_
        have X := undrew S.ext
        obtain ⟨v32, e32, h32⟩ := S.got 32 (by kernel_rfl)
        obtain ⟨v36, e36, h36⟩ := S.got 36 (by kernel_rfl)
        exact wp_neI ((ev_of (e32 51 (by kernel_rfl))).trans h32) ((ev_of (e36 55 (by kernel_rfl))).trans h36) (Or.inl rfl) (done (by kernel_rfl) rbu_refl (congrArg Value.bool (bne_self_eq_false _)))
      · refine rs_plain rfl rfl fun a wr S => ?_
        have X := undrew S.ext
        obtain ⟨v25, e25, h25⟩ := S.got 25 (by kernel_rfl)
        obtain ⟨v37, e37, h37⟩ := S.got 37 (by kernel_rfl)
        exact wp_pickF ((ev_of (e25 44 (by kernel_rfl))).trans h25) ((ev_of (e37 56 (by kernel_rfl))).trans h37) (done (by kernel_rfl) rbu_refl rfl)
      · refine rs_plain rfl rfl fun a wr S => ?_
        have X := undrew S.ext
        obtain ⟨v38, e38, h38⟩ := S.got 38 (by kernel_rfl)
        exact wp_mv ((ev_of (e38 57 (by kernel_rfl))).trans h38) (done (by kernel_rfl) rbu_refl rfl)
      · refine rs_yes rfl rfl (by kernel_rfl) (by kernel_rfl : _ = some 58) (fun _ _ _ h => h) fun a wr S => ?_
        have X := undrew S.ext
        exact wp_qload (ev_of ((S.old 3 (by kernel_rfl)).trans rfl)) (Xa.below X) (done (by kernel_rfl) rbu_refl rfl)
      · refine rs_yes rfl rfl (by kernel_rfl) (by kernel_rfl : _ = some 58) (fun _ _ _ h => h) fun a wr S => ?_
        have X := undrew S.ext
        exact wp_qload (ev_of ((S.old 4 (by kernel_rfl)).trans rfl)) (Xb.below X) (done (by kernel_rfl) rbu_refl rfl)
      · refine rs_yes rfl rfl (by kernel_rfl) (by kernel_rfl : _ = some 58) (fun _ _ _ h => h) fun a wr S => ?_
        have X := undrew S.ext
        obtain ⟨v40, e40, h40⟩ := S.got 40 (by kernel_rfl)
        obtain ⟨v41, e41, h41⟩ := S.got 41 (by kernel_rfl)
        exact st_call cf_rat_Sub (args2 ((ev_of (e40 59 (by kernel_rfl))).trans h40) ((ev_of (e41 60 (by kernel_rfl))).trans h41)) (by kernel_rfl) rb ((cQSub (show IsQm _ _ _ _ from (Qa.below X)) (show IsQm _ _ _ _ from (Qb.below X)) (by omega) (by omega) (by omega) (by omega)).mono (ansQ_base X.size)) (fun _ _ _ h => h)
      · refine rs_yes rfl rfl (by kernel_rfl) (by kernel_rfl : _ = some 58) (fun _ _ _ h => h) fun a wr S => ?_
        have X := undrew S.ext
        obtain ⟨v42, e42, h42⟩ := S.got 42 (by kernel_rfl)
        exact st_call cf_rat_Sign (args1 (ev_of (e42 61 (by kernel_rfl)))) (by kernel_rfl) rb (cQSign (show IsQm _ _ _ _ from h42.m) (by omega) HSU.out) (fun _ _ _ h => h)
      · refine rs_yes rfl rfl (by kernel_rfl) (by kernel_rfl : _ = some 58) (fun _ _ _ h => h) fun a wr S => ?_
        have X := undrew S.ext
        exact wp_mv (ev_of ((S.old 7 (by kernel_rfl)).trans rfl)) (done (by kernel_rfl) rbu_refl rfl)
      · refine rs_yes rfl rfl (by kernel_rfl) (by kernel_rfl : _ = some 58) (fun _ _ _ h => h) fun a wr S => ?_
        have X := undrew S.ext
        obtain ⟨v43, e43, h43⟩ := S.got 43 (by kernel_rfl)
        obtain ⟨v44, e44, h44⟩ := S.got 44 (by kernel_rfl)
        exact wp_neI ((ev_of (e43 62 (by kernel_rfl))).trans h43) ((ev_of (e44 63 (by kernel_rfl))).trans h44) (Or.inl rfl) (done (by kernel_rfl) rbu_refl (congrArg Value.bool (by decide)))
      · refine rs_plain rfl rfl fun a wr S => ?_
        have X := undrew S.ext
        obtain ⟨v39, e39, h39⟩ := S.got 39 (by kernel_rfl)
        obtain ⟨v45, e45, h45⟩ := S.got 45 (by kernel_rfl)
        exact wp_pickF ((ev_of (e39 58 (by kernel_rfl))).trans h39) ((ev_of (e45 64 (by kernel_rfl))).trans h45) (done (by kernel_rfl) rbu_refl rfl)
    · intro fb w4 hR hv
      replace hR := undrew hR
      have f0 : fb 0 = .int .i64 0 := (hvc (hv 0 (by omega))).elim fun _ h => h
      have f1 : fb 1 = .bool false := (hvc (hv 1 (by omega))).elim fun _ h => h
      have f2 : fb 2 = .bool false := (hvc (hv 2 (by omega))).elim fun _ h => h
      have f3 : fb 3 = .int .i64 0 := (hvc (hv 3 (by omega))).elim fun _ h => h
      have f4 : fb 4 = .bool false := (hvc (hv 4 (by omega))).elim fun _ h => h
      have f5 : fb 5 = .bool false := (hvc (hv 5 (by omega))).elim fun _ h => h
      have f6 : fb 6 = .bool false := (hvc (hv 6 (by omega))).elim fun _ h => h
      have f7 : fb 7 = .agg #[.bool sb, .slice Ab (min nb 4) cb, .slice Bb (min mb 4) db] := (hvc (hv 7 (by omega))).elim fun _ h => h
      have f8 : fb 8 = .agg #[.bool sa, .slice Aa (min na 4) ca, .slice Ba (min ma 4) da] := (hvc (hv 8 (by omega))).elim fun _ h => h
      have f9 : fb 9 = .int .i64 0 := (hvc (hv 9 (by omega))).elim fun _ h => h
      have f10 : fb 10 = .int .i64 0 := (hvc (hv 10 (by omega))).elim fun _ h => h
      have f11 : fb 11 = .int .i64 (-0) := (hvc (hv 11 (by omega))).elim fun _ h => h
      have f12 : fb 12 = .bool false := (hvc (hv 12 (by omega))).elim fun _ h => h
      have f13 : fb 13 = .bool false := (hvc (hv 13 (by omega))).elim fun _ h => h
      have f14 : fb 14 = .bool false := (hvc (hv 14 (by omega))).elim fun _ h => h
      have f15 : fb 15 = .agg #[.bool sa, .slice Aa (min na 4) ca, .slice Ba (min ma 4) da] := (hvc (hv 15 (by omega))).elim fun _ h => h
      have f16 : fb 16 = .agg #[.bool sc, .slice Ac (min nc 4) cc, .slice Bc (min mc 4) dc] := (hvc (hv 16 (by omega))).elim fun _ h => h
      have f18 : fb 18 = .agg #[.bool sb, .slice Ab (min nb 4) cb, .slice Bb (min mb 4) db] := (hvc (hv 18 (by omega))).elim fun _ h => h
      have f19 : fb 19 = .agg #[.bool sc, .slice Ac (min nc 4) cc, .slice Bc (min mc 4) dc] := (hvc (hv 19 (by omega))).elim fun _ h => h
      have f21 : fb 21 = .int .i64 0 := (hvc (hv 21 (by omega))).elim fun _ h => h
      have f22 : fb 22 = .int .i64 0 := (hvc (hv 22 (by omega))).elim fun _ h => h
      have f23 : fb 23 = .bool false := (hvc (hv 23 (by omega))).elim fun _ h => h
      have f24 : fb 24 = .bool false := (hvc (hv 24 (by omega))).elim fun _ h => h
      have f25 : fb 25 = .bool false := (hvc (hv 25 (by omega))).elim fun _ h => h
      have f26 : fb 26 = .agg #[.bool sa, .slice Aa (min na 4) ca, .slice Ba (min ma 4) da] := (hvc (hv 26 (by omega))).elim fun _ h => h
      have f27 : fb 27 = .agg #[.bool sc, .slice Ac (min nc 4) cc, .slice Bc (min mc 4) dc] := (hvc (hv 27 (by omega))).elim fun _ h => h
      have f29 : fb 29 = .agg #[.bool sb, .slice Ab (min nb 4) cb, .slice Bb (min mb 4) db] := (hvc (hv 29 (by omega))).elim fun _ h => h
      have f30 : fb 30 = .agg #[.bool sc, .slice Ac (min nc 4) cc, .slice Bc (min mc 4) dc] := (hvc (hv 30 (by omega))).elim fun _ h => h
      have f32 : fb 32 = .int .i64 (0 * s) := (hvc (hv 32 (by omega))).elim fun _ h => h
      have f33 : fb 33 = .int .i64 0 := (hvc (hv 33 (by omega))).elim fun _ h => h
      have f34 : fb 34 = .agg #[.bool sc, .slice Ac (min nc 4) cc, .slice Bc (min mc 4) dc] := (hvc (hv 34 (by omega))).elim fun _ h => h
      have f35 : fb 35 = .int .i64 s := (hvc (hv 35 (by omega))).elim fun _ h => h
      have f36 : fb 36 = .int .i64 (0 * s) := (hvc (hv 36 (by omega))).elim fun _ h => h
      have f37 : fb 37 = .bool false := (hvc (hv 37 (by omega))).elim fun _ h => h
      have f38 : fb 38 = .bool false := (hvc (hv 38 (by omega))).elim fun _ h => h
      have f39 : fb 39 = .bool false := (hvc (hv 39 (by omega))).elim fun _ h => h
      have f40 : fb 40 = .agg #[.bool sa, .slice Aa (min na 4) ca, .slice Ba (min ma 4) da] := (hvc (hv 40 (by omega))).elim fun _ h => h
      have f41 : fb 41 = .agg #[.bool sb, .slice Ab (min nb 4) cb, .slice Bb (min mb 4) db] := (hvc (hv 41 (by omega))).elim fun _ h => h
      have f43 : fb 43 = .int .i64 0 := (hvc (hv 43 (by omega))).elim fun _ h => h
      have f44 : fb 44 = .int .i64 0 := (hvc (hv 44 (by omega))).elim fun _ h => h
      have f45 : fb 45 = .bool false := (hvc (hv 45 (by omega))).elim fun _ h => h
      have f46 : fb 46 = .bool false := (hvc (hv 46 (by omega))).elim fun _ h => h
      simp only [putFn, Act.put, List.setIfInBounds_toArray, List.set_cons_zero, List.set_cons_succ, f0, f1, f2, f3, f4, f5, f6, f7, f8, f9, f10, f11, f12, f13, f14, f15, f16, f18, f19, f21, f22, f23, f24, f25, f26, f27, f29, f30, f32, f33, f34, f35, f36, f37, f38, f39, f40, f41, f43, f44, f45, f46]
      replace Xa := Xa.below hR
      replace Qa := Qa.below hR
      replace Xb := Xb.below hR
      replace Qb := Qb.below hR
      replace Xc := Xc.below hR
      replace Qc := Qc.below hR
      replace BB := bl_trans BB hR
      clear hR hv
      go_wp2_with fail
      obtain ⟨t, ht⟩ : ∃ t, cmpQ qb qc = t := ⟨_, rfl⟩
      have HT := Lib.hid ht
      obtain ⟨u, hu⟩ : ∃ u, cmpQ qa qc = u := ⟨_, rfl⟩
      have HU := Lib.hid hu
      have hc : t ≤ 0 → u ≤ 0 := fun h => by rw [← hu]; exact cmpQ_chain (b := qb) (by rw [HK.out]; omega) (by rw [ht]; exact h)
      clear ht hu
      by_cases hp : 0 < t
      · clear hc HU
        refine wp_region_list (Ext := RB) (Rel := RBu) [fun v _ _ => v = .int .i64 0, fun v _ _ => v = .bool true, fun v _ _ => v = .agg #[.bool sa, .slice Aa (min na 4) ca, .slice Ba (min ma 4) da], fun v _ w => IsQ (w4).heap.size w v (-qa) 4, fun v _ _ => v = .agg #[.bool sb, .slice Ab (min nb 4) cb, .slice Bb (min mb 4) db], fun v _ w => IsQ (w4).heap.size w v (-qb) 4, fun v _ _ => v = .bool true, fun v _ _ => v = .bool true, fun v _ _ => v = .bool true, fun v _ _ => v = .int .i64 0, fun v _ _ => v = .bool false, fun v _ _ => v = .bool false, fun v _ _ => v = .agg #[.bool sb, .slice Ab (min nb 4) cb, .slice Bb (min mb 4) db], fun v _ _ => v = .agg #[.bool sc, .slice Ac (min nc 4) cc, .slice Bc (min mc 4) dc], fun v _ _ => v = .int .i64 t, fun v _ _ => v = .bool true, fun v _ _ => v = .bool true, fun v _ _ => v = .bool true, fun v _ _ => v = undef, fun v _ _ => v = undef, fun v _ _ => v = undef, fun v _ _ => v = undef, fun v _ _ => v = Value.bool true, fun v _ _ => v = Value.bool true, fun v _ _ => v = Value.bool true] (n := 25) (by kernel_rfl) rfl (by kernel_rfl) (by kernel_rfl) (by kernel_rfl) (by kernel_rfl) (by kernel_rfl) rb_refl rb_trans ⟨sC, ⟨sC, ⟨sC, ⟨sQ, ⟨sC, ⟨sQ, ⟨sC, ⟨sC, ⟨sC, ⟨sC, ⟨sC, ⟨sC, ⟨sC, ⟨sC, ⟨sC, ⟨sC, ⟨sC, ⟨sC, ⟨sC, ⟨sC, ⟨sC, ⟨sC, ⟨sC, ⟨sC, ⟨sC, trivial⟩⟩⟩⟩⟩⟩⟩⟩⟩⟩⟩⟩⟩⟩⟩⟩⟩⟩⟩⟩⟩⟩⟩⟩⟩ ?_ ?_
        · refine ⟨⟨⟨⟨⟨⟨⟨⟨⟨⟨⟨⟨⟨⟨⟨⟨⟨⟨⟨⟨⟨⟨⟨⟨⟨trivial, ?_⟩, ?_⟩, ?_⟩, ?_⟩, ?_⟩, ?_⟩, ?_⟩, ?_⟩, ?_⟩, ?_⟩, ?_⟩, ?_⟩, ?_⟩, ?_⟩, ?_⟩, ?_⟩, ?_⟩, ?_⟩, ?_⟩, ?_⟩, ?_⟩, ?_⟩, ?_⟩, ?_⟩, ?_⟩
          · refine rs_plain rfl rfl fun a wr S => ?_
            have X := undrew S.ext
            exact wp_mv (ev_of ((S.old 7 (by kernel_rfl)).trans rfl)) (done (by kernel_rfl) rbu_refl rfl)
          · refine rs_plain rfl rfl fun a wr S => ?_
            have X := undrew S.ext
            obtain ⟨v0, e0, h0⟩ := S.got 0 (by kernel_rfl)
            exact wp_eqI ((ev_of (e0 66 (by kernel_rfl))).trans h0) rfl (Or.inl rfl) (done (by kernel_rfl) rbu_refl (congrArg Value.bool (by decide)))
          · refine rs_plain rfl rfl fun a wr S => ?_
            have X := undrew S.ext
            exact wp_qload (ev_of ((S.old 3 (by kernel_rfl)).trans rfl)) (Xa.below X) (done (by kernel_rfl) rbu_refl rfl)
          · refine rs_plain rfl rfl fun a wr S => ?_
            have X := undrew S.ext
            obtain ⟨v2, e2, h2⟩ := S.got 2 (by kernel_rfl)
            exact st_call cf_rat_Neg (args1 ((ev_of (e2 68 (by kernel_rfl))).trans h2)) (by kernel_rfl) rb ((cQNeg (show IsQm _ _ _ _ from (Qa.below X)) (by omega) (by omega)).mono (ansQ_base X.size)) (fun _ _ _ h => h)
          · refine rs_plain rfl rfl fun a wr S => ?_
            have X := undrew S.ext
            exact wp_qload (ev_of ((S.old 4 (by kernel_rfl)).trans rfl)) (Xb.below X) (done (by kernel_rfl) rbu_refl rfl)
          · refine rs_plain rfl rfl fun a wr S => ?_
            have X := undrew S.ext
            obtain ⟨v4, e4, h4⟩ := S.got 4 (by kernel_rfl)
            exact st_call cf_rat_Neg (args1 ((ev_of (e4 70 (by kernel_rfl))).trans h4)) (by kernel_rfl) rb ((cQNeg (show IsQm _ _ _ _ from (Qb.below X)) (by omega) (by omega)).mono (ansQ_base X.size)) (fun _ _ _ h => h)
          · refine rs_plain rfl rfl fun a wr S => ?_
            have X := undrew S.ext
            obtain ⟨v3, e3, h3⟩ := S.got 3 (by kernel_rfl)
            obtain ⟨v5, e5, h5⟩ := S.got 5 (by kernel_rfl)
            exact st_call cf_law03_same (args2 (ev_of (e3 69 (by kernel_rfl))) (ev_of (e5 71 (by kernel_rfl)))) (by kernel_rfl) rb (cSame3 (show IsQt _ _ _ _ from h3.t) (show IsQt _ _ _ _ from h5.t) (by omega) (by omega) (r := true) ⟨fun _ => HEQ.out, fun _ => rfl⟩) (fun _ _ _ h => h)
          · refine rs_plain rfl rfl fun a wr S => ?_
            have X := undrew S.ext
            obtain ⟨v1, e1, h1⟩ := S.got 1 (by kernel_rfl)
            obtain ⟨v6, e6, h6⟩ := S.got 6 (by kernel_rfl)
            exact wp_eqB ((ev_of (e1 67 (by kernel_rfl))).trans h1) ((ev_of (e6 72 (by kernel_rfl))).trans h6) (done (by kernel_rfl) rbu_refl (congrArg Value.bool (by decide)))
          · refine rs_plain rfl rfl fun a wr S => ?_
            have X := undrew S.ext
            obtain ⟨v7, e7, h7⟩ := S.got 7 (by kernel_rfl)
            exact wp_mv ((ev_of (e7 73 (by kernel_rfl))).trans h7) (done (by kernel_rfl) rbu_refl rfl)
          · refine rs_yes rfl rfl (by kernel_rfl) (by kernel_rfl : _ = some 74) (fun _ _ _ h => h) fun a wr S => ?_
            have X := undrew S.ext
            exact wp_mv (ev_of ((S.old 7 (by kernel_rfl)).trans rfl)) (done (by kernel_rfl) rbu_refl rfl)
          · refine rs_yes rfl rfl (by kernel_rfl) (by kernel_rfl : _ = some 74) (fun _ _ _ h => h) fun a wr S => ?_
            have X := undrew S.ext
            obtain ⟨v9, e9, h9⟩ := S.got 9 (by kernel_rfl)
            exact wp_gtI ((ev_of (e9 75 (by kernel_rfl))).trans h9) rfl (done (by kernel_rfl) rbu_refl (congrArg Value.bool (by decide)))
          · refine rs_yes rfl rfl (by kernel_rfl) (by kernel_rfl : _ = some 74) (fun _ _ _ h => h) fun a wr S => ?_
            have X := undrew S.ext
            obtain ⟨v10, e10, h10⟩ := S.got 10 (by kernel_rfl)
            exact wp_mv ((ev_of (e10 76 (by kernel_rfl))).trans h10) (done (by kernel_rfl) rbu_refl rfl)
          · refine rs_yes rfl rfl (by kernel_rfl) (by kernel_rfl : _ = some 77) (fun _ _ _ h => h) fun a wr S => ?_
            have X := undrew S.ext
            exact wp_qload (ev_of ((S.old 4 (by kernel_rfl)).trans rfl)) (Xb.below X) (done (by kernel_rfl) rbu_refl rfl)
          · refine rs_yes rfl rfl (by kernel_rfl) (by kernel_rfl : _ = some 77) (fun _ _ _ h => h) fun a wr S => ?_
            have X := undrew S.ext
            exact wp_qload (ev_of ((S.old 5 (by kernel_rfl)).trans rfl)) (Xc.below X) (done (by kernel_rfl) rbu_refl rfl)
          · refine rs_yes rfl rfl (by kernel_rfl) (by kernel_rfl : _ = some 77) (fun _ _ _ h => h) fun a wr S => ?_
            have X := undrew S.ext
            obtain ⟨v12, e12, h12⟩ := S.got 12 (by kernel_rfl)
            obtain ⟨v13, e13, h13⟩ := S.got 13 (by kernel_rfl)
            exact st_call cf_rat_Cmp (args2 ((ev_of (e12 78 (by kernel_rfl))).trans h12) ((ev_of (e13 79 (by kernel_rfl))).trans h13)) (by kernel_rfl) rb ((cQCmp (show IsQm _ _ _ _ from (Qb.below X)) (show IsQm _ _ _ _ from (Qc.below X)) (by omega) (by omega) (by omega) (by omega)).mono (ans_int HT.out)) (fun _ _ _ h => h)
          · refine rs_yes rfl rfl (by kernel_rfl) (by kernel_rfl : _ = some 77) (fun _ _ _ h => h) fun a wr S => ?_
            have X := undrew S.ext
            obtain ⟨v14, e14, h14⟩ := S.got 14 (by kernel_rfl)
            exact wp_gtI ((ev_of (e14 80 (by kernel_rfl))).trans h14) rfl (done (by kernel_rfl) rbu_refl (congrArg Value.bool (decide_eq_true hp)))
          · refine rs_yes rfl rfl (by kernel_rfl) (by kernel_rfl : _ = some 74) (fun _ _ _ h => h) fun a wr S => ?_
            have X := undrew S.ext
            obtain ⟨v11, e11, h11⟩ := S.got 11 (by kernel_rfl)
            obtain ⟨v15, e15, h15⟩ := S.got 15 (by kernel_rfl)
            exact wp_pickF ((ev_of (e11 77 (by kernel_rfl))).trans h11) ((ev_of (e15 81 (by kernel_rfl))).trans h15) (done (by kernel_rfl) rbu_refl rfl)
          · refine rs_yes rfl rfl (by kernel_rfl) (by kernel_rfl : _ = some 74) (fun _ _ _ h => h) fun a wr S => ?_
            have X := undrew S.ext
            obtain ⟨v16, e16, h16⟩ := S.got 16 (by kernel_rfl)
            exact wp_mv ((ev_of (e16 82 (by kernel_rfl))).trans h16) (done (by kernel_rfl) rbu_refl rfl)
          · exact rs_no rfl rfl (by kernel_rfl) (by kernel_rfl : _ = some 83) (fun _ _ _ h => h) (by kernel_rfl) rbu_refl (fun _ _ => rfl)
          · exact rs_no rfl rfl (by kernel_rfl) (by kernel_rfl : _ = some 83) (fun _ _ _ h => h) (by kernel_rfl) rbu_refl (fun _ _ => rfl)
          · exact rs_no rfl rfl (by kernel_rfl) (by kernel_rfl : _ = some 83) (fun _ _ _ h => h) (by kernel_rfl) rbu_refl (fun _ _ => rfl)
          · exact rs_no rfl rfl (by kernel_rfl) (by kernel_rfl : _ = some 83) (fun _ _ _ h => h) (by kernel_rfl) rbu_refl (fun _ _ => rfl)
          · refine rs_yes rfl rfl (by kernel_rfl) (by kernel_rfl : _ = some 74) (fun _ _ _ h => h) fun a wr S => ?_
            have X := undrew S.ext
            obtain ⟨v17, e17, h17⟩ := S.got 17 (by kernel_rfl)
            exact wp_pickT ((ev_of (e17 83 (by kernel_rfl))).trans h17) rfl (done (by kernel_rfl) rbu_refl rfl)
          · refine rs_plain rfl rfl fun a wr S => ?_
            have X := undrew S.ext
            obtain ⟨v8, e8, h8⟩ := S.got 8 (by kernel_rfl)
            obtain ⟨v22, e22, h22⟩ := S.got 22 (by kernel_rfl)
            exact wp_pickT ((ev_of (e8 74 (by kernel_rfl))).trans h8) ((ev_of (e22 88 (by kernel_rfl))).trans h22) (done (by kernel_rfl) rbu_refl rfl)
          · refine rs_plain rfl rfl fun a wr S => ?_
            have X := undrew S.ext
            obtain ⟨v23, e23, h23⟩ := S.got 23 (by kernel_rfl)
            exact wp_as ((ev_of (e23 89 (by kernel_rfl))).trans h23) (done (by kernel_rfl) rbu_refl rfl)
        · intro fc w5 hR hv
          replace hR := undrew hR
          have f0 : fc 0 = .int .i64 0 := (hvc (hv 0 (by omega))).elim fun _ h => h
          have f1 : fc 1 = .bool true := (hvc (hv 1 (by omega))).elim fun _ h => h
          have f2 : fc 2 = .agg #[.bool sa, .slice Aa (min na 4) ca, .slice Ba (min ma 4) da] := (hvc (hv 2 (by omega))).elim fun _ h => h
          have f4 : fc 4 = .agg #[.bool sb, .slice Ab (min nb 4) cb, .slice Bb (min mb 4) db] := (hvc (hv 4 (by omega))).elim fun _ h => h
          have f6 : fc 6 = .bool true := (hvc (hv 6 (by omega))).elim fun _ h => h
          have f7 : fc 7 = .bool true := (hvc (hv 7 (by omega))).elim fun _ h => h
          have f8 : fc 8 = .bool true := (hvc (hv 8 (by omega))).elim fun _ h => h
          have f9 : fc 9 = .int .i64 0 := (hvc (hv 9 (by omega))).elim fun _ h => h
          have f10 : fc 10 = .bool false := (hvc (hv 10 (by omega))).elim fun _ h => h
          have f11 : fc 11 = .bool false := (hvc (hv 11 (by omega))).elim fun _ h => h
          have f12 : fc 12 = .agg #[.bool sb, .slice Ab (min nb 4) cb, .slice Bb (min mb 4) db] := (hvc (hv 12 (by omega))).elim fun _ h => h
          have f13 : fc 13 = .agg #[.bool sc, .slice Ac (min nc 4) cc, .slice Bc (min mc 4) dc] := (hvc (hv 13 (by omega))).elim fun _ h => h
          have f14 : fc 14 = .int .i64 t := (hvc (hv 14 (by omega))).elim fun _ h => h
          have f15 : fc 15 = .bool true := (hvc (hv 15 (by omega))).elim fun _ h => h
          have f16 : fc 16 = .bool true := (hvc (hv 16 (by omega))).elim fun _ h => h
          have f17 : fc 17 = .bool true := (hvc (hv 17 (by omega))).elim fun _ h => h
          have f18 : fc 18 = undef := (hvc (hv 18 (by omega))).elim fun _ h => h
          have f19 : fc 19 = undef := (hvc (hv 19 (by omega))).elim fun _ h => h
          have f20 : fc 20 = undef := (hvc (hv 20 (by omega))).elim fun _ h => h
          have f21 : fc 21 = undef := (hvc (hv 21 (by omega))).elim fun _ h => h
          have f22 : fc 22 = Value.bool true := (hvc (hv 22 (by omega))).elim fun _ h => h
          have f23 : fc 23 = Value.bool true := (hvc (hv 23 (by omega))).elim fun _ h => h
          have f24 : fc 24 = Value.bool true := (hvc (hv 24 (by omega))).elim fun _ h => h
          simp only [putFn, Act.put, List.setIfInBounds_toArray, List.set_cons_zero, List.set_cons_succ, f0, f1, f2, f4, f6, f7, f8, f9, f10, f11, f12, f13, f14, f15, f16, f17, f18, f19, f20, f21, f22, f23, f24]
          replace BB := bl_trans BB hR
          clear hR hv
          go_wp2_with fail
          go_ret
          exact ⟨rfl, BB⟩
      · have hu : u ≤ 0 := hc (by omega)
        clear hc
        refine wp_region_list (Ext := RB) (Rel := RBu) [fun v _ _ => v = .int .i64 0, fun v _ _ => v = .bool true, fun v _ _ => v = .agg #[.bool sa, .slice Aa (min na 4) ca, .slice Ba (min ma 4) da], fun v _ w => IsQ (w4).heap.size w v (-qa) 4, fun v _ _ => v = .agg #[.bool sb, .slice Ab (min nb 4) cb, .slice Bb (min mb 4) db], fun v _ w => IsQ (w4).heap.size w v (-qb) 4, fun v _ _ => v = .bool true, fun v _ _ => v = .bool true, fun v _ _ => v = .bool true, fun v _ _ => v = .int .i64 0, fun v _ _ => v = .bool false, fun v _ _ => v = .bool false, fun v _ _ => v = .agg #[.bool sb, .slice Ab (min nb 4) cb, .slice Bb (min mb 4) db], fun v _ _ => v = .agg #[.bool sc, .slice Ac (min nc 4) cc, .slice Bc (min mc 4) dc], fun v _ _ => v = .int .i64 t, fun v _ _ => v = .bool false, fun v _ _ => v = .bool false, fun v _ _ => v = .bool false, fun v _ _ => v = .agg #[.bool sa, .slice Aa (min na 4) ca, .slice Ba (min ma 4) da], fun v _ _ => v = .agg #[.bool sc, .slice Ac (min nc 4) cc, .slice Bc (min mc 4) dc], fun v _ _ => v = .int .i64 u, fun v _ _ => v = .bool true, fun v _ _ => v = .bool true, fun v _ _ => v = .bool true, fun v _ _ => v = .bool true] (n := 25) (by kernel_rfl) rfl (by kernel_rfl) (by kernel_rfl) (by kernel_rfl) (by kernel_rfl) (by kernel_rfl) rb_refl rb_trans ⟨sC, ⟨sC, ⟨sC, ⟨sQ, ⟨sC, ⟨sQ, ⟨sC, ⟨sC, ⟨sC, ⟨sC, ⟨sC, ⟨sC, ⟨sC, ⟨sC, ⟨sC, ⟨sC, ⟨sC, ⟨sC, ⟨sC, ⟨sC, ⟨sC, ⟨sC, ⟨sC, ⟨sC, ⟨sC, trivial⟩⟩⟩⟩⟩⟩⟩⟩⟩⟩⟩⟩⟩⟩⟩⟩⟩⟩⟩⟩⟩⟩⟩⟩⟩ ?_ ?_
        · refine ⟨⟨⟨⟨⟨⟨⟨⟨⟨⟨⟨⟨⟨⟨⟨⟨⟨⟨⟨⟨⟨⟨⟨⟨⟨trivial, ?_⟩, ?_⟩, ?_⟩, ?_⟩, ?_⟩, ?_⟩, ?_⟩, ?_⟩, ?_⟩, ?_⟩, ?_⟩, ?_⟩, ?_⟩, ?_⟩, ?_⟩, ?_⟩, ?_⟩, ?_⟩, ?_⟩, ?_⟩, ?_⟩, ?_⟩, ?_⟩, ?_⟩, ?_⟩
          · refine rs_plain rfl rfl fun a wr S => ?_
            have X := undrew S.ext
            exact wp_mv (ev_of ((S.old 7 (by kernel_rfl)).trans rfl)) (done (by kernel_rfl) rbu_refl rfl)
          · refine rs_plain rfl rfl fun a wr S => ?_
            have X := undrew S.ext
            obtain ⟨v0, e0, h0⟩ := S.got 0 (by kernel_rfl)
            exact wp_eqI ((ev_of (e0 66 (by kernel_rfl))).trans h0) rfl (Or.inl rfl) (done (by kernel_rfl) rbu_refl (congrArg Value.bool (by decide)))
          · refine rs_plain rfl rfl fun a wr S => ?_
            have X := undrew S.ext
            exact wp_qload (ev_of ((S.old 3 (by kernel_rfl)).trans rfl)) (Xa.below X) (done (by kernel_rfl) rbu_refl rfl)
          · refine rs_plain rfl rfl fun a wr S => ?_
            have X := undrew S.ext
            obtain ⟨v2, e2, h2⟩ := S.got 2 (by kernel_rfl)
            exact st_call cf_rat_Neg (args1 ((ev_of (e2 68 (by kernel_rfl))).trans h2)) (by kernel_rfl) rb ((cQNeg (show IsQm _ _ _ _ from (Qa.below X)) (by omega) (by omega)).mono (ansQ_base X.size)) (fun _ _ _ h => h)
          · refine rs_plain rfl rfl fun a wr S => ?_
            have X := undrew S.ext
            exact wp_qload (ev_of ((S.old 4 (by kernel_rfl)).trans rfl)) (Xb.below X) (done (by kernel_rfl) rbu_refl rfl)
          · refine rs_plain rfl rfl fun a wr S => ?_
            have X := undrew S.ext
            obtain ⟨v4, e4, h4⟩ := S.got 4 (by kernel_rfl)
            exact st_call cf_rat_Neg (args1 ((ev_of (e4 70 (by kernel_rfl))).trans h4)) (by kernel_rfl) rb ((cQNeg (show IsQm _ _ _ _ from (Qb.below X)) (by omega) (by omega)).mono (ansQ_base X.size)) (fun _ _ _ h => h)
          · refine rs_plain rfl rfl fun a wr S => ?_
            have X := undrew S.ext
            obtain ⟨v3, e3, h3⟩ := S.got 3 (by kernel_rfl)
            obtain ⟨v5, e5, h5⟩ := S.got 5 (by kernel_rfl)
            exact st_call cf_law03_same (args2 (ev_of (e3 69 (by kernel_rfl))) (ev_of (e5 71 (by kernel_rfl)))) (by kernel_rfl) rb (cSame3 (show IsQt _ _ _ _ from h3.t) (show IsQt _ _ _ _ from h5.t) (by omega) (by omega) (r := true) ⟨fun _ => HEQ.out, fun _ => rfl⟩) (fun _ _ _ h => h)
          · refine rs_plain rfl rfl fun a wr S => ?_
            have X := undrew S.ext
            obtain ⟨v1, e1, h1⟩ := S.got 1 (by kernel_rfl)
            obtain ⟨v6, e6, h6⟩ := S.got 6 (by kernel_rfl)
            exact wp_eqB ((ev_of (e1 67 (by kernel_rfl))).trans h1) ((ev_of (e6 72 (by kernel_rfl))).trans h6) (done (by kernel_rfl) rbu_refl (congrArg Value.bool (by decide)))
          · refine rs_plain rfl rfl fun a wr S => ?_
            have X := undrew S.ext
            obtain ⟨v7, e7, h7⟩ := S.got 7 (by kernel_rfl)
            exact wp_mv ((ev_of (e7 73 (by kernel_rfl))).trans h7) (done (by kernel_rfl) rbu_refl rfl)
          · refine rs_yes rfl rfl (by kernel_rfl) (by kernel_rfl : _ = some 74) (fun _ _ _ h => h) fun a wr S => ?_
            have X := undrew S.ext
            exact wp_mv (ev_of ((S.old 7 (by kernel_rfl)).trans rfl)) (done (by kernel_rfl) rbu_refl rfl)
          · refine rs_yes rfl rfl (by kernel_rfl) (by kernel_rfl : _ = some 74) (fun _ _ _ h => h) fun a wr S => ?_
            have X := undrew S.ext
            obtain ⟨v9, e9, h9⟩ := S.got 9 (by kernel_rfl)
            exact wp_gtI ((ev_of (e9 75 (by kernel_rfl))).trans h9) rfl (done (by kernel_rfl) rbu_refl (congrArg Value.bool (by decide)))
          · refine rs_yes rfl rfl (by kernel_rfl) (by kernel_rfl : _ = some 74) (fun _ _ _ h => h) fun a wr S => ?_
            have X := undrew S.ext
            obtain ⟨v10, e10, h10⟩ := S.got 10 (by kernel_rfl)
            exact wp_mv ((ev_of (e10 76 (by kernel_rfl))).trans h10) (done (by kernel_rfl) rbu_refl rfl)
          · refine rs_yes rfl rfl (by kernel_rfl) (by kernel_rfl : _ = some 77) (fun _ _ _ h => h) fun a wr S => ?_
            have X := undrew S.ext
            exact wp_qload (ev_of ((S.old 4 (by kernel_rfl)).trans rfl)) (Xb.below X) (done (by kernel_rfl) rbu_refl rfl)
          · refine rs_yes rfl rfl (by kernel_rfl) (by kernel_rfl : _ = some 77) (fun _ _ _ h => h) fun a wr S => ?_
            have X := undrew S.ext
            exact wp_qload (ev_of ((S.old 5 (by kernel_rfl)).trans rfl)) (Xc.below X) (done (by kernel_rfl) rbu_refl rfl)
          · refine rs_yes rfl rfl (by kernel_rfl) (by kernel_rfl : _ = some 77) (fun _ _ _ h => h) fun a wr S => ?_
            have X := undrew S.ext
            obtain ⟨v12, e12, h12⟩ := S.got 12 (by kernel_rfl)
            obtain ⟨v13, e13, h13⟩ := S.got 13 (by kernel_rfl)
            exact st_call cf_rat_Cmp (args2 ((ev_of (e12 78 (by kernel_rfl))).trans h12) ((ev_of (e13 79 (by kernel_rfl))).trans h13)) (by kernel_rfl) rb ((cQCmp (show IsQm _ _ _ _ from (Qb.below X)) (show IsQm _ _ _ _ from (Qc.below X)) (by omega) (by omega) (by omega) (by omega)).mono (ans_int HT.out)) (fun _ _ _ h => h)
          · refine rs_yes rfl rfl (by kernel_rfl) (by kernel_rfl : _ = some 77) (fun _ _ _ h => h) fun a wr S => ?_
            have X := undrew S.ext
            obtain ⟨v14, e14, h14⟩ := S.got 14 (by kernel_rfl)
            exact wp_gtI ((ev_of (e14 80 (by kernel_rfl))).trans h14) rfl (done (by kernel_rfl) rbu_refl (congrArg Value.bool (decide_eq_false hp)))
          · refine rs_yes rfl rfl (by kernel_rfl) (by kernel_rfl : _ = some 74) (fun _ _ _ h => h) fun a wr S => ?_
            have X := undrew S.ext
            obtain ⟨v11, e11, h11⟩ := S.got 11 (by kernel_rfl)
            obtain ⟨v15, e15, h15⟩ := S.got 15 (by kernel_rfl)
            exact wp_pickF ((ev_of (e11 77 (by kernel_rfl))).trans h11) ((ev_of (e15 81 (by kernel_rfl))).trans h15) (done (by kernel_rfl) rbu_refl rfl)
          · refine rs_yes rfl rfl (by kernel_rfl) (by kernel_rfl : _ = some 74) (fun _ _ _ h => h) fun a wr S => ?_
            have X := undrew S.ext
            obtain ⟨v16, e16, h16⟩ := S.got 16 (by kernel_rfl)
            exact wp_mv ((ev_of (e16 82 (by kernel_rfl))).trans h16) (done (by kernel_rfl) rbu_refl rfl)
          · refine rs_yes rfl rfl (by kernel_rfl) (by kernel_rfl : _ = some 83) (fun _ _ _ h => h) fun a wr S => ?_
            have X := undrew S.ext
            exact wp_qload (ev_of ((S.old 3 (by kernel_rfl)).trans rfl)) (Xa.below X) (done (by kernel_rfl) rbu_refl rfl)
          · refine rs_yes rfl rfl (by kernel_rfl) (by kernel_rfl : _ = some 83) (fun _ _ _ h => h) fun a wr S => ?_
            have X := undrew S.ext
            exact wp_qload (ev_of ((S.old 5 (by kernel_rfl)).trans rfl)) (Xc.below X) (done (by kernel_rfl) rbu_refl rfl)
          · refine rs_yes rfl rfl (by kernel_rfl) (by kernel_rfl : _ = some 83) (fun _ _ _ h => h) fun a wr S => ?_
            have X := undrew S.ext
            obtain ⟨v18, e18, h18⟩ := S.got 18 (by kernel_rfl)
            obtain ⟨v19, e19, h19⟩ := S.got 19 (by kernel_rfl)
            exact st_call cf_rat_Cmp (args2 ((ev_of (e18 84 (by kernel_rfl))).trans h18) ((ev_of (e19 85 (by kernel_rfl))).trans h19)) (by kernel_rfl) rb ((cQCmp (show IsQm _ _ _ _ from (Qa.below X)) (show IsQm _ _ _ _ from (Qc.below X)) (by omega) (by omega) (by omega) (by omega)).mono (ans_int HU.out)) (fun _ _ _ h => h)
          · refine rs_yes rfl rfl (by kernel_rfl) (by kernel_rfl : _ = some 83) (fun _ _ _ h => h) fun a wr S => ?_
            have X := undrew S.ext
            obtain ⟨v20, e20, h20⟩ := S.got 20 (by kernel_rfl)
            exact wp_leI ((ev_of (e20 86 (by kernel_rfl))).trans h20) rfl (done (by kernel_rfl) rbu_refl (congrArg Value.bool (decide_eq_true hu)))
          · refine rs_yes rfl rfl (by kernel_rfl) (by kernel_rfl : _ = some 74) (fun _ _ _ h => h) fun a wr S => ?_
            have X := undrew S.ext
            obtain ⟨v17, e17, h17⟩ := S.got 17 (by kernel_rfl)
            obtain ⟨v21, e21, h21⟩ := S.got 21 (by kernel_rfl)
            exact wp_pickF ((ev_of (e17 83 (by kernel_rfl))).trans h17) ((ev_of (e21 87 (by kernel_rfl))).trans h21) (done (by kernel_rfl) rbu_refl rfl)
          · refine rs_plain rfl rfl fun a wr S => ?_
            have X := undrew S.ext
            obtain ⟨v8, e8, h8⟩ := S.got 8 (by kernel_rfl)
            obtain ⟨v22, e22, h22⟩ := S.got 22 (by kernel_rfl)
            exact wp_pickT ((ev_of (e8 74 (by kernel_rfl))).trans h8) ((ev_of (e22 88 (by kernel_rfl))).trans h22) (done (by kernel_rfl) rbu_refl rfl)
          · refine rs_plain rfl rfl fun a wr S => ?_
            have X := undrew S.ext
            obtain ⟨v23, e23, h23⟩ := S.got 23 (by kernel_rfl)
            exact wp_as ((ev_of (e23 89 (by kernel_rfl))).trans h23) (done (by kernel_rfl) rbu_refl rfl)
        · intro fc w5 hR hv
          replace hR := undrew hR
          have f0 : fc 0 = .int .i64 0 := (hvc (hv 0 (by omega))).elim fun _ h => h
          have f1 : fc 1 = .bool true := (hvc (hv 1 (by omega))).elim fun _ h => h
          have f2 : fc 2 = .agg #[.bool sa, .slice Aa (min na 4) ca, .slice Ba (min ma 4) da] := (hvc (hv 2 (by omega))).elim fun _ h => h
          have f4 : fc 4 = .agg #[.bool sb, .slice Ab (min nb 4) cb, .slice Bb (min mb 4) db] := (hvc (hv 4 (by omega))).elim fun _ h => h
          have f6 : fc 6 = .bool true := (hvc (hv 6 (by omega))).elim fun _ h => h
          have f7 : fc 7 = .bool true := (hvc (hv 7 (by omega))).elim fun _ h => h
          have f8 : fc 8 = .bool true := (hvc (hv 8 (by omega))).elim fun _ h => h
          have f9 : fc 9 = .int .i64 0 := (hvc (hv 9 (by omega))).elim fun _ h => h
          have f10 : fc 10 = .bool false := (hvc (hv 10 (by omega))).elim fun _ h => h
          have f11 : fc 11 = .bool false := (hvc (hv 11 (by omega))).elim fun _ h => h
          have f12 : fc 12 = .agg #[.bool sb, .slice Ab (min nb 4) cb, .slice Bb (min mb 4) db] := (hvc (hv 12 (by omega))).elim fun _ h => h
          have f13 : fc 13 = .agg #[.bool sc, .slice Ac (min nc 4) cc, .slice Bc (min mc 4) dc] := (hvc (hv 13 (by omega))).elim fun _ h => h
          have f14 : fc 14 = .int .i64 t := (hvc (hv 14 (by omega))).elim fun _ h => h
          have f15 : fc 15 = .bool false := (hvc (hv 15 (by omega))).elim fun _ h => h
          have f16 : fc 16 = .bool false := (hvc (hv 16 (by omega))).elim fun _ h => h
          have f17 : fc 17 = .bool false := (hvc (hv 17 (by omega))).elim fun _ h => h
          have f18 : fc 18 = .agg #[.bool sa, .slice Aa (min na 4) ca, .slice Ba (min ma 4) da] := (hvc (hv 18 (by omega))).elim fun _ h => h
          have f19 : fc 19 = .agg #[.bool sc, .slice Ac (min nc 4) cc, .slice Bc (min mc 4) dc] := (hvc (hv 19 (by omega))).elim fun _ h => h
          have f20 : fc 20 = .int .i64 u := (hvc (hv 20 (by omega))).elim fun _ h => h
          have f21 : fc 21 = .bool true := (hvc (hv 21 (by omega))).elim fun _ h => h
          have f22 : fc 22 = .bool true := (hvc (hv 22 (by omega))).elim fun _ h => h
          have f23 : fc 23 = .bool true := (hvc (hv 23 (by omega))).elim fun _ h => h
          have f24 : fc 24 = .bool true := (hvc (hv 24 (by omega))).elim fun _ h => h
          simp only [putFn, Act.put, List.setIfInBounds_toArray, List.set_cons_zero, List.set_cons_succ, f0, f1, f2, f4, f6, f7, f8, f9, f10, f11, f12, f13, f14, f15, f16, f17, f18, f19, f20, f21, f22, f23, f24]
          replace BB := bl_trans BB hR
          clear hR hv
          go_wp2_with fail
          go_ret
          exact ⟨rfl, BB⟩

set_option maxHeartbeats 4000000 in
theorem ratOrder_p (sa : Bool) (Aa : Option Addr) (na ca : Nat) (xa : List Nat) (Ba : Option Addr) (ma da : Nat) (ya : List Nat) (sb : Bool) (Ab : Option Addr) (nb cb : Nat) (xb : List Nat) (Bb : Option Addr) (mb db : Nat) (yb : List Nat) (sc : Bool) (Ac : Option Addr) (nc cc : Nat) (xc : List Nat) (Bc : Option Addr) (mc dc : Nat) (yc : List Nat) (qa qb qc : Rat) (s : Int) (w : World) (s0 : -1 ≤ s) (s1 : s ≤ 1) (HW : ∀ W : World, Calls Tryz.prog 39 #[] W (Ans W fun _ v => v = .bool true)) (Ha : Hid (Rd w Aa na ca xa)) (Ia : Hid (na ≤ maxLen)) (Ja : Hid (Rd w Ba ma da ya)) (Ka : Hid (ma ≤ maxLen)) (Hb : Hid (Rd w Ab nb cb xb)) (Ib : Hid (nb ≤ maxLen)) (Jb : Hid (Rd w Bb mb db yb)) (Kb : Hid (mb ≤ maxLen)) (Hc : Hid (Rd w Ac nc cc xc)) (Ic : Hid (nc ≤ maxLen)) (Jc : Hid (Rd w Bc mc dc yc)) (Kc : Hid (mc ≤ maxLen)) (Za : Hid (qa = mkRat (zv sa (M.val (xa.take (min na 4)))) (dOf (M.val (ya.take (min ma 4)))))) (Zb : Hid (qb = mkRat (zv sb (M.val (xb.take (min nb 4)))) (dOf (M.val (yb.take (min mb 4)))))) (Zc : Hid (qc = mkRat (zv sc (M.val (xc.take (min nc 4)))) (dOf (M.val (yc.take (min mc 4)))))) (HK : Hid (cmpQ qa qb = 1)) (HBA : Hid (cmpQ qb qa = -1)) (HAC : Hid (cmpQ (qa + qc) (qb + qc) = 1)) (HMC : Hid (cmpQ (qa * qc) (qb * qc) = 1 * s)) (HSC : Hid (sgn qc.num = s)) (HSU : Hid (sgn (qa - qb).num = 1)) (HEQ : Hid (¬ -qa = -qb)) : Calls Tryz.prog 7 #[.agg #[.bool sa, .slice Aa na ca, .slice Ba ma da], .agg #[.bool sb, .slice Ab nb cb, .slice Bb mb db], .agg #[.bool sc, .slice Ac nc cc, .slice Bc mc dc]] w fun e w' => e = .returned (.bool true) ∧ Below w.heap.size w w' := by
  have BB := bl_trans (bl_trans (bl_alloc w (.cells #[.bool sa, .slice Aa na ca, .slice Ba ma da] 26)) (bl_alloc _ (.cells #[.bool sb, .slice Ab nb cb, .slice Bb mb db] 26))) (bl_alloc _ (.cells #[.bool sc, .slice Ac nc cc, .slice Bc mc dc] 26))
  have Pa := ((Bq.new w sa Aa na ca Ba ma da).alloc (.cells #[.bool sb, .slice Ab nb cb, .slice Bb mb db] 26)).alloc (.cells #[.bool sc, .slice Ac nc cc, .slice Bc mc dc] 26)
  have Pb := (Bq.new2 w (.cells #[.bool sa, .slice Aa na ca, .slice Ba ma da] 26) sb Ab nb cb Bb mb db).alloc (.cells #[.bool sc, .slice Ac nc cc, .slice Bc mc dc] 26)
  have Pc := Bq.new3 w (.cells #[.bool sa, .slice Aa na ca, .slice Ba ma da] 26) (.cells #[.bool sb, .slice Ab nb cb, .slice Bb mb db] 26) sc Ac nc cc Bc mc dc
  go_enter Tryz.func7, Tryz.ntmps7
  go_wp2_with fail
  refine (HW _).mono ?_
  rintro e w1 ⟨_, rfl, hb1, rfl⟩
  replace Pa := Pa.below hb1
  replace Pb := Pb.below hb1
  replace Pc := Pc.below hb1
  replace BB := bl_trans BB hb1
  clear hb1 HW
  go_wp2_with fail
  refine wp_cut (by kernel_rfl) 6 ?_
  simp only [List.take_succ_cons, List.take_zero, List.drop_succ_cons, List.drop_zero]
  refine wp_cut_list (Ext := RB) (Rel := RBu) [fun v _ _ => v = .agg #[.bool sa, .slice Aa na ca, .slice Ba ma da], fun v _ _ => v = .agg #[.bool sa, .slice Aa (min na 4) ca, .slice Ba (min ma 4) da], fun v _ _ => v = .agg #[.bool sb, .slice Ab nb cb, .slice Bb mb db], fun v _ _ => v = .agg #[.bool sb, .slice Ab (min nb 4) cb, .slice Bb (min mb 4) db], fun v _ _ => v = .agg #[.bool sc, .slice Ac nc cc, .slice Bc mc dc], fun v _ _ => v = .agg #[.bool sc, .slice Ac (min nc 4) cc, .slice Bc (min mc 4) dc]] (n := 6) (by kernel_rfl) (by kernel_rfl) (by kernel_rfl) (by kernel_rfl) (by kernel_rfl) (by kernel_rfl) (by kernel_rfl) (by kernel_rfl) (by kernel_rfl) rb_refl rb_trans ⟨sC, ⟨sC, ⟨sC, ⟨sC, ⟨sC, ⟨sC, trivial⟩⟩⟩⟩⟩⟩ ?_ ?_
  · refine ⟨⟨⟨⟨⟨⟨trivial, ?_⟩, ?_⟩, ?_⟩, ?_⟩, ?_⟩, ?_⟩
    · refine rs_plain rfl rfl fun a wr S => ?_
      have X := undrew S.ext
      exact wp_qload (ev_of ((S.old 3 (by kernel_rfl)).trans rfl)) (Pa.below X) (done (by kernel_rfl) rbu_refl rfl)
    · refine rs_plain rfl rfl fun a wr S => ?_
      have X := undrew S.ext
      obtain ⟨v0, e0, h0⟩ := S.got 0 (by kernel_rfl)
      exact st_call cf_law03_few (args2 ((ev_of (e0 10 (by kernel_rfl))).trans h0) rfl) (by kernel_rfl) rb (cFew3 Ha.out.cap Ja.out.cap Ia.out Ka.out 4 _ rfl (by omega)) (fun _ _ _ h => h)
    · refine rs_plain rfl rfl fun a wr S => ?_
      have X := undrew S.ext
      exact wp_qload (ev_of ((S.old 4 (by kernel_rfl)).trans rfl)) (Pb.below X) (done (by kernel_rfl) rbu_refl rfl)
    · refine rs_plain rfl rfl fun a wr S => ?_
      have X := undrew S.ext
      obtain ⟨v2, e2, h2⟩ := S.got 2 (by kernel_rfl)
      exact st_call cf_law03_few (args2 ((ev_of (e2 12 (by kernel_rfl))).trans h2) rfl) (by kernel_rfl) rb (cFew3 Hb.out.cap Jb.out.cap Ib.out Kb.out 4 _ rfl (by omega)) (fun _ _ _ h => h)
    · refine rs_plain rfl rfl fun a wr S => ?_
      have X := undrew S.ext
      exact wp_qload (ev_of ((S.old 5 (by kernel_rfl)).trans rfl)) (Pc.below X) (done (by kernel_rfl) rbu_refl rfl)
    · refine rs_plain rfl rfl fun a wr S => ?_
      have X := undrew S.ext
      obtain ⟨v4, e4, h4⟩ := S.got 4 (by kernel_rfl)
      exact st_call cf_law03_few (args2 ((ev_of (e4 14 (by kernel_rfl))).trans h4) rfl) (by kernel_rfl) rb (cFew3 Hc.out.cap Jc.out.cap Ic.out Kc.out 4 _ rfl (by omega)) (fun _ _ _ h => h)
  · intro fa w2 hR hv hap
    clear hap
    replace hR := undrew hR
    have f0 : fa 0 = .agg #[.bool sa, .slice Aa na ca, .slice Ba ma da] := (hvc (hv 0 (by omega))).elim fun _ h => h
    have f1 : fa 1 = .agg #[.bool sa, .slice Aa (min na 4) ca, .slice Ba (min ma 4) da] := (hvc (hv 1 (by omega))).elim fun _ h => h
    have f2 : fa 2 = .agg #[.bool sb, .slice Ab nb cb, .slice Bb mb db] := (hvc (hv 2 (by omega))).elim fun _ h => h
    have f3 : fa 3 = .agg #[.bool sb, .slice Ab (min nb 4) cb, .slice Bb (min mb 4) db] := (hvc (hv 3 (by omega))).elim fun _ h => h
    have f4 : fa 4 = .agg #[.bool sc, .slice Ac nc cc, .slice Bc mc dc] := (hvc (hv 4 (by omega))).elim fun _ h => h
    have f5 : fa 5 = .agg #[.bool sc, .slice Ac (min nc 4) cc, .slice Bc (min mc 4) dc] := (hvc (hv 5 (by omega))).elim fun _ h => h
    simp only [putFn, Act.put, List.setIfInBounds_toArray, List.set_cons_zero, List.set_cons_succ, f0, f1, f2, f3, f4, f5]
    replace Pa := Pa.below hR
    replace Pb := Pb.below hR
    replace Pc := Pc.below hR
    replace BB := bl_trans BB hR
    clear hR hv
    have ra0 := Pa.c0
    have fa0 := Pa.f 0
    have ra1 := Pa.c1
    have fa1 := Pa.f 1
    have ra2 := Pa.c2
    have fa2 := Pa.f 2
    have rb0 := Pb.c0
    have fb0 := Pb.f 0
    have rb1 := Pb.c1
    have fb1 := Pb.f 1
    have rb2 := Pb.c2
    have fb2 := Pb.f 2
    have rc0 := Pc.c0
    have fc0 := Pc.f 0
    have rc1 := Pc.c1
    have fc1 := Pc.f 1
    have rc2 := Pc.c2
    have fc2 := Pc.f 2
    go_wp2_with fail
    clear ra0 fa0 ra1 fa1 ra2 fa2 rb0 fb0 rb1 fb1 rb2 fb2 rc0 fc0 rc1 fc1 rc2 fc2
    have Xa := (((((((Pa.set3 (b' := sa) (A' := Aa) (n' := min na 4) (c' := ca) (B' := Ba) (m' := min ma 4) (d' := da)).other (g' := w.heap.size + 1) (i := 0) (v := .bool sb) (by omega)).other (g' := w.heap.size + 1) (i := 1) (v := .slice Ab (min nb 4) cb) (by omega)).other (g' := w.heap.size + 1) (i := 2) (v := .slice Bb (min mb 4) db) (by omega)).other (g' := w.heap.size + 1 + 1) (i := 0) (v := .bool sc) (by omega)).other (g' := w.heap.size + 1 + 1) (i := 1) (v := .slice Ac (min nc 4) cc) (by omega)).other (g' := w.heap.size + 1 + 1) (i := 2) (v := .slice Bc (min mc 4) dc) (by omega))
    have Xb := (((((((Pb.other (g' := w.heap.size) (i := 0) (v := .bool sa) (by omega)).other (g' := w.heap.size) (i := 1) (v := .slice Aa (min na 4) ca) (by omega)).other (g' := w.heap.size) (i := 2) (v := .slice Ba (min ma 4) da) (by omega)).set3 (b' := sb) (A' := Ab) (n' := min nb 4) (c' := cb) (B' := Bb) (m' := min mb 4) (d' := db)).other (g' := w.heap.size + 1 + 1) (i := 0) (v := .bool sc) (by omega)).other (g' := w.heap.size + 1 + 1) (i := 1) (v := .slice Ac (min nc 4) cc) (by omega)).other (g' := w.heap.size + 1 + 1) (i := 2) (v := .slice Bc (min mc 4) dc) (by omega))
    have Xc := (((((((Pc.other (g' := w.heap.size) (i := 0) (v := .bool sa) (by omega)).other (g' := w.heap.size) (i := 1) (v := .slice Aa (min na 4) ca) (by omega)).other (g' := w.heap.size) (i := 2) (v := .slice Ba (min ma 4) da) (by omega)).other (g' := w.heap.size + 1) (i := 0) (v := .bool sb) (by omega)).other (g' := w.heap.size + 1) (i := 1) (v := .slice Ab (min nb 4) cb) (by omega)).other (g' := w.heap.size + 1) (i := 2) (v := .slice Bb (min mb 4) db) (by omega)).set3 (b' := sc) (A' := Ac) (n' := min nc 4) (c' := cc) (B' := Bc) (m' := min mc 4) (d' := dc))
    replace BB := (((((((((BB.setCell (p := ⟨w.heap.size, 0, none⟩) (by show _ ≤ w.heap.size; omega) (.bool sa)).setCell (p := ⟨w.heap.size, 1, none⟩) (by show _ ≤ w.heap.size; omega) (.slice Aa (min na 4) ca)).setCell (p := ⟨w.heap.size, 2, none⟩) (by show _ ≤ w.heap.size; omega) (.slice Ba (min ma 4) da)).setCell (p := ⟨w.heap.size + 1, 0, none⟩) (by show _ ≤ w.heap.size + 1; omega) (.bool sb)).setCell (p := ⟨w.heap.size + 1, 1, none⟩) (by show _ ≤ w.heap.size + 1; omega) (.slice Ab (min nb 4) cb)).setCell (p := ⟨w.heap.size + 1, 2, none⟩) (by show _ ≤ w.heap.size + 1; omega) (.slice Bb (min mb 4) db)).setCell (p := ⟨w.heap.size + 1 + 1, 0, none⟩) (by show _ ≤ w.heap.size + 1 + 1; omega) (.bool sc)).setCell (p := ⟨w.heap.size + 1 + 1, 1, none⟩) (by show _ ≤ w.heap.size + 1 + 1; omega) (.slice Ac (min nc 4) cc)).setCell (p := ⟨w.heap.size + 1 + 1, 2, none⟩) (by show _ ≤ w.heap.size + 1 + 1; omega) (.slice Bc (min mc 4) dc))
    clear Pa Pb Pc
    generalize (((((((((w2.setCell ⟨w.heap.size, 0, none⟩ (.bool sa)).setCell ⟨w.heap.size, 1, none⟩ (.slice Aa (min na 4) ca)).setCell ⟨w.heap.size, 2, none⟩ (.slice Ba (min ma 4) da)).setCell ⟨w.heap.size + 1, 0, none⟩ (.bool sb)).setCell ⟨w.heap.size + 1, 1, none⟩ (.slice Ab (min nb 4) cb)).setCell ⟨w.heap.size + 1, 2, none⟩ (.slice Bb (min mb 4) db)).setCell ⟨w.heap.size + 1 + 1, 0, none⟩ (.bool sc)).setCell ⟨w.heap.size + 1 + 1, 1, none⟩ (.slice Ac (min nc 4) cc)).setCell ⟨w.heap.size + 1 + 1, 2, none⟩ (.slice Bc (min mc 4) dc)) = wh at Xa Xb Xc BB ⊢
    have Qa : IsQm wh (.agg #[.bool sa, .slice Aa (min na 4) ca, .slice Ba (min ma 4) da]) qa 4 := by rw [Za.out]; exact few_q (Ha.out.below BB) (Ja.out.below BB) 4
    have Qb : IsQm wh (.agg #[.bool sb, .slice Ab (min nb 4) cb, .slice Bb (min mb 4) db]) qb 4 := by rw [Zb.out]; exact few_q (Hb.out.below BB) (Jb.out.below BB) 4
    have Qc : IsQm wh (.agg #[.bool sc, .slice Ac (min nc 4) cc, .slice Bc (min mc 4) dc]) qc 4 := by rw [Zc.out]; exact few_q (Hc.out.below BB) (Jc.out.below BB) 4
    clear Ha Ia Ja Ka Za Hb Ib Jb Kb Zb Hc Ic Jc Kc Zc
    have xa0 := Xa.c0
    have xa1 := Xa.c1
    have xa2 := Xa.c2
    have xb0 := Xb.c0
    have xb1 := Xb.c1
    have xb2 := Xb.c2
    have xc0 := Xc.c0
    have xc1 := Xc.c1
    have xc2 := Xc.c2
    refine (cQCmp Qa Qb (by omega) (by omega) (by omega) (by omega)).mono ?_
    rw [HK.out]
    rintro e w3 ⟨_, rfl, hb3, rfl⟩
    clear xa0 xa1 xa2 xb0 xb1 xb2 xc0 xc1 xc2
    replace Xa := Xa.below hb3
    replace Qa := Qa.below hb3
    replace Xb := Xb.below hb3
    replace Qb := Qb.below hb3
    replace Xc := Xc.below hb3
    replace Qc := Qc.below hb3
    replace BB := bl_trans BB hb3
    clear hb3
    go_wp2_with fail
    refine wp_region_list (Ext := RB) (Rel := RBu) [fun v _ _ => v = .int .i64 1, fun v _ _ => v = .bool false, fun v _ _ => v = .bool false, fun v _ _ => v = .int .i64 1, fun v _ _ => v = .bool false, fun v _ _ => v = .bool false, fun v _ _ => v = .bool false, fun v _ _ => v = .agg #[.bool sb, .slice Ab (min nb 4) cb, .slice Bb (min mb 4) db], fun v _ _ => v = .agg #[.bool sa, .slice Aa (min na 4) ca, .slice Ba (min ma 4) da], fun v _ _ => v = .int .i64 (-1), fun v _ _ => v = .int .i64 1, fun v _ _ => v = .int .i64 (-1), fun v _ _ => v = .bool false, fun v _ _ => v = .bool false, fun v _ _ => v = .bool false, fun v _ _ => v = .agg #[.bool sa, .slice Aa (min na 4) ca, .slice Ba (min ma 4) da], fun v _ _ => v = .agg #[.bool sc, .slice Ac (min nc 4) cc, .slice Bc (min mc 4) dc], fun v _ w => IsQ (w3).heap.size w v (qa + qc) 9, fun v _ _ => v = .agg #[.bool sb, .slice Ab (min nb 4) cb, .slice Bb (min mb 4) db], fun v _ _ => v = .agg #[.bool sc, .slice Ac (min nc 4) cc, .slice Bc (min mc 4) dc], fun v _ w => IsQ (w3).heap.size w v (qb + qc) 9, fun v _ _ => v = .int .i64 1, fun v _ _ => v = .int .i64 1, fun v _ _ => v = .bool false, fun v _ _ => v = .bool false, fun v _ _ => v = .bool false, fun v _ _ => v = .agg #[.bool sa, .slice Aa (min na 4) ca, .slice Ba (min ma 4) da], fun v _ _ => v = .agg #[.bool sc, .slice Ac (min nc 4) cc, .slice Bc (min mc 4) dc], fun v _ w => IsQ (w3).heap.size w v (qa * qc) 8, fun v _ _ => v = .agg #[.bool sb, .slice Ab (min nb 4) cb, .slice Bb (min mb 4) db], fun v _ _ => v = .agg #[.bool sc, .slice Ac (min nc 4) cc, .slice Bc (min mc 4) dc], fun v _ w => IsQ (w3).heap.size w v (qb * qc) 8, fun v _ _ => v = .int .i64 (1 * s), fun v _ _ => v = .int .i64 1, fun v _ _ => v = .agg #[.bool sc, .slice Ac (min nc 4) cc, .slice Bc (min mc 4) dc], fun v _ _ => v = .int .i64 s, fun v _ _ => v = .int .i64 (1 * s), fun v _ _ => v = .bool false, fun v _ _ => v = .bool false, fun v _ _ => v = .bool false, fun v _ _ => v = .agg #[.bool sa, .slice Aa (min na 4) ca, .slice Ba (min ma 4) da], fun v _ _ => v = .agg #[.bool sb, .slice Ab (min nb 4) cb, .slice Bb (min mb 4) db], fun v _ w => IsQ (w3).heap.size w v (qa - qb) 9, fun v _ _ => v = .int .i64 1, fun v _ _ => v = .int .i64 1, fun v _ _ => v = .bool false, fun v _ _ => v = .bool false] (n := 47) (by kernel_rfl) rfl (by kernel_rfl) (by kernel_rfl) (by kernel_rfl) (by kernel_rfl) (by kernel_rfl) rb_refl rb_trans ⟨sC, ⟨sC, ⟨sC, ⟨sC, ⟨sC, ⟨sC, ⟨sC, ⟨sC, ⟨sC, ⟨sC, ⟨sC, ⟨sC, ⟨sC, ⟨sC, ⟨sC, ⟨sC, ⟨sC, ⟨sQ, ⟨sC, ⟨sC, ⟨sQ, ⟨sC, ⟨sC, ⟨sC, ⟨sC, ⟨sC, ⟨sC, ⟨sC, ⟨sQ, ⟨sC, ⟨sC, ⟨sQ, ⟨sC, ⟨sC, ⟨sC, ⟨sC, ⟨sC, ⟨sC, ⟨sC, ⟨sC, ⟨sC, ⟨sC, ⟨sQ, ⟨sC, ⟨sC, ⟨sC, ⟨sC, trivial⟩⟩⟩⟩⟩⟩⟩⟩⟩⟩⟩⟩⟩⟩⟩⟩⟩⟩⟩⟩⟩⟩⟩⟩⟩⟩⟩⟩⟩⟩⟩⟩⟩⟩⟩⟩⟩⟩⟩⟩⟩⟩⟩⟩⟩⟩⟩ ?_ ?_
    · refine ⟨⟨⟨⟨⟨⟨⟨⟨⟨⟨⟨⟨⟨⟨⟨⟨⟨⟨⟨⟨⟨⟨⟨⟨⟨⟨⟨⟨⟨⟨⟨⟨⟨⟨⟨⟨⟨⟨⟨⟨⟨⟨⟨⟨⟨⟨⟨trivial, ?_⟩, ?_⟩, ?_⟩, ?_⟩, ?_⟩, ?_⟩, ?_⟩, ?_⟩, ?_⟩, ?_⟩, ?_⟩, ?_⟩, ?_⟩, ?_⟩, ?_⟩, ?_⟩, ?_⟩, ?_⟩, ?_⟩, ?_⟩, ?_⟩, ?_⟩, ?_⟩, ?_⟩, ?_⟩, ?_⟩, ?_⟩, ?_⟩, ?_⟩, ?_⟩, ?_⟩, ?_⟩, ?_⟩, ?_⟩, ?_⟩, ?_⟩, ?_⟩, ?_⟩, ?_⟩, ?_⟩, ?_⟩, ?_⟩, ?_⟩, ?_⟩, ?_⟩, ?_⟩, ?_⟩
      · refine rs_plain rfl rfl fun a wr S => ?_
        have X := undrew S.ext
        exact wp_mv (ev_of ((S.old 7 (by kernel_rfl)).trans rfl)) (done (by kernel_rfl) rbu_refl rfl)
      · refine rs_plain rfl rfl fun a wr S => ?_
        have X := undrew S.ext
        obtain ⟨v0, e0, h0⟩ := S.got 0 (by kernel_rfl)
        exact wp_ltI ((ev_of (e0 19 (by kernel_rfl))).trans h0) rfl (done (by kernel_rfl) rbu_refl (congrArg Value.bool (by decide)))
      · refine rs_plain rfl rfl fun a wr S => ?_
        have X := undrew S.ext
        obtain ⟨v1, e1, h1⟩ := S.got 1 (by kernel_rfl)
        exact wp_mv ((ev_of (e1 20 (by kernel_rfl))).trans h1) (done (by kernel_rfl) rbu_refl rfl)
      · refine rs_yes rfl rfl (by kernel_rfl) (by kernel_rfl : _ = some 21) (fun _ _ _ h => h) fun a wr S => ?_
        have X := undrew S.ext
        exact wp_mv (ev_of ((S.old 7 (by kernel_rfl)).trans rfl)) (done (by kernel_rfl) rbu_refl rfl)
      · refine rs_yes rfl rfl (by kernel_rfl) (by kernel_rfl : _ = some 21) (fun _ _ _ h => h) fun a wr S => ?_
        have X := undrew S.ext
        obtain ⟨v3, e3, h3⟩ := S.got 3 (by kernel_rfl)
        exact wp_gtI ((ev_of (e3 22 (by kernel_rfl))).trans h3) rfl (done (by kernel_rfl) rbu_refl (congrArg Value.bool (by decide)))
      · refine rs_plain rfl rfl fun a wr S => ?_
        have X := undrew S.ext
        obtain ⟨v2, e2, h2⟩ := S.got 2 (by kernel_rfl)
        obtain ⟨v4, e4, h4⟩ := S.got 4 (by kernel_rfl)
        exact wp_pickF ((ev_of (e2 21 (by kernel_rfl))).trans h2) ((ev_of (e4 23 (by kernel_rfl))).trans h4) (done (by kernel_rfl) rbu_refl rfl)
      · refine rs_plain rfl rfl fun a wr S => ?_
        have X := undrew S.ext
        obtain ⟨v5, e5, h5⟩ := S.got 5 (by kernel_rfl)
        exact wp_mv ((ev_of (e5 24 (by kernel_rfl))).trans h5) (done (by kernel_rfl) rbu_refl rfl)
      · refine rs_yes rfl rfl (by kernel_rfl) (by kernel_rfl : _ = some 25) (fun _ _ _ h => h) fun a wr S => ?_
        have X := undrew S.ext
        exact wp_qload (ev_of ((S.old 4 (by kernel_rfl)).trans rfl)) (Xb.below X) (done (by kernel_rfl) rbu_refl rfl)
      · refine rs_yes rfl rfl (by kernel_rfl) (by kernel_rfl : _ = some 25) (fun _ _ _ h => h) fun a wr S => ?_
        have X := undrew S.ext
        exact wp_qload (ev_of ((S.old 3 (by kernel_rfl)).trans rfl)) (Xa.below X) (done (by kernel_rfl) rbu_refl rfl)
      · refine rs_yes rfl rfl (by kernel_rfl) (by kernel_rfl : _ = some 25) (fun _ _ _ h => h) fun a wr S => ?_
        have X := undrew S.ext
        obtain ⟨v7, e7, h7⟩ := S.got 7 (by kernel_rfl)
        obtain ⟨v8, e8, h8⟩ := S.got 8 (by kernel_rfl)
        exact st_call cf_rat_Cmp (args2 ((ev_of (e7 26 (by kernel_rfl))).trans h7) ((ev_of (e8 27 (by kernel_rfl))).trans h8)) (by kernel_rfl) rb ((cQCmp (show IsQm _ _ _ _ from (Qb.below X)) (show IsQm _ _ _ _ from (Qa.below X)) (by omega) (by omega) (by omega) (by omega)).mono (ans_int HBA.out)) (fun _ _ _ h => h)
      · refine rs_yes rfl rfl (by kernel_rfl) (by kernel_rfl : _ = some 25) (fun _ _ _ h => h) fun a wr S => ?_
        have X := undrew S.ext
        exact wp_mv (ev_of ((S.old 7 (by kernel_rfl)).trans rfl)) (done (by kernel_rfl) rbu_refl rfl)
      · refine rs_yes rfl rfl (by kernel_rfl) (by kernel_rfl : _ = some 25) (fun _ _ _ h => h) fun a wr S => ?_
        have X := undrew S.ext
        obtain ⟨v10, e10, h10⟩ := S.got 10 (by kernel_rfl)
        exact wp_negI ((ev_of (e10 29 (by kernel_rfl))).trans h10) (by decide) (by decide) (done (by kernel_rfl) rbu_refl rfl)
      · refine rs_yes rfl rfl (by kernel_rfl) (by kernel_rfl : _ = some 25) (fun _ _ _ h => h) fun a wr S => ?_
        have X := undrew S.ext
        obtain ⟨v9, e9, h9⟩ := S.got 9 (by kernel_rfl)
        obtain ⟨v11, e11, h11⟩ := S.got 11 (by kernel_rfl)
        exact wp_neI ((ev_of (e9 28 (by kernel_rfl))).trans h9) ((ev_of (e11 30 (by kernel_rfl))).trans h11) (Or.inl rfl) (done (by kernel_rfl) rbu_refl (congrArg Value.bool (by decide)))
      · refine rs_plain rfl rfl fun a wr S => ?_
        have X := undrew S.ext
        obtain ⟨v6, e6, h6⟩ := S.got 6 (by kernel_rfl)
        obtain ⟨v12, e12, h12⟩ := S.got 12 (by kernel_rfl)
        exact wp_pickF ((ev_of (e6 25 (by kernel_rfl))).trans h6) ((ev_of (e12 31 (by kernel_rfl))).trans h12) (done (by kernel_rfl) rbu_refl rfl)
      · refine rs_plain rfl rfl fun a wr S => ?_
        have X := undrew S.ext
        obtain ⟨v13, e13, h13⟩ := S.got 13 (by kernel_rfl)
        exact wp_mv ((ev_of (e13 32 (by kernel_rfl))).trans h13) (done (by kernel_rfl) rbu_refl rfl)
      · refine rs_yes rfl rfl (by kernel_rfl) (by kernel_rfl : _ = some 33) (fun _ _ _ h => h) fun a wr S => ?_
        have X := undrew S.ext
        exact wp_qload (ev_of ((S.old 3 (by kernel_rfl)).trans rfl)) (Xa.below X) (done (by kernel_rfl) rbu_refl rfl)
      · refine rs_yes rfl rfl (by kernel_rfl) (by kernel_rfl : _ = some 33) (fun _ _ _ h => h) fun a wr S => ?_
        have X := undrew S.ext
        exact wp_qload (ev_of ((S.old 5 (by kernel_rfl)).trans rfl)) (Xc.below X) (done (by kernel_rfl) rbu_refl rfl)
      · refine rs_yes rfl rfl (by kernel_rfl) (by kernel_rfl : _ = some 33) (fun _ _ _ h => h) fun a wr S => ?_
        have X := undrew S.ext
        obtain ⟨v15, e15, h15⟩ := S.got 15 (by kernel_rfl)
        obtain ⟨v16, e16, h16⟩ := S.got 16 (by kernel_rfl)
        exact st_call cf_rat_Add (args2 ((ev_of (e15 34 (by kernel_rfl))).trans h15) ((ev_of (e16 35 (by kernel_rfl))).trans h16)) (by kernel_rfl) rb ((cQAdd (show IsQm _ _ _ _ from (Qa.below X)) (show IsQm _ _ _ _ from (Qc.below X)) (by omega) (by omega) (by omega) (by omega)).mono (ansQ_base X.size)) (fun _ _ _ h => h)
      · refine rs_yes rfl rfl (by kernel_rfl) (by kernel_rfl : _ = some 33) (fun _ _ _ h => h) fun a wr S => ?_
        have X := undrew S.ext
        exact wp_qload (ev_of ((S.old 4 (by kernel_rfl)).trans rfl)) (Xb.below X) (done (by kernel_rfl) rbu_refl rfl)
      · refine rs_yes rfl rfl (by kernel_rfl) (by kernel_rfl : _ = some 33) (fun _ _ _ h => h) fun a wr S => ?_
        have X := undrew S.ext
        exact wp_qload (ev_of ((S.old 5 (by kernel_rfl)).trans rfl)) (Xc.below X) (done (by kernel_rfl) rbu_refl rfl)
      · refine rs_yes rfl rfl (by kernel_rfl) (by kernel_rfl : _ = some 33) (fun _ _ _ h => h) fun a wr S => ?_
        have X := undrew S.ext
        obtain ⟨v18, e18, h18⟩ := S.got 18 (by kernel_rfl)
        obtain ⟨v19, e19, h19⟩ := S.got 19 (by kernel_rfl)
        exact st_call cf_rat_Add (args2 ((ev_of (e18 37 (by kernel_rfl))).trans h18) ((ev_of (e19 38 (by kernel_rfl))).trans h19)) (by kernel_rfl) rb ((cQAdd (show IsQm _ _ _ _ from (Qb.below X)) (show IsQm _ _ _ _ from (Qc.below X)) (by omega) (by omega) (by omega) (by omega)).mono (ansQ_base X.size)) (fun _ _ _ h => h)
      · refine rs_yes rfl rfl (by kernel_rfl) (by kernel_rfl : _ = some 33) (fun _ _ _ h => h) fun a wr S => ?_
        have X := undrew S.ext
        obtain ⟨v17, e17, h17⟩ := S.got 17 (by kernel_rfl)
        obtain ⟨v20, e20, h20⟩ := S.got 20 (by kernel_rfl)
        exact st_call cf_rat_Cmp (args2 (ev_of (e17 36 (by kernel_rfl))) (ev_of (e20 39 (by kernel_rfl)))) (by kernel_rfl) rb ((cQCmp (show IsQm _ _ _ _ from h17.m) (show IsQm _ _ _ _ from h20.m) (by omega) (by omega) (by omega) (by omega)).mono (ans_int HAC.out)) (fun _ _ _ h => h)
      · refine rs_yes rfl rfl (by kernel_rfl) (by kernel_rfl : _ = some 33) (fun _ _ _ h => h) fun a wr S => ?_
        have X := undrew S.ext
        exact wp_mv (ev_of ((S.old 7 (by kernel_rfl)).trans rfl)) (done (by kernel_rfl) rbu_refl rfl)
      · refine rs_yes rfl rfl (by kernel_rfl) (by kernel_rfl : _ = some 33) (fun _ _ _ h => h) fun a wr S => ?_
        have X := undrew S.ext
        obtain ⟨v21, e21, h21⟩ := S.got 21 (by kernel_rfl)
        obtain ⟨v22, e22, h22⟩ := S.got 22 (by kernel_rfl)
        exact wp_neI ((ev_of (e21 40 (by kernel_rfl))).trans h21) ((ev_of (e22 41 (by kernel_rfl))).trans h22) (Or.inl rfl) (done (by kernel_rfl) rbu_refl (congrArg Value.bool (by decide)))
      · refine rs_plain rfl rfl fun a wr S => ?_
        have X := undrew S.ext
        obtain ⟨v14, e14, h14⟩ := S.got 14 (by kernel_rfl)
        obtain ⟨v23, e23, h23⟩ := S.got 23 (by kernel_rfl)
        exact wp_pickF ((ev_of (e14 33 (by kernel_rfl))).trans h14) ((ev_of (e23 42 (by kernel_rfl))).trans h23) (done (by kernel_rfl) rbu_refl rfl)
      · refine rs_plain rfl rfl fun a wr S => ?_
        have X := undrew S.ext
        obtain ⟨v24, e24, h24⟩ := S.got 24 (by kernel_rfl)
        exact wp_mv ((ev_of (e24 43 (by kernel_rfl))).trans h24) (done (by kernel_rfl) rbu_refl rfl)
      · refine rs_yes rfl rfl (by kernel_rfl) (by kernel_rfl : _ = some 44) (fun _ _ _ h => h) fun a wr S => ?_
        have X := undrew S.ext
        exact wp_qload (ev_of ((S.old 3 (by kernel_rfl)).trans rfl)) (Xa.below X) (done (by kernel_rfl) rbu_refl rfl)
      · refine rs_yes rfl rfl (by kernel_rfl) (by kernel_rfl : _ = some 44) (fun _ _ _ h => h) fun a wr S => ?_
        have X := undrew S.ext
        exact wp_qload (ev_of ((S.old 5 (by kernel_rfl)).trans rfl)) (Xc.below X) (done (by kernel_rfl) rbu_refl rfl)
      · refine rs_yes rfl rfl (by kernel_rfl) (by kernel_rfl : _ = some 44) (fun _ _ _ h => h) fun a wr S => ?_
        have X := undrew S.ext
        obtain ⟨v26, e26, h26⟩ := S.got 26 (by kernel_rfl)
        obtain ⟨v27, e27, h27⟩ := S.got 27 (by kernel_rfl)
        exact st_call cf_rat_Mul (args2 ((ev_of (e26 45 (by kernel_rfl))).trans h26) ((ev_of (e27 46 (by kernel_rfl))).trans h27)) (by kernel_rfl) rb ((cQMul (show IsQm _ _ _ _ from (Qa.below X)) (show IsQm _ _ _ _ from (Qc.below X)) (by omega) (by omega) (by omega) (by omega)).mono (ansQ_base X.size)) (fun _ _ _ h => h)
      · refine rs_yes rfl rfl (by kernel_rfl) (by kernel_rfl : _ = some 44) (fun _ _ _ h => h) fun a wr S => ?_
        have X := undrew S.ext
        exact wp_qload (ev_of ((S.old 4 (by kernel_rfl)).trans rfl)) (Xb.below X) (done (by kernel_rfl) rbu_refl rfl)
      · refine rs_yes rfl rfl (by kernel_rfl) (by kernel_rfl : _ = some 44) (fun _ _ _ h => h) fun a wr S => ?_
        have X := undrew S.ext
        exact wp_qload (ev_of ((S.old 5 (by kernel_rfl)).trans rfl)) (Xc.below X) (done (by kernel_rfl) rbu_refl rfl)
      · refine rs_yes rfl rfl (by kernel_rfl) (by kernel_rfl : _ = some 44) (fun _ _ _ h => h) fun a wr S => ?_
        have X := undrew S.ext
        obtain ⟨v29, e29, h29⟩ := S.got 29 (by kernel_rfl)
        obtain ⟨v30, e30, h30⟩ := S.got 30 (by kernel_rfl)
        exact st_call cf_rat_Mul (args2 ((ev_of (e29 48 (by kernel_rfl))).trans h29) ((ev_of (e30 49 (by kernel_rfl))).trans h30)) (by kernel_rfl) rb ((cQMul (show IsQm _ _ _ _ from (Qb.below X)) (show IsQm _ _ _ _ from (Qc.below X)) (by omega) (by omega) (by omega) (by omega)).mono (ansQ_base X.size)) (fun _ _ _ h => h)
      · refine rs_yes rfl rfl (by kernel_rfl) (by kernel_rfl : _ = some 44) (fun _ _ _ h => h) fun a wr S => ?_
        have X := undrew S.ext
        obtain ⟨v28, e28, h28⟩ := S.got 28 (by kernel_rfl)
        obtain ⟨v31, e31, h31⟩ := S.got 31 (by kernel_rfl)
        exact st_call cf_rat_Cmp (args2 (ev_of (e28 47 (by kernel_rfl))) (ev_of (e31 50 (by kernel_rfl)))) (by kernel_rfl) rb ((cQCmp (show IsQm _ _ _ _ from h28.m) (show IsQm _ _ _ _ from h31.m) (by omega) (by omega) (by omega) (by omega)).mono (ans_int HMC.out)) (fun _ _ _ h => h)
      · refine rs_yes rfl rfl (by kernel_rfl) (by kernel_rfl : _ = some 44) (fun _ _ _ h => h) fun a wr S => ?_
        have X := undrew S.ext
        exact wp_mv (ev_of ((S.old 7 (by kernel_rfl)).trans rfl)) (done (by kernel_rfl) rbu_refl rfl)
      · refine rs_yes rfl rfl (by kernel_rfl) (by kernel_rfl : _ = some 44) (fun _ _ _ h => h) fun a wr S => ?_
        have X := undrew S.ext
        exact wp_qload (ev_of ((S.old 5 (by kernel_rfl)).trans rfl)) (Xc.below X) (done (by kernel_rfl) rbu_refl rfl)
      · refine rs_yes rfl rfl (by kernel_rfl) (by kernel_rfl : _ = some 44) (fun _ _ _ h => h) fun a wr S => ?_
        have X := undrew S.ext
        obtain ⟨v34, e34, h34⟩ := S.got 34 (by kernel_rfl)
        exact st_call cf_rat_Sign (args1 ((ev_of (e34 53 (by kernel_rfl))).trans h34)) (by kernel_rfl) rb (cQSign (show IsQm _ _ _ _ from (Qc.below X)) (by omega) HSC.out) (fun _ _ _ h => h)
      · refine rs_yes rfl rfl (by kernel_rfl) (by kernel_rfl : _ = some 44) (fun _ _ _ h => h) fun a wr S => ?_
        have X := undrew S.ext
        obtain ⟨v33, e33, h33⟩ := S.got 33 (by kernel_rfl)
        obtain ⟨v35, e35, h35⟩ := S.got 35 (by kernel_rfl)
        exact wp_mulI ((ev_of (e33 52 (by kernel_rfl))).trans h33) ((ev_of (e35 54 (by kernel_rfl))).trans h35) (by omega) (by omega) (done (by kernel_rfl) rbu_refl rfl)
      · refine rs_yes rfl rfl (by kernel_rfl) (by kernel_rfl : _ = some 44) (fun _ _ _ h => h) fun a wr S => ?_
        have X := undrew S.ext
        obtain ⟨v32, e32, h32⟩ := S.got 32 (by kernel_rfl)
        obtain ⟨v36, e36, h36⟩ := S.got 36 (by kernel_rfl)
        exact wp_neI ((ev_of (e32 51 (by kernel_rfl))).trans h32) ((ev_of (e36 55 (by kernel_rfl))).trans h36) (Or.inl rfl) (done (by kernel_rfl) rbu_refl (congrArg Value.bool (bne_self_eq_false _)))
      · refine rs_plain rfl rfl fun a wr S => ?_
        have X := undrew S.ext
        obtain ⟨v25, e25, h25⟩ := S.got 25 (by kernel_rfl)
        obtain ⟨v37, e37, h37⟩ := S.got 37 (by kernel_rfl)
        exact wp_pickF ((ev_of (e25 44 (by kernel_rfl))).trans h25) ((ev_of (e37 56 (by kernel_rfl))).trans h37) (done (by kernel_rfl) rbu_refl rfl)
      · refine rs_plain rfl rfl fun a wr S => ?_
        have X := undrew S.ext
        obtain ⟨v38, e38, h38⟩ := S.got 38 (by kernel_rfl)
        exact wp_mv ((ev_of (e38 57 (by kernel_rfl))).trans h38) (done (by kernel_rfl) rbu_refl rfl)
      · refine rs_yes rfl rfl (by kernel_rfl) (by kernel_rfl : _ = some 58) (fun _ _ _ h => h) fun a wr S => ?_
        have X := undrew S.ext
        exact wp_qload (ev_of ((S.old 3 (by kernel_rfl)).trans rfl)) (Xa.below X) (done (by kernel_rfl) rbu_refl rfl)
      · refine rs_yes rfl rfl (by kernel_rfl) (by kernel_rfl : _ = some 58) (fun _ _ _ h => h) fun a wr S => ?_
        have X := undrew S.ext
        exact wp_qload (ev_of ((S.old 4 (by kernel_rfl)).trans rfl)) (Xb.below X) (done (by kernel_rfl) rbu_refl rfl)
      · refine rs_yes rfl rfl (by kernel_rfl) (by kernel_rfl : _ = some 58) (fun _ _ _ h => h) fun a wr S => ?_
        have X := undrew S.ext
        obtain ⟨v40, e40, h40⟩ := S.got 40 (by kernel_rfl)
        obtain ⟨v41, e41, h41⟩ := S.got 41 (by kernel_rfl)
        exact st_call cf_rat_Sub (args2 ((ev_of (e40 59 (by kernel_rfl))).trans h40) ((ev_of (e41 60 (by kernel_rfl))).trans h41)) (by kernel_rfl) rb ((cQSub (show IsQm _ _ _ _ from (Qa.below X)) (show IsQm _ _ _ _ from (Qb.below X)) (by omega) (by omega) (by omega) (by omega)).mono (ansQ_base X.size)) (fun _ _ _ h => h)
      · refine rs_yes rfl rfl (by kernel_rfl) (by kernel_rfl : _ = some 58) (fun _ _ _ h => h) fun a wr S => ?_
        have X := undrew S.ext
        obtain ⟨v42, e42, h42⟩ := S.got 42 (by kernel_rfl)
        exact st_call cf_rat_Sign (args1 (ev_of (e42 61 (by kernel_rfl)))) (by kernel_rfl) rb (cQSign (show IsQm _ _ _ _ from h42.m) (by omega) HSU.out) (fun _ _ _ h => h)
      · refine rs_yes rfl rfl (by kernel_rfl) (by kernel_rfl : _ = some 58) (fun _ _ _ h => h) fun a wr S => ?_
        have X := undrew S.ext
        exact wp_mv (ev_of ((S.old 7 (by kernel_rfl)).trans rfl)) (done (by kernel_rfl) rbu_refl rfl)
      · refine rs_yes rfl rfl (by kernel_rfl) (by kernel_rfl : _ = some 58) (fun _ _ _ h => h) fun a wr S => ?_
        have X := undrew S.ext
        obtain ⟨v43, e43, h43⟩ := S.got 43 (by kernel_rfl)
        obtain ⟨v44, e44, h44⟩ := S.got 44 (by kernel_rfl)
        exact wp_neI ((ev_of (e43 62 (by kernel_rfl))).trans h43) ((ev_of (e44 63 (by kernel_rfl))).trans h44) (Or.inl rfl) (done (by kernel_rfl) rbu_refl (congrArg Value.bool (by decide)))
      · refine rs_plain rfl rfl fun a wr S => ?_
        have X := undrew S.ext
        obtain ⟨v39, e39, h39⟩ := S.got 39 (by kernel_rfl)
        obtain ⟨v45, e45, h45⟩ := S.got 45 (by kernel_rfl)
        exact wp_pickF ((ev_of (e39 58 (by kernel_rfl))).trans h39) ((ev_of (e45 64 (by kernel_rfl))).trans h45) (done (by kernel_rfl) rbu_refl rfl)
    · intro fb w4 hR hv
      replace hR := undrew hR
      have f0 : fb 0 = .int .i64 1 := (hvc (hv 0 (by omega))).elim fun _ h => h
      have f1 : fb 1 = .bool false := (hvc (hv 1 (by omega))).elim fun _ h => h
      have f2 : fb 2 = .bool false := (hvc (hv 2 (by omega))).elim fun _ h => h
      have f3 : fb 3 = .int .i64 1 := (hvc (hv 3 (by omega))).elim fun _ h => h
      have f4 : fb 4 = .bool false := (hvc (hv 4 (by omega))).elim fun _ h => h
      have f5 : fb 5 = .bool false := (hvc (hv 5 (by omega))).elim fun _ h => h
      have f6 : fb 6 = .bool false := (hvc (hv 6 (by omega))).elim fun _ h => h
      have f7 : fb 7 = .agg #[.bool sb, .slice Ab (min nb 4) cb, .slice Bb (min mb 4) db] := (hvc (hv 7 (by omega))).elim fun _ h => h
      have f8 : fb 8 = .agg #[.bool sa, .slice Aa (min na 4) ca, .slice Ba (min ma 4) da] := (hvc (hv 8 (by omega))).elim fun _ h => h
      have f9 : fb 9 = .int .i64 (-1) := (hvc (hv 9 (by omega))).elim fun _ h => h
      have f10 : fb 10 = .int .i64 1 := (hvc (hv 10 (by omega))).elim fun _ h => h
      have f11 : fb 11 = .int .i64 (-1) := (hvc (hv 11 (by omega))).elim fun _ h => h
      have f12 : fb 12 = .bool false := (hvc (hv 12 (by omega))).elim fun _ h => h
      have f13 : fb 13 = .bool false := (hvc (hv 13 (by omega))).elim fun _ h => h
      have f14 : fb 14 = .bool false := (hvc (hv 14 (by omega))).elim fun _ h => h
      have f15 : fb 15 = .agg #[.bool sa, .slice Aa (min na 4) ca, .slice Ba (min ma 4) da] := (hvc (hv 15 (by omega))).elim fun _ h => h
      have f16 : fb 16 = .agg #[.bool sc, .slice Ac (min nc 4) cc, .slice Bc (min mc 4) dc] := (hvc (hv 16 (by omega))).elim fun _ h => h
      have f18 : fb 18 = .agg #[.bool sb, .slice Ab (min nb 4) cb, .slice Bb (min mb 4) db] := (hvc (hv 18 (by omega))).elim fun _ h => h
      have f19 : fb 19 = .agg #[.bool sc, .slice Ac (min nc 4) cc, .slice Bc (min mc 4) dc] := (hvc (hv 19 (by omega))).elim fun _ h => h
      have f21 : fb 21 = .int .i64 1 := (hvc (hv 21 (by omega))).elim fun _ h => h
      have f22 : fb 22 = .int .i64 1 := (hvc (hv 22 (by omega))).elim fun _ h => h
      have f23 : fb 23 = .bool false := (hvc (hv 23 (by omega))).elim fun _ h => h
      have f24 : fb 24 = .bool false := (hvc (hv 24 (by omega))).elim fun _ h => h
      have f25 : fb 25 = .bool false := (hvc (hv 25 (by omega))).elim fun _ h => h
      have f26 : fb 26 = .agg #[.bool sa, .slice Aa (min na 4) ca, .slice Ba (min ma 4) da] := (hvc (hv 26 (by omega))).elim fun _ h => h
      have f27 : fb 27 = .agg #[.bool sc, .slice Ac (min nc 4) cc, .slice Bc (min mc 4) dc] := (hvc (hv 27 (by omega))).elim fun _ h => h
      have f29 : fb 29 = .agg #[.bool sb, .slice Ab (min nb 4) cb, .slice Bb (min mb 4) db] := (hvc (hv 29 (by omega))).elim fun _ h => h
      have f30 : fb 30 = .agg #[.bool sc, .slice Ac (min nc 4) cc, .slice Bc (min mc 4) dc] := (hvc (hv 30 (by omega))).elim fun _ h => h
      have f32 : fb 32 = .int .i64 (1 * s) := (hvc (hv 32 (by omega))).elim fun _ h => h
      have f33 : fb 33 = .int .i64 1 := (hvc (hv 33 (by omega))).elim fun _ h => h
      have f34 : fb 34 = .agg #[.bool sc, .slice Ac (min nc 4) cc, .slice Bc (min mc 4) dc] := (hvc (hv 34 (by omega))).elim fun _ h => h
      have f35 : fb 35 = .int .i64 s := (hvc (hv 35 (by omega))).elim fun _ h => h
      have f36 : fb 36 = .int .i64 (1 * s) := (hvc (hv 36 (by omega))).elim fun _ h => h
      have f37 : fb 37 = .bool false := (hvc (hv 37 (by omega))).elim fun _ h => h
      have f38 : fb 38 = .bool false := (hvc (hv 38 (by omega))).elim fun _ h => h
      have f39 : fb 39 = .bool false := (hvc (hv 39 (by omega))).elim fun _ h => h
      have f40 : fb 40 = .agg #[.bool sa, .slice Aa (min na 4) ca, .slice Ba (min ma 4) da] := (hvc (hv 40 (by omega))).elim fun _ h => h
      have f41 : fb 41 = .agg #[.bool sb, .slice Ab (min nb 4) cb, .slice Bb (min mb 4) db] := (hvc (hv 41 (by omega))).elim fun _ h => h
      have f43 : fb 43 = .int .i64 1 := (hvc (hv 43 (by omega))).elim fun _ h => h
      have f44 : fb 44 = .int .i64 1 := (hvc (hv 44 (by omega))).elim fun _ h => h
      have f45 : fb 45 = .bool false := (hvc (hv 45 (by omega))).elim fun _ h => h
      have f46 : fb 46 = .bool false := (hvc (hv 46 (by omega))).elim fun _ h => h
      simp only [putFn, Act.put, List.setIfInBounds_toArray, List.set_cons_zero, List.set_cons_succ, f0, f1, f2, f3, f4, f5, f6, f7, f8, f9, f10, f11, f12, f13, f14, f15, f16, f18, f19, f21, f22, f23, f24, f25, f26, f27, f29, f30, f32, f33, f34, f35, f36, f37, f38, f39, f40, f41, f43, f44, f45, f46]
      replace Xa := Xa.below hR
      replace Qa := Qa.below hR
      replace Xb := Xb.below hR
      replace Qb := Qb.below hR
      replace Xc := Xc.below hR
      replace Qc := Qc.below hR
      replace BB := bl_trans BB hR
      clear hR hv
      go_wp2_with fail
      refine wp_region_list (Ext := RB) (Rel := RBu) [fun v _ _ => v = .int .i64 1, fun v _ _ => v = .bool false, fun v _ _ => v = .agg #[.bool sa, .slice Aa (min na 4) ca, .slice Ba (min ma 4) da], fun v _ w => IsQ (w4).heap.size w v (-qa) 4, fun v _ _ => v = .agg #[.bool sb, .slice Ab (min nb 4) cb, .slice Bb (min mb 4) db], fun v _ w => IsQ (w4).heap.size w v (-qb) 4, fun v _ _ => v = .bool false, fun v _ _ => v = .bool true, fun v _ _ => v = .bool true, fun v _ _ => v = .int .i64 1, fun v _ _ => v = .bool true, fun v _ _ => v = .bool true, fun v _ _ => v = undef, fun v _ _ => v = undef, fun v _ _ => v = undef, fun v _ _ => v = undef, fun v _ _ => v = Value.bool true, fun v _ _ => v = Value.bool true, fun v _ _ => v = undef, fun v _ _ => v = undef, fun v _ _ => v = undef, fun v _ _ => v = undef, fun v _ _ => v = Value.bool true, fun v _ _ => v = Value.bool true, fun v _ _ => v = Value.bool true] (n := 25) (by kernel_rfl) rfl (by kernel_rfl) (by kernel_rfl) (by kernel_rfl) (by kernel_rfl) (by kernel_rfl) rb_refl rb_trans ⟨sC, ⟨sC, ⟨sC, ⟨sQ, ⟨sC, ⟨sQ, ⟨sC, ⟨sC, ⟨sC, ⟨sC, ⟨sC, ⟨sC, ⟨sC, ⟨sC, ⟨sC, ⟨sC, ⟨sC, ⟨sC, ⟨sC, ⟨sC, ⟨sC, ⟨sC, ⟨sC, ⟨sC, ⟨sC, trivial⟩⟩⟩⟩⟩⟩⟩⟩⟩⟩⟩⟩⟩⟩⟩⟩⟩⟩⟩⟩⟩⟩⟩⟩⟩ ?_ ?_
      · refine ⟨⟨⟨⟨⟨⟨⟨⟨⟨⟨⟨⟨⟨⟨⟨⟨⟨⟨⟨⟨⟨⟨⟨⟨⟨trivial, ?_⟩, ?_⟩, ?_⟩, ?_⟩, ?_⟩, ?_⟩, ?_⟩, ?_⟩, ?_⟩, ?_⟩, ?_⟩, ?_⟩, ?_⟩, ?_⟩, ?_⟩, ?_⟩, ?_⟩, ?_⟩, ?_⟩, ?_⟩, ?_⟩, ?_⟩, ?_⟩, ?_⟩, ?_⟩
        · refine rs_plain rfl rfl fun a wr S => ?_
          have X := undrew S.ext
          exact wp_mv (ev_of ((S.old 7 (by kernel_rfl)).trans rfl)) (done (by kernel_rfl) rbu_refl rfl)
        · refine rs_plain rfl rfl fun a wr S => ?_
          have X := undrew S.ext
          obtain ⟨v0, e0, h0⟩ := S.got 0 (by kernel_rfl)
          exact wp_eqI ((ev_of (e0 66 (by kernel_rfl))).trans h0) rfl (Or.inl rfl) (done (by kernel_rfl) rbu_refl (congrArg Value.bool (by decide)))
        · refine rs_plain rfl rfl fun a wr S => ?_
          have X := undrew S.ext
          exact wp_qload (ev_of ((S.old 3 (by kernel_rfl)).trans rfl)) (Xa.below X) (done (by kernel_rfl) rbu_refl rfl)
        · refine rs_plain rfl rfl fun a wr S => ?_
          have X := undrew S.ext
          obtain ⟨v2, e2, h2⟩ := S.got 2 (by kernel_rfl)
          exact st_call cf_rat_Neg (args1 ((ev_of (e2 68 (by kernel_rfl))).trans h2)) (by kernel_rfl) rb ((cQNeg (show IsQm _ _ _ _ from (Qa.below X)) (by omega) (by omega)).mono (ansQ_base X.size)) (fun _ _ _ h => h)
        · refine rs_plain rfl rfl fun a wr S => ?_
          have X := undrew S.ext
          exact wp_qload (ev_of ((S.old 4 (by kernel_rfl)).trans rfl)) (Xb.below X) (done (by kernel_rfl) rbu_refl rfl)
        · refine rs_plain rfl rfl fun a wr S => ?_
          have X := undrew S.ext
          obtain ⟨v4, e4, h4⟩ := S.got 4 (by kernel_rfl)
          exact st_call cf_rat_Neg (args1 ((ev_of (e4 70 (by kernel_rfl))).trans h4)) (by kernel_rfl) rb ((cQNeg (show IsQm _ _ _ _ from (Qb.below X)) (by omega) (by omega)).mono (ansQ_base X.size)) (fun _ _ _ h => h)
        · refine rs_plain rfl rfl fun a wr S => ?_
          have X := undrew S.ext
          obtain ⟨v3, e3, h3⟩ := S.got 3 (by kernel_rfl)
          obtain ⟨v5, e5, h5⟩ := S.got 5 (by kernel_rfl)
          exact st_call cf_law03_same (args2 (ev_of (e3 69 (by kernel_rfl))) (ev_of (e5 71 (by kernel_rfl)))) (by kernel_rfl) rb (cSame3 (show IsQt _ _ _ _ from h3.t) (show IsQt _ _ _ _ from h5.t) (by omega) (by omega) (r := false) ⟨fun h => (by cases h), fun h => absurd h HEQ.out⟩) (fun _ _ _ h => h)
        · refine rs_plain rfl rfl fun a wr S => ?_
          have X := undrew S.ext
          obtain ⟨v1, e1, h1⟩ := S.got 1 (by kernel_rfl)
          obtain ⟨v6, e6, h6⟩ := S.got 6 (by kernel_rfl)
          exact wp_eqB ((ev_of (e1 67 (by kernel_rfl))).trans h1) ((ev_of (e6 72 (by kernel_rfl))).trans h6) (done (by kernel_rfl) rbu_refl (congrArg Value.bool (by decide)))
        · refine rs_plain rfl rfl fun a wr S => ?_
          have X := undrew S.ext
          obtain ⟨v7, e7, h7⟩ := S.got 7 (by kernel_rfl)
          exact wp_mv ((ev_of (e7 73 (by kernel_rfl))).trans h7) (done (by kernel_rfl) rbu_refl rfl)
        · refine rs_yes rfl rfl (by kernel_rfl) (by kernel_rfl : _ = some 74) (fun _ _ _ h => h) fun a wr S => ?_
          have X := undrew S.ext
          exact wp_mv (ev_of ((S.old 7 (by kernel_rfl)).trans rfl)) (done (by kernel_rfl) rbu_refl rfl)
        · refine rs_yes rfl rfl (by kernel_rfl) (by kernel_rfl : _ = some 74) (fun _ _ _ h => h) fun a wr S => ?_
          have X := undrew S.ext
          obtain ⟨v9, e9, h9⟩ := S.got 9 (by kernel_rfl)
          exact wp_gtI ((ev_of (e9 75 (by kernel_rfl))).trans h9) rfl (done (by kernel_rfl) rbu_refl (congrArg Value.bool (by decide)))
        · refine rs_yes rfl rfl (by kernel_rfl) (by kernel_rfl : _ = some 74) (fun _ _ _ h => h) fun a wr S => ?_
          have X := undrew S.ext
          obtain ⟨v10, e10, h10⟩ := S.got 10 (by kernel_rfl)
          exact wp_mv ((ev_of (e10 76 (by kernel_rfl))).trans h10) (done (by kernel_rfl) rbu_refl rfl)
        · exact rs_no rfl rfl (by kernel_rfl) (by kernel_rfl : _ = some 77) (fun _ _ _ h => h) (by kernel_rfl) rbu_refl (fun _ _ => rfl)
        · exact rs_no rfl rfl (by kernel_rfl) (by kernel_rfl : _ = some 77) (fun _ _ _ h => h) (by kernel_rfl) rbu_refl (fun _ _ => rfl)
        · exact rs_no rfl rfl (by kernel_rfl) (by kernel_rfl : _ = some 77) (fun _ _ _ h => h) (by kernel_rfl) rbu_refl (fun _ _ => rfl)
        · exact rs_no rfl rfl (by kernel_rfl) (by kernel_rfl : _ = some 77) (fun _ _ _ h => h) (by kernel_rfl) rbu_refl (fun _ _ => rfl)
        · refine rs_yes rfl rfl (by kernel_rfl) (by kernel_rfl : _ = some 74) (fun _ _ _ h => h) fun a wr S => ?_
          have X := undrew S.ext
          obtain ⟨v11, e11, h11⟩ := S.got 11 (by kernel_rfl)
          exact wp_pickT ((ev_of (e11 77 (by kernel_rfl))).trans h11) rfl (done (by kernel_rfl) rbu_refl rfl)
        · refine rs_yes rfl rfl (by kernel_rfl) (by kernel_rfl : _ = some 74) (fun _ _ _ h => h) fun a wr S => ?_
          have X := undrew S.ext
          obtain ⟨v16, e16, h16⟩ := S.got 16 (by kernel_rfl)
          exact wp_mv ((ev_of (e16 82 (by kernel_rfl))).trans h16) (done (by kernel_rfl) rbu_refl rfl)
        · exact rs_no rfl rfl (by kernel_rfl) (by kernel_rfl : _ = some 83) (fun _ _ _ h => h) (by kernel_rfl) rbu_refl (fun _ _ => rfl)
        · exact rs_no rfl rfl (by kernel_rfl) (by kernel_rfl : _ = some 83) (fun _ _ _ h => h) (by kernel_rfl) rbu_refl (fun _ _ => rfl)
        · exact rs_no rfl rfl (by kernel_rfl) (by kernel_rfl : _ = some 83) (fun _ _ _ h => h) (by kernel_rfl) rbu_refl (fun _ _ => rfl)
        · exact rs_no rfl rfl (by kernel_rfl) (by kernel_rfl : _ = some 83) (fun _ _ _ h => h) (by kernel_rfl) rbu_refl (fun _ _ => rfl)
        · refine rs_yes rfl rfl (by kernel_rfl) (by kernel_rfl : _ = some 74) (fun _ _ _ h => h) fun a wr S => ?_
          have X := undrew S.ext
          obtain ⟨v17, e17, h17⟩ := S.got 17 (by kernel_rfl)
          exact wp_pickT ((ev_of (e17 83 (by kernel_rfl))).trans h17) rfl (done (by kernel_rfl) rbu_refl rfl)
        · refine rs_plain rfl rfl fun a wr S => ?_
          have X := undrew S.ext
          obtain ⟨v8, e8, h8⟩ := S.got 8 (by kernel_rfl)
          obtain ⟨v22, e22, h22⟩ := S.got 22 (by kernel_rfl)
          exact wp_pickT ((ev_of (e8 74 (by kernel_rfl))).trans h8) ((ev_of (e22 88 (by kernel_rfl))).trans h22) (done (by kernel_rfl) rbu_refl rfl)
        · refine rs_plain rfl rfl fun a wr S => ?_
          have X := undrew S.ext
          obtain ⟨v23, e23, h23⟩ := S.got 23 (by kernel_rfl)
          exact wp_as ((ev_of (e23 89 (by kernel_rfl))).trans h23) (done (by kernel_rfl) rbu_refl rfl)
      · intro fc w5 hR hv
        replace hR := undrew hR
        have f0 : fc 0 = .int .i64 1 := (hvc (hv 0 (by omega))).elim fun _ h => h
        have f1 : fc 1 = .bool false := (hvc (hv 1 (by omega))).elim fun _ h => h
        have f2 : fc 2 = .agg #[.bool sa, .slice Aa (min na 4) ca, .slice Ba (min ma 4) da] := (hvc (hv 2 (by omega))).elim fun _ h => h
        have f4 : fc 4 = .agg #[.bool sb, .slice Ab (min nb 4) cb, .slice Bb (min mb 4) db] := (hvc (hv 4 (by omega))).elim fun _ h => h
        have f6 : fc 6 = .bool false := (hvc (hv 6 (by omega))).elim fun _ h => h
        have f7 : fc 7 = .bool true := (hvc (hv 7 (by omega))).elim fun _ h => h
        have f8 : fc 8 = .bool true := (hvc (hv 8 (by omega))).elim fun _ h => h
        have f9 : fc 9 = .int .i64 1 := (hvc (hv 9 (by omega))).elim fun _ h => h
        have f10 : fc 10 = .bool true := (hvc (hv 10 (by omega))).elim fun _ h => h
        have f11 : fc 11 = .bool true := (hvc (hv 11 (by omega))).elim fun _ h => h
        have f12 : fc 12 = undef := (hvc (hv 12 (by omega))).elim fun _ h => h
        have f13 : fc 13 = undef := (hvc (hv 13 (by omega))).elim fun _ h => h
        have f14 : fc 14 = undef := (hvc (hv 14 (by omega))).elim fun _ h => h
        have f15 : fc 15 = undef := (hvc (hv 15 (by omega))).elim fun _ h => h
        have f16 : fc 16 = Value.bool true := (hvc (hv 16 (by omega))).elim fun _ h => h
        have f17 : fc 17 = Value.bool true := (hvc (hv 17 (by omega))).elim fun _ h => h
        have f18 : fc 18 = undef := (hvc (hv 18 (by omega))).elim fun _ h => h
        have f19 : fc 19 = undef := (hvc (hv 19 (by omega))).elim fun _ h => h
        have f20 : fc 20 = undef := (hvc (hv 20 (by omega))).elim fun _ h => h
        have f21 : fc 21 = undef := (hvc (hv 21 (by omega))).elim fun _ h => h
        have f22 : fc 22 = Value.bool true := (hvc (hv 22 (by omega))).elim fun _ h => h
        have f23 : fc 23 = Value.bool true := (hvc (hv 23 (by omega))).elim fun _ h => h
        have f24 : fc 24 = Value.bool true := (hvc (hv 24 (by omega))).elim fun _ h => h
        simp only [putFn, Act.put, List.setIfInBounds_toArray, List.set_cons_zero, List.set_cons_succ, f0, f1, f2, f4, f6, f7, f8, f9, f10, f11, f12, f13, f14, f15, f16, f17, f18, f19, f20, f21, f22, f23, f24]
        replace BB := bl_trans BB hR
        clear hR hv
        go_wp2_with fail
        go_ret
        exact ⟨rfl, BB⟩

theorem ratOrder_walkW (sa : Bool) (Aa : Option Addr) (na ca : Nat) (xa : List Nat) (Ba : Option Addr) (ma da : Nat) (ya : List Nat) (sb : Bool) (Ab : Option Addr) (nb cb : Nat) (xb : List Nat) (Bb : Option Addr) (mb db : Nat) (yb : List Nat) (sc : Bool) (Ac : Option Addr) (nc cc : Nat) (xc : List Nat) (Bc : Option Addr) (mc dc : Nat) (yc : List Nat) (w : World) (HW : ∀ W : World, Calls Tryz.prog 39 #[] W (Ans W fun _ v => v = .bool true)) (ha : Rd w Aa na ca xa) (ia : na ≤ maxLen) (ja : Rd w Ba ma da ya) (ka : ma ≤ maxLen) (hb : Rd w Ab nb cb xb) (ib : nb ≤ maxLen) (jb : Rd w Bb mb db yb) (kb : mb ≤ maxLen) (hc : Rd w Ac nc cc xc) (ic : nc ≤ maxLen) (jc : Rd w Bc mc dc yc) (kc : mc ≤ maxLen) : Calls Tryz.prog 7 #[.agg #[.bool sa, .slice Aa na ca, .slice Ba ma da], .agg #[.bool sb, .slice Ab nb cb, .slice Bb mb db], .agg #[.bool sc, .slice Ac nc cc, .slice Bc mc dc]] w fun e w' => e = .returned (.bool true) ∧ Below w.heap.size w w' := by
  obtain ⟨qa, za⟩ : ∃ q, q = mkRat (zv sa (M.val (xa.take (min na 4)))) (dOf (M.val (ya.take (min ma 4)))) := ⟨_, rfl⟩
  obtain ⟨qb, zb⟩ : ∃ q, q = mkRat (zv sb (M.val (xb.take (min nb 4)))) (dOf (M.val (yb.take (min mb 4)))) := ⟨_, rfl⟩
  obtain ⟨qc, zc⟩ : ∃ q, q = mkRat (zv sc (M.val (xc.take (min nc 4)))) (dOf (M.val (yc.take (min mc 4)))) := ⟨_, rfl⟩
  have hBA := cmpQ_swap qa qb
  have hAC := cmpQ_add qa qb qc
  have hMC := cmpQ_mul qa qb qc
  have hSU := sgn_sub qa qb
  have hZ : cmpQ qa qb = 0 ↔ -qa = -qb := cmpQ_zero.trans neg_inj.symm
  have hS : -1 ≤ sgn qc.num ∧ sgn qc.num ≤ 1 := by
    have := cmpQ_range qc 0
    rw [sgn_cmp]
    omega
  rcases cmpQ_range qa qb with hn | hn | hn <;> rw [hn] at hBA hAC hMC hSU hZ
  · exact ratOrder_m sa Aa na ca xa Ba ma da ya sb Ab nb cb xb Bb mb db yb sc Ac nc cc xc Bc mc dc yc qa qb qc _ w hS.1 hS.2 HW (Lib.hid ha) (Lib.hid ia) (Lib.hid ja) (Lib.hid ka) (Lib.hid hb) (Lib.hid ib) (Lib.hid jb) (Lib.hid kb) (Lib.hid hc) (Lib.hid ic) (Lib.hid jc) (Lib.hid kc) (Lib.hid za) (Lib.hid zb) (Lib.hid zc) (Lib.hid hn) (Lib.hid hBA) (Lib.hid hAC) (Lib.hid hMC) (Lib.hid rfl) (Lib.hid hSU) (Lib.hid (fun h => absurd (hZ.2 h) (by omega)))
  · exact ratOrder_z sa Aa na ca xa Ba ma da ya sb Ab nb cb xb Bb mb db yb sc Ac nc cc xc Bc mc dc yc qa qb qc _ w hS.1 hS.2 HW (Lib.hid ha) (Lib.hid ia) (Lib.hid ja) (Lib.hid ka) (Lib.hid hb) (Lib.hid ib) (Lib.hid jb) (Lib.hid kb) (Lib.hid hc) (Lib.hid ic) (Lib.hid jc) (Lib.hid kc) (Lib.hid za) (Lib.hid zb) (Lib.hid zc) (Lib.hid hn) (Lib.hid hBA) (Lib.hid hAC) (Lib.hid hMC) (Lib.hid rfl) (Lib.hid hSU) (Lib.hid (hZ.1 rfl))
  · exact ratOrder_p sa Aa na ca xa Ba ma da ya sb Ab nb cb xb Bb mb db yb sc Ac nc cc xc Bc mc dc yc qa qb qc _ w hS.1 hS.2 HW (Lib.hid ha) (Lib.hid ia) (Lib.hid ja) (Lib.hid ka) (Lib.hid hb) (Lib.hid ib) (Lib.hid jb) (Lib.hid kb) (Lib.hid hc) (Lib.hid ic) (Lib.hid jc) (Lib.hid kc) (Lib.hid za) (Lib.hid zb) (Lib.hid zc) (Lib.hid hn) (Lib.hid hBA) (Lib.hid hAC) (Lib.hid hMC) (Lib.hid rfl) (Lib.hid hSU) (Lib.hid (fun h => absurd (hZ.2 h) (by omega)))

end Go.Proofs.YtbhgbilhoonopaaGreat
