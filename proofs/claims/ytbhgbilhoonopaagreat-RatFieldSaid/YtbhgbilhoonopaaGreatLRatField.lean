/- litmuslaw03.RatField answers true at every input, and changes nothing that was there: its walk. -/
import Derived.Test.YtbhgbilhoonopaaGreatQAlloc
namespace Go.Proofs.YtbhgbilhoonopaaGreat
open Go.RowKit
set_option linter.unusedVariables false
set_option maxRecDepth 100000

theorem fld_sub (a b : Rat) : a - b + b = a + ((0 : Int) : Rat) := by
  rw [Rat.sub_add_cancel]
  exact (Rat.add_zero _).symm
theorem fld_neg (a : Rat) : sgn (a + -a).num = 0 := by
  rw [Rat.add_neg_cancel]
  rfl
theorem sgn_of_zero {q : Rat} (h : q = 0) : sgn q.num = 0 := by rw [h]; rfl
theorem sgn_of_ne {q : Rat} (h : q ≠ 0) : sgn q.num ≠ 0 := by
  rcases Int.lt_trichotomy q.num 0 with g | g | g
  · rw [sgn_neg g]; omega
  · exact absurd (Rat.num_eq_zero.1 g) h
  · rw [sgn_pos g]; omega
set_option maxHeartbeats 8000000 in
theorem ratField_in (sa : Bool) (Aa : Option Addr) (na ca : Nat) (xa : List Nat) (Ba : Option Addr) (ma da : Nat) (ya : List Nat) (sb : Bool) (Ab : Option Addr) (nb cb : Nat) (xb : List Nat) (Bb : Option Addr) (mb db : Nat) (yb : List Nat) (sc : Bool) (Ac : Option Addr) (nc cc : Nat) (xc : List Nat) (Bc : Option Addr) (mc dc : Nat) (yc : List Nat) (qa qb qc : Rat) (w : World) (Ha : Hid (Rd w Aa na ca xa)) (Ia : Hid (na ≤ maxLen)) (Ja : Hid (Rd w Ba ma da ya)) (Ka : Hid (ma ≤ maxLen)) (Hb : Hid (Rd w Ab nb cb xb)) (Ib : Hid (nb ≤ maxLen)) (Jb : Hid (Rd w Bb mb db yb)) (Kb : Hid (mb ≤ maxLen)) (Hc : Hid (Rd w Ac nc cc xc)) (Ic : Hid (nc ≤ maxLen)) (Jc : Hid (Rd w Bc mc dc yc)) (Kc : Hid (mc ≤ maxLen)) (Za : Hid (qa = mkRat (zv sa (M.val (xa.take (min na 4)))) (dOf (M.val (ya.take (min ma 4)))))) (Zb : Hid (qb = mkRat (zv sb (M.val (xb.take (min nb 4)))) (dOf (M.val (yb.take (min mb 4)))))) (Zc : Hid (qc = mkRat (zv sc (M.val (xc.take (min nc 4)))) (dOf (M.val (yc.take (min mc 4)))))) : Calls Tryz.prog 6 #[.agg #[.bool sa, .slice Aa na ca, .slice Ba ma da], .agg #[.bool sb, .slice Ab nb cb, .slice Bb mb db], .agg #[.bool sc, .slice Ac nc cc, .slice Bc mc dc]] w fun e w' => e = .returned (.bool true) ∧ Below w.heap.size w w' := by
  have BB := (bl_trans (bl_trans (bl_alloc w (.cells #[.bool sa, .slice Aa na ca, .slice Ba ma da] 26)) (bl_alloc _ (.cells #[.bool sb, .slice Ab nb cb, .slice Bb mb db] 26))) (bl_alloc _ (.cells #[.bool sc, .slice Ac nc cc, .slice Bc mc dc] 26)))
  have Pa := ((Bq.new w  sa Aa na ca Ba ma da).alloc (.cells #[.bool sb, .slice Ab nb cb, .slice Bb mb db] 26)).alloc (.cells #[.bool sc, .slice Ac nc cc, .slice Bc mc dc] 26)
  have Pb := (Bq.new2 w (.cells #[.bool sa, .slice Aa na ca, .slice Ba ma da] 26) sb Ab nb cb Bb mb db).alloc (.cells #[.bool sc, .slice Ac nc cc, .slice Bc mc dc] 26)
  have Pc := Bq.new3 w (.cells #[.bool sa, .slice Aa na ca, .slice Ba ma da] 26) (.cells #[.bool sb, .slice Ab nb cb, .slice Bb mb db] 26) sc Ac nc cc Bc mc dc
  go_enter Tryz.func6, Tryz.ntmps6
  go_wp2_with fail
  refine (cWorks3 _).mono ?_
  rintro e w1 ⟨_, rfl, hb1, rfl⟩
  replace Pa := Pa.below hb1
  replace Pb := Pb.below hb1
  replace Pc := Pc.below hb1
  replace BB := bl_trans BB hb1
  clear hb1
  go_wp2_with fail
  refine wp_cut (by kernel_rfl) 6 ?_
  simp only [List.take_succ_cons, List.take_zero, List.drop_succ_cons, List.drop_zero]
  refine wp_cut_list (Ext := RB) (Rel := RBu) [fun v _ _ => v = .agg #[.bool sa, .slice Aa na ca, .slice Ba ma da], fun v _ _ => v = .agg #[.bool sa, .slice Aa (min na 4) ca, .slice Ba (min ma 4) da], fun v _ _ => v = .agg #[.bool sb, .slice Ab nb cb, .slice Bb mb db], fun v _ _ => v = .agg #[.bool sb, .slice Ab (min nb 4) cb, .slice Bb (min mb 4) db], fun v _ _ => v = .agg #[.bool sc, .slice Ac nc cc, .slice Bc mc dc], fun v _ _ => v = .agg #[.bool sc, .slice Ac (min nc 4) cc, .slice Bc (min mc 4) dc]] (n := 6) (by kernel_rfl) (by kernel_rfl) (by kernel_rfl) (by kernel_rfl) (by kernel_rfl) (by kernel_rfl) (by kernel_rfl) (by kernel_rfl) (by kernel_rfl) rb_refl rb_trans ⟨sC, ⟨sC, ⟨sC, ⟨sC, ⟨sC, ⟨sC, trivial⟩⟩⟩⟩⟩⟩ ?_ ?_
  · refine ⟨⟨⟨⟨⟨⟨trivial, ?_⟩, ?_⟩, ?_⟩, ?_⟩, ?_⟩, ?_⟩
    · refine rs_plain rfl rfl fun a wr S => ?_
      have X := undrew S.ext
      exact wp_qload (ev_of ((S.old 3 (by kernel_rfl)).trans rfl)) (Pa.below X) (done (by kernel_rfl) rbu_refl rfl)
    · refine rs_plain rfl rfl fun a wr S => ?_
      have X := undrew S.ext
      obtain ⟨v0, e0, h0⟩ := S.got 0 (by kernel_rfl)
      exact st_call cf_law03_few (args2 ((ev_of (e0 11 (by kernel_rfl))).trans h0) rfl) (by kernel_rfl) rb (cFew3 Ha.out.cap Ja.out.cap Ia.out Ka.out 4 _ rfl (by omega)) (fun _ _ _ h => h)
    · refine rs_plain rfl rfl fun a wr S => ?_
      have X := undrew S.ext
      exact wp_qload (ev_of ((S.old 4 (by kernel_rfl)).trans rfl)) (Pb.below X) (done (by kernel_rfl) rbu_refl rfl)
    · refine rs_plain rfl rfl fun a wr S => ?_
      have X := undrew S.ext
      obtain ⟨v2, e2, h2⟩ := S.got 2 (by kernel_rfl)
      exact st_call cf_law03_few (args2 ((ev_of (e2 13 (by kernel_rfl))).trans h2) rfl) (by kernel_rfl) rb (cFew3 Hb.out.cap Jb.out.cap Ib.out Kb.out 4 _ rfl (by omega)) (fun _ _ _ h => h)
    · refine rs_plain rfl rfl fun a wr S => ?_
      have X := undrew S.ext
      exact wp_qload (ev_of ((S.old 5 (by kernel_rfl)).trans rfl)) (Pc.below X) (done (by kernel_rfl) rbu_refl rfl)
    · refine rs_plain rfl rfl fun a wr S => ?_
      have X := undrew S.ext
      obtain ⟨v4, e4, h4⟩ := S.got 4 (by kernel_rfl)
      exact st_call cf_law03_few (args2 ((ev_of (e4 15 (by kernel_rfl))).trans h4) rfl) (by kernel_rfl) rb (cFew3 Hc.out.cap Jc.out.cap Ic.out Kc.out 4 _ rfl (by omega)) (fun _ _ _ h => h)
  · intro fw2 w2 hR hv hap
    clear hap
    replace hR := undrew hR
    have f0 : fw2 0 = .agg #[.bool sa, .slice Aa na ca, .slice Ba ma da] := (hvc (hv 0 (by omega))).elim fun _ h => h
    have f1 : fw2 1 = .agg #[.bool sa, .slice Aa (min na 4) ca, .slice Ba (min ma 4) da] := (hvc (hv 1 (by omega))).elim fun _ h => h
    have f2 : fw2 2 = .agg #[.bool sb, .slice Ab nb cb, .slice Bb mb db] := (hvc (hv 2 (by omega))).elim fun _ h => h
    have f3 : fw2 3 = .agg #[.bool sb, .slice Ab (min nb 4) cb, .slice Bb (min mb 4) db] := (hvc (hv 3 (by omega))).elim fun _ h => h
    have f4 : fw2 4 = .agg #[.bool sc, .slice Ac nc cc, .slice Bc mc dc] := (hvc (hv 4 (by omega))).elim fun _ h => h
    have f5 : fw2 5 = .agg #[.bool sc, .slice Ac (min nc 4) cc, .slice Bc (min mc 4) dc] := (hvc (hv 5 (by omega))).elim fun _ h => h
    simp only [putFn, Act.put, List.setIfInBounds_toArray, List.set_cons_zero, List.set_cons_succ, f0, f1, f2, f3, f4, f5]
    replace Pa := Pa.below hR
    replace Pb := Pb.below hR
    replace Pc := Pc.below hR
    replace BB := bl_trans BB hR
    clear hR hv
    have ra0 := Pa.c0
    have fa0 := Pa.f 0
    have ra1 := Pa.c1
    have fa1 := Pa.f 1
    have ra2 := Pa.c2
    have fa2 := Pa.f 2
    have rb0 := Pb.c0
    have fb0 := Pb.f 0
    have rb1 := Pb.c1
    have fb1 := Pb.f 1
    have rb2 := Pb.c2
    have fb2 := Pb.f 2
    have rc0 := Pc.c0
    have fc0 := Pc.f 0
    have rc1 := Pc.c1
    have fc1 := Pc.f 1
    have rc2 := Pc.c2
    have fc2 := Pc.f 2
    go_wp2_with fail
    clear ra0 fa0 ra1 fa1 ra2 fa2 rb0 fb0 rb1 fb1 rb2 fb2 rc0 fc0 rc1 fc1 rc2 fc2
    have Xa := (((((((Pa.set3 (b' := sa) (A' := Aa) (n' := min na 4) (c' := ca) (B' := Ba) (m' := min ma 4) (d' := da)).other (g' := w.heap.size + 1) (i := 0) (v := .bool sb) (by omega)).other (g' := w.heap.size + 1) (i := 1) (v := .slice Ab (min nb 4) cb) (by omega)).other (g' := w.heap.size + 1) (i := 2) (v := .slice Bb (min mb 4) db) (by omega)).other (g' := w.heap.size + 1 + 1) (i := 0) (v := .bool sc) (by omega)).other (g' := w.heap.size + 1 + 1) (i := 1) (v := .slice Ac (min nc 4) cc) (by omega)).other (g' := w.heap.size + 1 + 1) (i := 2) (v := .slice Bc (min mc 4) dc) (by omega))
    have Xb := (((((((Pb.other (g' := w.heap.size) (i := 0) (v := .bool sa) (by omega)).other (g' := w.heap.size) (i := 1) (v := .slice Aa (min na 4) ca) (by omega)).other (g' := w.heap.size) (i := 2) (v := .slice Ba (min ma 4) da) (by omega)).set3 (b' := sb) (A' := Ab) (n' := min nb 4) (c' := cb) (B' := Bb) (m' := min mb 4) (d' := db)).other (g' := w.heap.size + 1 + 1) (i := 0) (v := .bool sc) (by omega)).other (g' := w.heap.size + 1 + 1) (i := 1) (v := .slice Ac (min nc 4) cc) (by omega)).other (g' := w.heap.size + 1 + 1) (i := 2) (v := .slice Bc (min mc 4) dc) (by omega))
    have Xc := (((((((Pc.other (g' := w.heap.size) (i := 0) (v := .bool sa) (by omega)).other (g' := w.heap.size) (i := 1) (v := .slice Aa (min na 4) ca) (by omega)).other (g' := w.heap.size) (i := 2) (v := .slice Ba (min ma 4) da) (by omega)).other (g' := w.heap.size + 1) (i := 0) (v := .bool sb) (by omega)).other (g' := w.heap.size + 1) (i := 1) (v := .slice Ab (min nb 4) cb) (by omega)).other (g' := w.heap.size + 1) (i := 2) (v := .slice Bb (min mb 4) db) (by omega)).set3 (b' := sc) (A' := Ac) (n' := min nc 4) (c' := cc) (B' := Bc) (m' := min mc 4) (d' := dc))
    replace BB := (((((((((BB.setCell (p := ⟨w.heap.size, 0, none⟩) (by show _ ≤ w.heap.size; omega) (.bool sa)).setCell (p := ⟨w.heap.size, 1, none⟩) (by show _ ≤ w.heap.size; omega) (.slice Aa (min na 4) ca)).setCell (p := ⟨w.heap.size, 2, none⟩) (by show _ ≤ w.heap.size; omega) (.slice Ba (min ma 4) da)).setCell (p := ⟨w.heap.size + 1, 0, none⟩) (by show _ ≤ w.heap.size + 1; omega) (.bool sb)).setCell (p := ⟨w.heap.size + 1, 1, none⟩) (by show _ ≤ w.heap.size + 1; omega) (.slice Ab (min nb 4) cb)).setCell (p := ⟨w.heap.size + 1, 2, none⟩) (by show _ ≤ w.heap.size + 1; omega) (.slice Bb (min mb 4) db)).setCell (p := ⟨w.heap.size + 1 + 1, 0, none⟩) (by show _ ≤ w.heap.size + 1 + 1; omega) (.bool sc)).setCell (p := ⟨w.heap.size + 1 + 1, 1, none⟩) (by show _ ≤ w.heap.size + 1 + 1; omega) (.slice Ac (min nc 4) cc)).setCell (p := ⟨w.heap.size + 1 + 1, 2, none⟩) (by show _ ≤ w.heap.size + 1 + 1; omega) (.slice Bc (min mc 4) dc))
    clear Pa Pb Pc
    generalize (((((((((w2.setCell ⟨w.heap.size, 0, none⟩ (.bool sa)).setCell ⟨w.heap.size, 1, none⟩ (.slice Aa (min na 4) ca)).setCell ⟨w.heap.size, 2, none⟩ (.slice Ba (min ma 4) da)).setCell ⟨w.heap.size + 1, 0, none⟩ (.bool sb)).setCell ⟨w.heap.size + 1, 1, none⟩ (.slice Ab (min nb 4) cb)).setCell ⟨w.heap.size + 1, 2, none⟩ (.slice Bb (min mb 4) db)).setCell ⟨w.heap.size + 1 + 1, 0, none⟩ (.bool sc)).setCell ⟨w.heap.size + 1 + 1, 1, none⟩ (.slice Ac (min nc 4) cc)).setCell ⟨w.heap.size + 1 + 1, 2, none⟩ (.slice Bc (min mc 4) dc)) = wh at Xa Xb Xc BB ⊢
    have Qa : IsQm wh (.agg #[.bool sa, .slice Aa (min na 4) ca, .slice Ba (min ma 4) da]) qa 4 := by rw [Za.out]; exact few_q (Ha.out.below BB) (Ja.out.below BB) 4
    have Qb : IsQm wh (.agg #[.bool sb, .slice Ab (min nb 4) cb, .slice Bb (min mb 4) db]) qb 4 := by rw [Zb.out]; exact few_q (Hb.out.below BB) (Jb.out.below BB) 4
    have Qc : IsQm wh (.agg #[.bool sc, .slice Ac (min nc 4) cc, .slice Bc (min mc 4) dc]) qc 4 := by rw [Zc.out]; exact few_q (Hc.out.below BB) (Jc.out.below BB) 4
    clear Ha Ia Ja Ka Za Hb Ib Jb Kb Zb Hc Ic Jc Kc Zc
    refine wp_region_list (Ext := RB) (Rel := RBu) [fun v _ _ => v = .agg #[.bool sa, .slice Aa (min na 4) ca, .slice Ba (min ma 4) da], fun v _ _ => v = .agg #[.bool sb, .slice Ab (min nb 4) cb, .slice Bb (min mb 4) db], fun v _ w => IsQ (wh).heap.size w v (qa + qb) 9, fun v _ _ => v = .agg #[.bool sb, .slice Ab (min nb 4) cb, .slice Bb (min mb 4) db], fun v _ _ => v = .agg #[.bool sa, .slice Aa (min na 4) ca, .slice Ba (min ma 4) da], fun v _ w => IsQ (wh).heap.size w v (qb + qa) 9, fun v _ _ => v = .bool true, fun v _ _ => v = .bool false, fun v _ _ => v = .bool false, fun v _ _ => v = .agg #[.bool sa, .slice Aa (min na 4) ca, .slice Ba (min ma 4) da], fun v _ _ => v = .agg #[.bool sb, .slice Ab (min nb 4) cb, .slice Bb (min mb 4) db], fun v _ w => IsQ (wh).heap.size w v (qa * qb) 8, fun v _ _ => v = .agg #[.bool sb, .slice Ab (min nb 4) cb, .slice Bb (min mb 4) db], fun v _ _ => v = .agg #[.bool sa, .slice Aa (min na 4) ca, .slice Ba (min ma 4) da], fun v _ w => IsQ (wh).heap.size w v (qb * qa) 8, fun v _ _ => v = .bool true, fun v _ _ => v = .bool false, fun v _ _ => v = .bool false, fun v _ _ => v = .bool false, fun v _ _ => v = .agg #[.bool sa, .slice Aa (min na 4) ca, .slice Ba (min ma 4) da], fun v _ _ => v = .agg #[.bool sb, .slice Ab (min nb 4) cb, .slice Bb (min mb 4) db], fun v _ w => IsQ (wh).heap.size w v (qa + qb) 9, fun v _ _ => v = .agg #[.bool sc, .slice Ac (min nc 4) cc, .slice Bc (min mc 4) dc], fun v _ w => IsQ (wh).heap.size w v ((qa + qb) + qc) 14, fun v _ _ => v = .agg #[.bool sa, .slice Aa (min na 4) ca, .slice Ba (min ma 4) da], fun v _ _ => v = .agg #[.bool sb, .slice Ab (min nb 4) cb, .slice Bb (min mb 4) db], fun v _ _ => v = .agg #[.bool sc, .slice Ac (min nc 4) cc, .slice Bc (min mc 4) dc], fun v _ w => IsQ (wh).heap.size w v (qb + qc) 9, fun v _ w => IsQ (wh).heap.size w v (qa + (qb + qc)) 14, fun v _ _ => v = .bool true, fun v _ _ => v = .bool false, fun v _ _ => v = .bool false, fun v _ _ => v = .bool false, fun v _ _ => v = .agg #[.bool sa, .slice Aa (min na 4) ca, .slice Ba (min ma 4) da], fun v _ _ => v = .agg #[.bool sb, .slice Ab (min nb 4) cb, .slice Bb (min mb 4) db], fun v _ w => IsQ (wh).heap.size w v (qa * qb) 8, fun v _ _ => v = .agg #[.bool sc, .slice Ac (min nc 4) cc, .slice Bc (min mc 4) dc], fun v _ w => IsQ (wh).heap.size w v ((qa * qb) * qc) 12, fun v _ _ => v = .agg #[.bool sa, .slice Aa (min na 4) ca, .slice Ba (min ma 4) da], fun v _ _ => v = .agg #[.bool sb, .slice Ab (min nb 4) cb, .slice Bb (min mb 4) db], fun v _ _ => v = .agg #[.bool sc, .slice Ac (min nc 4) cc, .slice Bc (min mc 4) dc], fun v _ w => IsQ (wh).heap.size w v (qb * qc) 8, fun v _ w => IsQ (wh).heap.size w v (qa * (qb * qc)) 12, fun v _ _ => v = .bool true, fun v _ _ => v = .bool false, fun v _ _ => v = .bool false] (n := 46) (by kernel_rfl) rfl (by kernel_rfl) (by kernel_rfl) (by kernel_rfl) (by kernel_rfl) (by kernel_rfl) rb_refl rb_trans ⟨sC, ⟨sC, ⟨sQ, ⟨sC, ⟨sC, ⟨sQ, ⟨sC, ⟨sC, ⟨sC, ⟨sC, ⟨sC, ⟨sQ, ⟨sC, ⟨sC, ⟨sQ, ⟨sC, ⟨sC, ⟨sC, ⟨sC, ⟨sC, ⟨sC, ⟨sQ, ⟨sC, ⟨sQ, ⟨sC, ⟨sC, ⟨sC, ⟨sQ, ⟨sQ, ⟨sC, ⟨sC, ⟨sC, ⟨sC, ⟨sC, ⟨sC, ⟨sQ, ⟨sC, ⟨sQ, ⟨sC, ⟨sC, ⟨sC, ⟨sQ, ⟨sQ, ⟨sC, ⟨sC, ⟨sC, trivial⟩⟩⟩⟩⟩⟩⟩⟩⟩⟩⟩⟩⟩⟩⟩⟩⟩⟩⟩⟩⟩⟩⟩⟩⟩⟩⟩⟩⟩⟩⟩⟩⟩⟩⟩⟩⟩⟩⟩⟩⟩⟩⟩⟩⟩⟩ ?_ ?_
    · refine ⟨⟨⟨⟨⟨⟨⟨⟨⟨⟨⟨⟨⟨⟨⟨⟨⟨⟨⟨⟨⟨⟨⟨⟨⟨⟨⟨⟨⟨⟨⟨⟨⟨⟨⟨⟨⟨⟨⟨⟨⟨⟨⟨⟨⟨⟨trivial, ?_⟩, ?_⟩, ?_⟩, ?_⟩, ?_⟩, ?_⟩, ?_⟩, ?_⟩, ?_⟩, ?_⟩, ?_⟩, ?_⟩, ?_⟩, ?_⟩, ?_⟩, ?_⟩, ?_⟩, ?_⟩, ?_⟩, ?_⟩, ?_⟩, ?_⟩, ?_⟩, ?_⟩, ?_⟩, ?_⟩, ?_⟩, ?_⟩, ?_⟩, ?_⟩, ?_⟩, ?_⟩, ?_⟩, ?_⟩, ?_⟩, ?_⟩, ?_⟩, ?_⟩, ?_⟩, ?_⟩, ?_⟩, ?_⟩, ?_⟩, ?_⟩, ?_⟩, ?_⟩
      · refine rs_plain rfl rfl fun a wr S => ?_
        have X := undrew S.ext
        exact wp_qload (ev_of ((S.old 3 (by kernel_rfl)).trans rfl)) (Xa.below X) (done (by kernel_rfl) rbu_refl rfl)
      · refine rs_plain rfl rfl fun a wr S => ?_
        have X := undrew S.ext
        exact wp_qload (ev_of ((S.old 4 (by kernel_rfl)).trans rfl)) (Xb.below X) (done (by kernel_rfl) rbu_refl rfl)
      · refine rs_plain rfl rfl fun a wr S => ?_
        have X := undrew S.ext
        obtain ⟨v0, e0, h0⟩ := S.got 0 (by kernel_rfl)
        obtain ⟨v1, e1, h1⟩ := S.got 1 (by kernel_rfl)
        exact st_call cf_rat_Add (args2 ((ev_of (e0 17 (by kernel_rfl))).trans h0) ((ev_of (e1 18 (by kernel_rfl))).trans h1)) (by kernel_rfl) rb ((cQAdd (show IsQm _ _ _ _ from (Qa.below X)) (show IsQm _ _ _ _ from (Qb.below X)) (by omega) (by omega) (by omega) (by omega)).mono (ansQ_base X.size)) (fun _ _ _ h => h)
      · refine rs_plain rfl rfl fun a wr S => ?_
        have X := undrew S.ext
        exact wp_qload (ev_of ((S.old 4 (by kernel_rfl)).trans rfl)) (Xb.below X) (done (by kernel_rfl) rbu_refl rfl)
      · refine rs_plain rfl rfl fun a wr S => ?_
        have X := undrew S.ext
        exact wp_qload (ev_of ((S.old 3 (by kernel_rfl)).trans rfl)) (Xa.below X) (done (by kernel_rfl) rbu_refl rfl)
      · refine rs_plain rfl rfl fun a wr S => ?_
        have X := undrew S.ext
        obtain ⟨v3, e3, h3⟩ := S.got 3 (by kernel_rfl)
        obtain ⟨v4, e4, h4⟩ := S.got 4 (by kernel_rfl)
        exact st_call cf_rat_Add (args2 ((ev_of (e3 20 (by kernel_rfl))).trans h3) ((ev_of (e4 21 (by kernel_rfl))).trans h4)) (by kernel_rfl) rb ((cQAdd (show IsQm _ _ _ _ from (Qb.below X)) (show IsQm _ _ _ _ from (Qa.below X)) (by omega) (by omega) (by omega) (by omega)).mono (ansQ_base X.size)) (fun _ _ _ h => h)
      · refine rs_plain rfl rfl fun a wr S => ?_
        have X := undrew S.ext
        obtain ⟨v2, e2, h2⟩ := S.got 2 (by kernel_rfl)
        obtain ⟨v5, e5, h5⟩ := S.got 5 (by kernel_rfl)
        exact st_call cf_law03_same (args2 (ev_of (e2 19 (by kernel_rfl))) (ev_of (e5 22 (by kernel_rfl)))) (by kernel_rfl) rb (cSame3 (show IsQt _ _ _ _ from h2.t) (show IsQt _ _ _ _ from h5.t) (by omega) (by omega) (r := true) ⟨fun _ => Rat.add_comm _ _, fun _ => rfl⟩) (fun _ _ _ h => h)
      · refine rs_plain rfl rfl fun a wr S => ?_
        have X := undrew S.ext
        obtain ⟨v6, e6, h6⟩ := S.got 6 (by kernel_rfl)
        exact wp_not ((ev_of (e6 23 (by kernel_rfl))).trans h6) (done (by kernel_rfl) rbu_refl rfl)
      · refine rs_plain rfl rfl fun a wr S => ?_
        have X := undrew S.ext
        obtain ⟨v7, e7, h7⟩ := S.got 7 (by kernel_rfl)
        exact wp_mv ((ev_of (e7 24 (by kernel_rfl))).trans h7) (done (by kernel_rfl) rbu_refl rfl)
      · refine rs_yes rfl rfl (by kernel_rfl) (by kernel_rfl : _ = some 25) (fun _ _ _ h => h) fun a wr S => ?_
        have X := undrew S.ext
        exact wp_qload (ev_of ((S.old 3 (by kernel_rfl)).trans rfl)) (Xa.below X) (done (by kernel_rfl) rbu_refl rfl)
      · refine rs_yes rfl rfl (by kernel_rfl) (by kernel_rfl : _ = some 25) (fun _ _ _ h => h) fun a wr S => ?_
        have X := undrew S.ext
        exact wp_qload (ev_of ((S.old 4 (by kernel_rfl)).trans rfl)) (Xb.below X) (done (by kernel_rfl) rbu_refl rfl)
      · refine rs_yes rfl rfl (by kernel_rfl) (by kernel_rfl : _ = some 25) (fun _ _ _ h => h) fun a wr S => ?_
        have X := undrew S.ext
        obtain ⟨v9, e9, h9⟩ := S.got 9 (by kernel_rfl)
        obtain ⟨v10, e10, h10⟩ := S.got 10 (by kernel_rfl)
        exact st_call cf_rat_Mul (args2 ((ev_of (e9 26 (by kernel_rfl))).trans h9) ((ev_of (e10 27 (by kernel_rfl))).trans h10)) (by kernel_rfl) rb ((cQMul (show IsQm _ _ _ _ from (Qa.below X)) (show IsQm _ _ _ _ from (Qb.below X)) (by omega) (by omega) (by omega) (by omega)).mono (ansQ_base X.size)) (fun _ _ _ h => h)
      · refine rs_yes rfl rfl (by kernel_rfl) (by kernel_rfl : _ = some 25) (fun _ _ _ h => h) fun a wr S => ?_
        have X := undrew S.ext
        exact wp_qload (ev_of ((S.old 4 (by kernel_rfl)).trans rfl)) (Xb.below X) (done (by kernel_rfl) rbu_refl rfl)
      · refine rs_yes rfl rfl (by kernel_rfl) (by kernel_rfl : _ = some 25) (fun _ _ _ h => h) fun a wr S => ?_
        have X := undrew S.ext
        exact wp_qload (ev_of ((S.old 3 (by kernel_rfl)).trans rfl)) (Xa.below X) (done (by kernel_rfl) rbu_refl rfl)
      · refine rs_yes rfl rfl (by kernel_rfl) (by kernel_rfl : _ = some 25) (fun _ _ _ h => h) fun a wr S => ?_
        have X := undrew S.ext
        obtain ⟨v12, e12, h12⟩ := S.got 12 (by kernel_rfl)
        obtain ⟨v13, e13, h13⟩ := S.got 13 (by kernel_rfl)
        exact st_call cf_rat_Mul (args2 ((ev_of (e12 29 (by kernel_rfl))).trans h12) ((ev_of (e13 30 (by kernel_rfl))).trans h13)) (by kernel_rfl) rb ((cQMul (show IsQm _ _ _ _ from (Qb.below X)) (show IsQm _ _ _ _ from (Qa.below X)) (by omega) (by omega) (by omega) (by omega)).mono (ansQ_base X.size)) (fun _ _ _ h => h)
      · refine rs_yes rfl rfl (by kernel_rfl) (by kernel_rfl : _ = some 25) (fun _ _ _ h => h) fun a wr S => ?_
        have X := undrew S.ext
        obtain ⟨v11, e11, h11⟩ := S.got 11 (by kernel_rfl)
        obtain ⟨v14, e14, h14⟩ := S.got 14 (by kernel_rfl)
        exact st_call cf_law03_same (args2 (ev_of (e11 28 (by kernel_rfl))) (ev_of (e14 31 (by kernel_rfl)))) (by kernel_rfl) rb (cSame3 (show IsQt _ _ _ _ from h11.t) (show IsQt _ _ _ _ from h14.t) (by omega) (by omega) (r := true) ⟨fun _ => Rat.mul_comm _ _, fun _ => rfl⟩) (fun _ _ _ h => h)
      · refine rs_yes rfl rfl (by kernel_rfl) (by kernel_rfl : _ = some 25) (fun _ _ _ h => h) fun a wr S => ?_
        have X := undrew S.ext
        obtain ⟨v15, e15, h15⟩ := S.got 15 (by kernel_rfl)
        exact wp_not ((ev_of (e15 32 (by kernel_rfl))).trans h15) (done (by kernel_rfl) rbu_refl rfl)
      · refine rs_plain rfl rfl fun a wr S => ?_
        have X := undrew S.ext
        obtain ⟨v8, e8, h8⟩ := S.got 8 (by kernel_rfl)
        obtain ⟨v16, e16, h16⟩ := S.got 16 (by kernel_rfl)
        exact wp_pickF ((ev_of (e8 25 (by kernel_rfl))).trans h8) ((ev_of (e16 33 (by kernel_rfl))).trans h16) (done (by kernel_rfl) rbu_refl rfl)
      · refine rs_plain rfl rfl fun a wr S => ?_
        have X := undrew S.ext
        obtain ⟨v17, e17, h17⟩ := S.got 17 (by kernel_rfl)
        exact wp_mv ((ev_of (e17 34 (by kernel_rfl))).trans h17) (done (by kernel_rfl) rbu_refl rfl)
      · refine rs_yes rfl rfl (by kernel_rfl) (by kernel_rfl : _ = some 35) (fun _ _ _ h => h) fun a wr S => ?_
        have X := undrew S.ext
        exact wp_qload (ev_of ((S.old 3 (by kernel_rfl)).trans rfl)) (Xa.below X) (done (by kernel_rfl) rbu_refl rfl)
      · refine rs_yes rfl rfl (by kernel_rfl) (by kernel_rfl : _ = some 35) (fun _ _ _ h => h) fun a wr S => ?_
        have X := undrew S.ext
        exact wp_qload (ev_of ((S.old 4 (by kernel_rfl)).trans rfl)) (Xb.below X) (done (by kernel_rfl) rbu_refl rfl)
      · refine rs_yes rfl rfl (by kernel_rfl) (by kernel_rfl : _ = some 35) (fun _ _ _ h => h) fun a wr S => ?_
        have X := undrew S.ext
        obtain ⟨v19, e19, h19⟩ := S.got 19 (by kernel_rfl)
        obtain ⟨v20, e20, h20⟩ := S.got 20 (by kernel_rfl)
        exact st_call cf_rat_Add (args2 ((ev_of (e19 36 (by kernel_rfl))).trans h19) ((ev_of (e20 37 (by kernel_rfl))).trans h20)) (by kernel_rfl) rb ((cQAdd (show IsQm _ _ _ _ from (Qa.below X)) (show IsQm _ _ _ _ from (Qb.below X)) (by omega) (by omega) (by omega) (by omega)).mono (ansQ_base X.size)) (fun _ _ _ h => h)
      · refine rs_yes rfl rfl (by kernel_rfl) (by kernel_rfl : _ = some 35) (fun _ _ _ h => h) fun a wr S => ?_
        have X := undrew S.ext
        exact wp_qload (ev_of ((S.old 5 (by kernel_rfl)).trans rfl)) (Xc.below X) (done (by kernel_rfl) rbu_refl rfl)
      · refine rs_yes rfl rfl (by kernel_rfl) (by kernel_rfl : _ = some 35) (fun _ _ _ h => h) fun a wr S => ?_
        have X := undrew S.ext
        obtain ⟨v21, e21, h21⟩ := S.got 21 (by kernel_rfl)
        obtain ⟨v22, e22, h22⟩ := S.got 22 (by kernel_rfl)
        exact st_call cf_rat_Add (args2 (ev_of (e21 38 (by kernel_rfl))) ((ev_of (e22 39 (by kernel_rfl))).trans h22)) (by kernel_rfl) rb ((cQAdd (show IsQm _ _ _ _ from h21.m) (show IsQm _ _ _ _ from (Qc.below X)) (by omega) (by omega) (by omega) (by omega)).mono (ansQ_base X.size)) (fun _ _ _ h => h)
      · refine rs_yes rfl rfl (by kernel_rfl) (by kernel_rfl : _ = some 35) (fun _ _ _ h => h) fun a wr S => ?_
        have X := undrew S.ext
        exact wp_qload (ev_of ((S.old 3 (by kernel_rfl)).trans rfl)) (Xa.below X) (done (by kernel_rfl) rbu_refl rfl)
      · refine rs_yes rfl rfl (by kernel_rfl) (by kernel_rfl : _ = some 35) (fun _ _ _ h => h) fun a wr S => ?_
        have X := undrew S.ext
        exact wp_qload (ev_of ((S.old 4 (by kernel_rfl)).trans rfl)) (Xb.below X) (done (by kernel_rfl) rbu_refl rfl)
      · refine rs_yes rfl rfl (by kernel_rfl) (by kernel_rfl : _ = some 35) (fun _ _ _ h => h) fun a wr S => ?_
        have X := undrew S.ext
        exact wp_qload (ev_of ((S.old 5 (by kernel_rfl)).trans rfl)) (Xc.below X) (done (by kernel_rfl) rbu_refl rfl)
      · refine rs_yes rfl rfl (by kernel_rfl) (by kernel_rfl : _ = some 35) (fun _ _ _ h => h) fun a wr S => ?_
        have X := undrew S.ext
        obtain ⟨v25, e25, h25⟩ := S.got 25 (by kernel_rfl)
        obtain ⟨v26, e26, h26⟩ := S.got 26 (by kernel_rfl)
        exact st_call cf_rat_Add (args2 ((ev_of (e25 42 (by kernel_rfl))).trans h25) ((ev_of (e26 43 (by kernel_rfl))).trans h26)) (by kernel_rfl) rb ((cQAdd (show IsQm _ _ _ _ from (Qb.below X)) (show IsQm _ _ _ _ from (Qc.below X)) (by omega) (by omega) (by omega) (by omega)).mono (ansQ_base X.size)) (fun _ _ _ h => h)
      · refine rs_yes rfl rfl (by kernel_rfl) (by kernel_rfl : _ = some 35) (fun _ _ _ h => h) fun a wr S => ?_
        have X := undrew S.ext
        obtain ⟨v24, e24, h24⟩ := S.got 24 (by kernel_rfl)
        obtain ⟨v27, e27, h27⟩ := S.got 27 (by kernel_rfl)
        exact st_call cf_rat_Add (args2 ((ev_of (e24 41 (by kernel_rfl))).trans h24) (ev_of (e27 44 (by kernel_rfl)))) (by kernel_rfl) rb ((cQAdd (show IsQm _ _ _ _ from (Qa.below X)) (show IsQm _ _ _ _ from h27.m) (by omega) (by omega) (by omega) (by omega)).mono (ansQ_base X.size)) (fun _ _ _ h => h)
      · refine rs_yes rfl rfl (by kernel_rfl) (by kernel_rfl : _ = some 35) (fun _ _ _ h => h) fun a wr S => ?_
        have X := undrew S.ext
        obtain ⟨v23, e23, h23⟩ := S.got 23 (by kernel_rfl)
        obtain ⟨v28, e28, h28⟩ := S.got 28 (by kernel_rfl)
        exact st_call cf_law03_same (args2 (ev_of (e23 40 (by kernel_rfl))) (ev_of (e28 45 (by kernel_rfl)))) (by kernel_rfl) rb (cSame3 (show IsQt _ _ _ _ from h23.t) (show IsQt _ _ _ _ from h28.t) (by omega) (by omega) (r := true) ⟨fun _ => Rat.add_assoc _ _ _, fun _ => rfl⟩) (fun _ _ _ h => h)
      · refine rs_yes rfl rfl (by kernel_rfl) (by kernel_rfl : _ = some 35) (fun _ _ _ h => h) fun a wr S => ?_
        have X := undrew S.ext
        obtain ⟨v29, e29, h29⟩ := S.got 29 (by kernel_rfl)
        exact wp_not ((ev_of (e29 46 (by kernel_rfl))).trans h29) (done (by kernel_rfl) rbu_refl rfl)
      · refine rs_plain rfl rfl fun a wr S => ?_
        have X := undrew S.ext
        obtain ⟨v18, e18, h18⟩ := S.got 18 (by kernel_rfl)
        obtain ⟨v30, e30, h30⟩ := S.got 30 (by kernel_rfl)
        exact wp_pickF ((ev_of (e18 35 (by kernel_rfl))).trans h18) ((ev_of (e30 47 (by kernel_rfl))).trans h30) (done (by kernel_rfl) rbu_refl rfl)
      · refine rs_plain rfl rfl fun a wr S => ?_
        have X := undrew S.ext
        obtain ⟨v31, e31, h31⟩ := S.got 31 (by kernel_rfl)
        exact wp_mv ((ev_of (e31 48 (by kernel_rfl))).trans h31) (done (by kernel_rfl) rbu_refl rfl)
      · refine rs_yes rfl rfl (by kernel_rfl) (by kernel_rfl : _ = some 49) (fun _ _ _ h => h) fun a wr S => ?_
        have X := undrew S.ext
        exact wp_qload (ev_of ((S.old 3 (by kernel_rfl)).trans rfl)) (Xa.below X) (done (by kernel_rfl) rbu_refl rfl)
      · refine rs_yes rfl rfl (by kernel_rfl) (by kernel_rfl : _ = some 49) (fun _ _ _ h => h) fun a wr S => ?_
        have X := undrew S.ext
        exact wp_qload (ev_of ((S.old 4 (by kernel_rfl)).trans rfl)) (Xb.below X) (done (by kernel_rfl) rbu_refl rfl)
      · refine rs_yes rfl rfl (by kernel_rfl) (by kernel_rfl : _ = some 49) (fun _ _ _ h => h) fun a wr S => ?_
        have X := undrew S.ext
        obtain ⟨v33, e33, h33⟩ := S.got 33 (by kernel_rfl)
        obtain ⟨v34, e34, h34⟩ := S.got 34 (by kernel_rfl)
        exact st_call cf_rat_Mul (args2 ((ev_of (e33 50 (by kernel_rfl))).trans h33) ((ev_of (e34 51 (by kernel_rfl))).trans h34)) (by kernel_rfl) rb ((cQMul (show IsQm _ _ _ _ from (Qa.below X)) (show IsQm _ _ _ _ from (Qb.below X)) (by omega) (by omega) (by omega) (by omega)).mono (ansQ_base X.size)) (fun _ _ _ h => h)
      · refine rs_yes rfl rfl (by kernel_rfl) (by kernel_rfl : _ = some 49) (fun _ _ _ h => h) fun a wr S => ?_
        have X := undrew S.ext
        exact wp_qload (ev_of ((S.old 5 (by kernel_rfl)).trans rfl)) (Xc.below X) (done (by kernel_rfl) rbu_refl rfl)
      · refine rs_yes rfl rfl (by kernel_rfl) (by kernel_rfl : _ = some 49) (fun _ _ _ h => h) fun a wr S => ?_
        have X := undrew S.ext
        obtain ⟨v35, e35, h35⟩ := S.got 35 (by kernel_rfl)
        obtain ⟨v36, e36, h36⟩ := S.got 36 (by kernel_rfl)
        exact st_call cf_rat_Mul (args2 (ev_of (e35 52 (by kernel_rfl))) ((ev_of (e36 53 (by kernel_rfl))).trans h36)) (by kernel_rfl) rb ((cQMul (show IsQm _ _ _ _ from h35.m) (show IsQm _ _ _ _ from (Qc.below X)) (by omega) (by omega) (by omega) (by omega)).mono (ansQ_base X.size)) (fun _ _ _ h => h)
      · refine rs_yes rfl rfl (by kernel_rfl) (by kernel_rfl : _ = some 49) (fun _ _ _ h => h) fun a wr S => ?_
        have X := undrew S.ext
        exact wp_qload (ev_of ((S.old 3 (by kernel_rfl)).trans rfl)) (Xa.below X) (done (by kernel_rfl) rbu_refl rfl)
      · refine rs_yes rfl rfl (by kernel_rfl) (by kernel_rfl : _ = some 49) (fun _ _ _ h => h) fun a wr S => ?_
        have X := undrew S.ext
        exact wp_qload (ev_of ((S.old 4 (by kernel_rfl)).trans rfl)) (Xb.below X) (done (by kernel_rfl) rbu_refl rfl)
      · refine rs_yes rfl rfl (by kernel_rfl) (by kernel_rfl : _ = some 49) (fun _ _ _ h => h) fun a wr S => ?_
        have X := undrew S.ext
        exact wp_qload (ev_of ((S.old 5 (by kernel_rfl)).trans rfl)) (Xc.below X) (done (by kernel_rfl) rbu_refl rfl)
      · refine rs_yes rfl rfl (by kernel_rfl) (by kernel_rfl : _ = some 49) (fun _ _ _ h => h) fun a wr S => ?_
        have X := undrew S.ext
        obtain ⟨v39, e39, h39⟩ := S.got 39 (by kernel_rfl)
        obtain ⟨v40, e40, h40⟩ := S.got 40 (by kernel_rfl)
        exact st_call cf_rat_Mul (args2 ((ev_of (e39 56 (by kernel_rfl))).trans h39) ((ev_of (e40 57 (by kernel_rfl))).trans h40)) (by kernel_rfl) rb ((cQMul (show IsQm _ _ _ _ from (Qb.below X)) (show IsQm _ _ _ _ from (Qc.below X)) (by omega) (by omega) (by omega) (by omega)).mono (ansQ_base X.size)) (fun _ _ _ h => h)
      · refine rs_yes rfl rfl (by kernel_rfl) (by kernel_rfl : _ = some 49) (fun _ _ _ h => h) fun a wr S => ?_
        have X := undrew S.ext
        obtain ⟨v38, e38, h38⟩ := S.got 38 (by kernel_rfl)
        obtain ⟨v41, e41, h41⟩ := S.got 41 (by kernel_rfl)
        exact st_call cf_rat_Mul (args2 ((ev_of (e38 55 (by kernel_rfl))).trans h38) (ev_of (e41 58 (by kernel_rfl)))) (by kernel_rfl) rb ((cQMul (show IsQm _ _ _ _ from (Qa.below X)) (show IsQm _ _ _ _ from h41.m) (by omega) (by omega) (by omega) (by omega)).mono (ansQ_base X.size)) (fun _ _ _ h => h)
      · refine rs_yes rfl rfl (by kernel_rfl) (by kernel_rfl : _ = some 49) (fun _ _ _ h => h) fun a wr S => ?_
        have X := undrew S.ext
        obtain ⟨v37, e37, h37⟩ := S.got 37 (by kernel_rfl)
        obtain ⟨v42, e42, h42⟩ := S.got 42 (by kernel_rfl)
        exact st_call cf_law03_same (args2 (ev_of (e37 54 (by kernel_rfl))) (ev_of (e42 59 (by kernel_rfl)))) (by kernel_rfl) rb (cSame3 (show IsQt _ _ _ _ from h37.t) (show IsQt _ _ _ _ from h42.t) (by omega) (by omega) (r := true) ⟨fun _ => Rat.mul_assoc _ _ _, fun _ => rfl⟩) (fun _ _ _ h => h)
      · refine rs_yes rfl rfl (by kernel_rfl) (by kernel_rfl : _ = some 49) (fun _ _ _ h => h) fun a wr S => ?_
        have X := undrew S.ext
        obtain ⟨v43, e43, h43⟩ := S.got 43 (by kernel_rfl)
        exact wp_not ((ev_of (e43 60 (by kernel_rfl))).trans h43) (done (by kernel_rfl) rbu_refl rfl)
      · refine rs_plain rfl rfl fun a wr S => ?_
        have X := undrew S.ext
        obtain ⟨v32, e32, h32⟩ := S.got 32 (by kernel_rfl)
        obtain ⟨v44, e44, h44⟩ := S.got 44 (by kernel_rfl)
        exact wp_pickF ((ev_of (e32 49 (by kernel_rfl))).trans h32) ((ev_of (e44 61 (by kernel_rfl))).trans h44) (done (by kernel_rfl) rbu_refl rfl)
    · intro fw3 w3 hR hv
      replace hR := undrew hR
      have f0 : fw3 0 = .agg #[.bool sa, .slice Aa (min na 4) ca, .slice Ba (min ma 4) da] := (hvc (hv 0 (by omega))).elim fun _ h => h
      have f1 : fw3 1 = .agg #[.bool sb, .slice Ab (min nb 4) cb, .slice Bb (min mb 4) db] := (hvc (hv 1 (by omega))).elim fun _ h => h
      have f3 : fw3 3 = .agg #[.bool sb, .slice Ab (min nb 4) cb, .slice Bb (min mb 4) db] := (hvc (hv 3 (by omega))).elim fun _ h => h
      have f4 : fw3 4 = .agg #[.bool sa, .slice Aa (min na 4) ca, .slice Ba (min ma 4) da] := (hvc (hv 4 (by omega))).elim fun _ h => h
      have f6 : fw3 6 = .bool true := (hvc (hv 6 (by omega))).elim fun _ h => h
      have f7 : fw3 7 = .bool false := (hvc (hv 7 (by omega))).elim fun _ h => h
      have f8 : fw3 8 = .bool false := (hvc (hv 8 (by omega))).elim fun _ h => h
      have f9 : fw3 9 = .agg #[.bool sa, .slice Aa (min na 4) ca, .slice Ba (min ma 4) da] := (hvc (hv 9 (by omega))).elim fun _ h => h
      have f10 : fw3 10 = .agg #[.bool sb, .slice Ab (min nb 4) cb, .slice Bb (min mb 4) db] := (hvc (hv 10 (by omega))).elim fun _ h => h
      have f12 : fw3 12 = .agg #[.bool sb, .slice Ab (min nb 4) cb, .slice Bb (min mb 4) db] := (hvc (hv 12 (by omega))).elim fun _ h => h
      have f13 : fw3 13 = .agg #[.bool sa, .slice Aa (min na 4) ca, .slice Ba (min ma 4) da] := (hvc (hv 13 (by omega))).elim fun _ h => h
      have f15 : fw3 15 = .bool true := (hvc (hv 15 (by omega))).elim fun _ h => h
      have f16 : fw3 16 = .bool false := (hvc (hv 16 (by omega))).elim fun _ h => h
      have f17 : fw3 17 = .bool false := (hvc (hv 17 (by omega))).elim fun _ h => h
      have f18 : fw3 18 = .bool false := (hvc (hv 18 (by omega))).elim fun _ h => h
      have f19 : fw3 19 = .agg #[.bool sa, .slice Aa (min na 4) ca, .slice Ba (min ma 4) da] := (hvc (hv 19 (by omega))).elim fun _ h => h
      have f20 : fw3 20 = .agg #[.bool sb, .slice Ab (min nb 4) cb, .slice Bb (min mb 4) db] := (hvc (hv 20 (by omega))).elim fun _ h => h
      have f22 : fw3 22 = .agg #[.bool sc, .slice Ac (min nc 4) cc, .slice Bc (min mc 4) dc] := (hvc (hv 22 (by omega))).elim fun _ h => h
      have f24 : fw3 24 = .agg #[.bool sa, .slice Aa (min na 4) ca, .slice Ba (min ma 4) da] := (hvc (hv 24 (by omega))).elim fun _ h => h
      have f25 : fw3 25 = .agg #[.bool sb, .slice Ab (min nb 4) cb, .slice Bb (min mb 4) db] := (hvc (hv 25 (by omega))).elim fun _ h => h
      have f26 : fw3 26 = .agg #[.bool sc, .slice Ac (min nc 4) cc, .slice Bc (min mc 4) dc] := (hvc (hv 26 (by omega))).elim fun _ h => h
      have f29 : fw3 29 = .bool true := (hvc (hv 29 (by omega))).elim fun _ h => h
      have f30 : fw3 30 = .bool false := (hvc (hv 30 (by omega))).elim fun _ h => h
      have f31 : fw3 31 = .bool false := (hvc (hv 31 (by omega))).elim fun _ h => h
      have f32 : fw3 32 = .bool false := (hvc (hv 32 (by omega))).elim fun _ h => h
      have f33 : fw3 33 = .agg #[.bool sa, .slice Aa (min na 4) ca, .slice Ba (min ma 4) da] := (hvc (hv 33 (by omega))).elim fun _ h => h
      have f34 : fw3 34 = .agg #[.bool sb, .slice Ab (min nb 4) cb, .slice Bb (min mb 4) db] := (hvc (hv 34 (by omega))).elim fun _ h => h
      have f36 : fw3 36 = .agg #[.bool sc, .slice Ac (min nc 4) cc, .slice Bc (min mc 4) dc] := (hvc (hv 36 (by omega))).elim fun _ h => h
      have f38 : fw3 38 = .agg #[.bool sa, .slice Aa (min na 4) ca, .slice Ba (min ma 4) da] := (hvc (hv 38 (by omega))).elim fun _ h => h
      have f39 : fw3 39 = .agg #[.bool sb, .slice Ab (min nb 4) cb, .slice Bb (min mb 4) db] := (hvc (hv 39 (by omega))).elim fun _ h => h
      have f40 : fw3 40 = .agg #[.bool sc, .slice Ac (min nc 4) cc, .slice Bc (min mc 4) dc] := (hvc (hv 40 (by omega))).elim fun _ h => h
      have f43 : fw3 43 = .bool true := (hvc (hv 43 (by omega))).elim fun _ h => h
      have f44 : fw3 44 = .bool false := (hvc (hv 44 (by omega))).elim fun _ h => h
      have f45 : fw3 45 = .bool false := (hvc (hv 45 (by omega))).elim fun _ h => h
      simp only [putFn, Act.put, List.setIfInBounds_toArray, List.set_cons_zero, List.set_cons_succ, f0, f1, f3, f4, f6, f7, f8, f9, f10, f12, f13, f15, f16, f17, f18, f19, f20, f22, f24, f25, f26, f29, f30, f31, f32, f33, f34, f36, f38, f39, f40, f43, f44, f45]
      replace Xa := Xa.below hR
      replace Xb := Xb.below hR
      replace Xc := Xc.below hR
      replace Qa := Qa.below hR
      replace Qb := Qb.below hR
      replace Qc := Qc.below hR
      replace BB := bl_trans BB hR
      clear hR hv
      go_wp2_with fail
      refine wp_region_list (Ext := RB) (Rel := RBu) [fun v _ _ => v = .agg #[.bool sa, .slice Aa (min na 4) ca, .slice Ba (min ma 4) da], fun v _ _ => v = .agg #[.bool sb, .slice Ab (min nb 4) cb, .slice Bb (min mb 4) db], fun v _ _ => v = .agg #[.bool sc, .slice Ac (min nc 4) cc, .slice Bc (min mc 4) dc], fun v _ w => IsQ (w3).heap.size w v (qb + qc) 9, fun v _ w => IsQ (w3).heap.size w v (qa * (qb + qc)) 13, fun v _ _ => v = .agg #[.bool sa, .slice Aa (min na 4) ca, .slice Ba (min ma 4) da], fun v _ _ => v = .agg #[.bool sb, .slice Ab (min nb 4) cb, .slice Bb (min mb 4) db], fun v _ w => IsQ (w3).heap.size w v (qa * qb) 8, fun v _ _ => v = .agg #[.bool sa, .slice Aa (min na 4) ca, .slice Ba (min ma 4) da], fun v _ _ => v = .agg #[.bool sc, .slice Ac (min nc 4) cc, .slice Bc (min mc 4) dc], fun v _ w => IsQ (w3).heap.size w v (qa * qc) 8, fun v _ w => IsQ (w3).heap.size w v ((qa * qb) + (qa * qc)) 17, fun v _ _ => v = .bool true, fun v _ _ => v = .bool false, fun v _ _ => v = .bool false, fun v _ _ => v = .agg #[.bool sa, .slice Aa (min na 4) ca, .slice Ba (min ma 4) da], fun v _ _ => v = .agg #[.bool sb, .slice Ab (min nb 4) cb, .slice Bb (min mb 4) db], fun v _ w => IsQ (w3).heap.size w v (qa - qb) 9, fun v _ _ => v = .agg #[.bool sb, .slice Ab (min nb 4) cb, .slice Bb (min mb 4) db], fun v _ w => IsQ (w3).heap.size w v ((qa - qb) + qb) 14, fun v _ _ => v = .agg #[.bool sa, .slice Aa (min na 4) ca, .slice Ba (min ma 4) da], fun v _ w => IsQ (w3).heap.size w v (((0 : Int) : Rat)) 2, fun v _ w => IsQ (w3).heap.size w v (qa + (((0 : Int) : Rat))) 7, fun v _ _ => v = .bool true, fun v _ _ => v = .bool false, fun v _ _ => v = .bool false, fun v _ _ => v = .bool false, fun v _ _ => v = .agg #[.bool sa, .slice Aa (min na 4) ca, .slice Ba (min ma 4) da], fun v _ _ => v = .agg #[.bool sa, .slice Aa (min na 4) ca, .slice Ba (min ma 4) da], fun v _ w => IsQ (w3).heap.size w v (-qa) 4, fun v _ w => IsQ (w3).heap.size w v (qa + (-qa)) 9, fun v _ _ => v = .int .i64 0, fun v _ _ => v = .bool false, fun v _ _ => v = .bool false] (n := 34) (by kernel_rfl) rfl (by kernel_rfl) (by kernel_rfl) (by kernel_rfl) (by kernel_rfl) (by kernel_rfl) rb_refl rb_trans ⟨sC, ⟨sC, ⟨sC, ⟨sQ, ⟨sQ, ⟨sC, ⟨sC, ⟨sQ, ⟨sC, ⟨sC, ⟨sQ, ⟨sQ, ⟨sC, ⟨sC, ⟨sC, ⟨sC, ⟨sC, ⟨sQ, ⟨sC, ⟨sQ, ⟨sC, ⟨sQ, ⟨sQ, ⟨sC, ⟨sC, ⟨sC, ⟨sC, ⟨sC, ⟨sC, ⟨sQ, ⟨sQ, ⟨sC, ⟨sC, ⟨sC, trivial⟩⟩⟩⟩⟩⟩⟩⟩⟩⟩⟩⟩⟩⟩⟩⟩⟩⟩⟩⟩⟩⟩⟩⟩⟩⟩⟩⟩⟩⟩⟩⟩⟩⟩ ?_ ?_
      · refine ⟨⟨⟨⟨⟨⟨⟨⟨⟨⟨⟨⟨⟨⟨⟨⟨⟨⟨⟨⟨⟨⟨⟨⟨⟨⟨⟨⟨⟨⟨⟨⟨⟨⟨trivial, ?_⟩, ?_⟩, ?_⟩, ?_⟩, ?_⟩, ?_⟩, ?_⟩, ?_⟩, ?_⟩, ?_⟩, ?_⟩, ?_⟩, ?_⟩, ?_⟩, ?_⟩, ?_⟩, ?_⟩, ?_⟩, ?_⟩, ?_⟩, ?_⟩, ?_⟩, ?_⟩, ?_⟩, ?_⟩, ?_⟩, ?_⟩, ?_⟩, ?_⟩, ?_⟩, ?_⟩, ?_⟩, ?_⟩, ?_⟩
        · refine rs_plain rfl rfl fun a wr S => ?_
          have X := undrew S.ext
          exact wp_qload (ev_of ((S.old 3 (by kernel_rfl)).trans rfl)) (Xa.below X) (done (by kernel_rfl) rbu_refl rfl)
        · refine rs_plain rfl rfl fun a wr S => ?_
          have X := undrew S.ext
          exact wp_qload (ev_of ((S.old 4 (by kernel_rfl)).trans rfl)) (Xb.below X) (done (by kernel_rfl) rbu_refl rfl)
        · refine rs_plain rfl rfl fun a wr S => ?_
          have X := undrew S.ext
          exact wp_qload (ev_of ((S.old 5 (by kernel_rfl)).trans rfl)) (Xc.below X) (done (by kernel_rfl) rbu_refl rfl)
        · refine rs_plain rfl rfl fun a wr S => ?_
          have X := undrew S.ext
          obtain ⟨v1, e1, h1⟩ := S.got 1 (by kernel_rfl)
          obtain ⟨v2, e2, h2⟩ := S.got 2 (by kernel_rfl)
          exact st_call cf_rat_Add (args2 ((ev_of (e1 64 (by kernel_rfl))).trans h1) ((ev_of (e2 65 (by kernel_rfl))).trans h2)) (by kernel_rfl) rb ((cQAdd (show IsQm _ _ _ _ from (Qb.below X)) (show IsQm _ _ _ _ from (Qc.below X)) (by omega) (by omega) (by omega) (by omega)).mono (ansQ_base X.size)) (fun _ _ _ h => h)
        · refine rs_plain rfl rfl fun a wr S => ?_
          have X := undrew S.ext
          obtain ⟨v0, e0, h0⟩ := S.got 0 (by kernel_rfl)
          obtain ⟨v3, e3, h3⟩ := S.got 3 (by kernel_rfl)
          exact st_call cf_rat_Mul (args2 ((ev_of (e0 63 (by kernel_rfl))).trans h0) (ev_of (e3 66 (by kernel_rfl)))) (by kernel_rfl) rb ((cQMul (show IsQm _ _ _ _ from (Qa.below X)) (show IsQm _ _ _ _ from h3.m) (by omega) (by omega) (by omega) (by omega)).mono (ansQ_base X.size)) (fun _ _ _ h => h)
        · refine rs_plain rfl rfl fun a wr S => ?_
          have X := undrew S.ext
          exact wp_qload (ev_of ((S.old 3 (by kernel_rfl)).trans rfl)) (Xa.below X) (done (by kernel_rfl) rbu_refl rfl)
        · refine rs_plain rfl rfl fun a wr S => ?_
          have X := undrew S.ext
          exact wp_qload (ev_of ((S.old 4 (by kernel_rfl)).trans rfl)) (Xb.below X) (done (by kernel_rfl) rbu_refl rfl)
        · refine rs_plain rfl rfl fun a wr S => ?_
          have X := undrew S.ext
          obtain ⟨v5, e5, h5⟩ := S.got 5 (by kernel_rfl)
          obtain ⟨v6, e6, h6⟩ := S.got 6 (by kernel_rfl)
          exact st_call cf_rat_Mul (args2 ((ev_of (e5 68 (by kernel_rfl))).trans h5) ((ev_of (e6 69 (by kernel_rfl))).trans h6)) (by kernel_rfl) rb ((cQMul (show IsQm _ _ _ _ from (Qa.below X)) (show IsQm _ _ _ _ from (Qb.below X)) (by omega) (by omega) (by omega) (by omega)).mono (ansQ_base X.size)) (fun _ _ _ h => h)
        · refine rs_plain rfl rfl fun a wr S => ?_
          have X := undrew S.ext
          exact wp_qload (ev_of ((S.old 3 (by kernel_rfl)).trans rfl)) (Xa.below X) (done (by kernel_rfl) rbu_refl rfl)
        · refine rs_plain rfl rfl fun a wr S => ?_
          have X := undrew S.ext
          exact wp_qload (ev_of ((S.old 5 (by kernel_rfl)).trans rfl)) (Xc.below X) (done (by kernel_rfl) rbu_refl rfl)
        · refine rs_plain rfl rfl fun a wr S => ?_
          have X := undrew S.ext
          obtain ⟨v8, e8, h8⟩ := S.got 8 (by kernel_rfl)
          obtain ⟨v9, e9, h9⟩ := S.got 9 (by kernel_rfl)
          exact st_call cf_rat_Mul (args2 ((ev_of (e8 71 (by kernel_rfl))).trans h8) ((ev_of (e9 72 (by kernel_rfl))).trans h9)) (by kernel_rfl) rb ((cQMul (show IsQm _ _ _ _ from (Qa.below X)) (show IsQm _ _ _ _ from (Qc.below X)) (by omega) (by omega) (by omega) (by omega)).mono (ansQ_base X.size)) (fun _ _ _ h => h)
        · refine rs_plain rfl rfl fun a wr S => ?_
          have X := undrew S.ext
          obtain ⟨v7, e7, h7⟩ := S.got 7 (by kernel_rfl)
          obtain ⟨v10, e10, h10⟩ := S.got 10 (by kernel_rfl)
          exact st_call cf_rat_Add (args2 (ev_of (e7 70 (by kernel_rfl))) (ev_of (e10 73 (by kernel_rfl)))) (by kernel_rfl) rb ((cQAdd (show IsQm _ _ _ _ from h7.m) (show IsQm _ _ _ _ from h10.m) (by omega) (by omega) (by omega) (by omega)).mono (ansQ_base X.size)) (fun _ _ _ h => h)
        · refine rs_plain rfl rfl fun a wr S => ?_
          have X := undrew S.ext
          obtain ⟨v4, e4, h4⟩ := S.got 4 (by kernel_rfl)
          obtain ⟨v11, e11, h11⟩ := S.got 11 (by kernel_rfl)
          exact st_call cf_law03_same (args2 (ev_of (e4 67 (by kernel_rfl))) (ev_of (e11 74 (by kernel_rfl)))) (by kernel_rfl) rb (cSame3 (show IsQt _ _ _ _ from h4.t) (show IsQt _ _ _ _ from h11.t) (by omega) (by omega) (r := true) ⟨fun _ => Rat.mul_add _ _ _, fun _ => rfl⟩) (fun _ _ _ h => h)
        · refine rs_plain rfl rfl fun a wr S => ?_
          have X := undrew S.ext
          obtain ⟨v12, e12, h12⟩ := S.got 12 (by kernel_rfl)
          exact wp_not ((ev_of (e12 75 (by kernel_rfl))).trans h12) (done (by kernel_rfl) rbu_refl rfl)
        · refine rs_plain rfl rfl fun a wr S => ?_
          have X := undrew S.ext
          obtain ⟨v13, e13, h13⟩ := S.got 13 (by kernel_rfl)
          exact wp_mv ((ev_of (e13 76 (by kernel_rfl))).trans h13) (done (by kernel_rfl) rbu_refl rfl)
        · refine rs_yes rfl rfl (by kernel_rfl) (by kernel_rfl : _ = some 77) (fun _ _ _ h => h) fun a wr S => ?_
          have X := undrew S.ext
          exact wp_qload (ev_of ((S.old 3 (by kernel_rfl)).trans rfl)) (Xa.below X) (done (by kernel_rfl) rbu_refl rfl)
        · refine rs_yes rfl rfl (by kernel_rfl) (by kernel_rfl : _ = some 77) (fun _ _ _ h => h) fun a wr S => ?_
          have X := undrew S.ext
          exact wp_qload (ev_of ((S.old 4 (by kernel_rfl)).trans rfl)) (Xb.below X) (done (by kernel_rfl) rbu_refl rfl)
        · refine rs_yes rfl rfl (by kernel_rfl) (by kernel_rfl : _ = some 77) (fun _ _ _ h => h) fun a wr S => ?_
          have X := undrew S.ext
          obtain ⟨v15, e15, h15⟩ := S.got 15 (by kernel_rfl)
          obtain ⟨v16, e16, h16⟩ := S.got 16 (by kernel_rfl)
          exact st_call cf_rat_Sub (args2 ((ev_of (e15 78 (by kernel_rfl))).trans h15) ((ev_of (e16 79 (by kernel_rfl))).trans h16)) (by kernel_rfl) rb ((cQSub (show IsQm _ _ _ _ from (Qa.below X)) (show IsQm _ _ _ _ from (Qb.below X)) (by omega) (by omega) (by omega) (by omega)).mono (ansQ_base X.size)) (fun _ _ _ h => h)
        · refine rs_yes rfl rfl (by kernel_rfl) (by kernel_rfl : _ = some 77) (fun _ _ _ h => h) fun a wr S => ?_
          have X := undrew S.ext
          exact wp_qload (ev_of ((S.old 4 (by kernel_rfl)).trans rfl)) (Xb.below X) (done (by kernel_rfl) rbu_refl rfl)
        · refine rs_yes rfl rfl (by kernel_rfl) (by kernel_rfl : _ = some 77) (fun _ _ _ h => h) fun a wr S => ?_
          have X := undrew S.ext
          obtain ⟨v17, e17, h17⟩ := S.got 17 (by kernel_rfl)
          obtain ⟨v18, e18, h18⟩ := S.got 18 (by kernel_rfl)
          exact st_call cf_rat_Add (args2 (ev_of (e17 80 (by kernel_rfl))) ((ev_of (e18 81 (by kernel_rfl))).trans h18)) (by kernel_rfl) rb ((cQAdd (show IsQm _ _ _ _ from h17.m) (show IsQm _ _ _ _ from (Qb.below X)) (by omega) (by omega) (by omega) (by omega)).mono (ansQ_base X.size)) (fun _ _ _ h => h)
        · refine rs_yes rfl rfl (by kernel_rfl) (by kernel_rfl : _ = some 77) (fun _ _ _ h => h) fun a wr S => ?_
          have X := undrew S.ext
          exact wp_qload (ev_of ((S.old 3 (by kernel_rfl)).trans rfl)) (Xa.below X) (done (by kernel_rfl) rbu_refl rfl)
        · refine rs_yes rfl rfl (by kernel_rfl) (by kernel_rfl : _ = some 77) (fun _ _ _ h => h) fun a wr S => ?_
          have X := undrew S.ext
          exact st_call cf_rat_From (args1 rfl) (by kernel_rfl) rb ((cQFrom 0 (by omega) (by omega)).mono (ansQ_base X.size)) (fun _ _ _ h => h)
        · refine rs_yes rfl rfl (by kernel_rfl) (by kernel_rfl : _ = some 77) (fun _ _ _ h => h) fun a wr S => ?_
          have X := undrew S.ext
          obtain ⟨v20, e20, h20⟩ := S.got 20 (by kernel_rfl)
          obtain ⟨v21, e21, h21⟩ := S.got 21 (by kernel_rfl)
          exact st_call cf_rat_Add (args2 ((ev_of (e20 83 (by kernel_rfl))).trans h20) (ev_of (e21 84 (by kernel_rfl)))) (by kernel_rfl) rb ((cQAdd (show IsQm _ _ _ _ from (Qa.below X)) (show IsQm _ _ _ _ from h21.m) (by omega) (by omega) (by omega) (by omega)).mono (ansQ_base X.size)) (fun _ _ _ h => h)
        · refine rs_yes rfl rfl (by kernel_rfl) (by kernel_rfl : _ = some 77) (fun _ _ _ h => h) fun a wr S => ?_
          have X := undrew S.ext
          obtain ⟨v19, e19, h19⟩ := S.got 19 (by kernel_rfl)
          obtain ⟨v22, e22, h22⟩ := S.got 22 (by kernel_rfl)
          exact st_call cf_law03_same (args2 (ev_of (e19 82 (by kernel_rfl))) (ev_of (e22 85 (by kernel_rfl)))) (by kernel_rfl) rb (cSame3 (show IsQt _ _ _ _ from h19.t) (show IsQt _ _ _ _ from h22.t) (by omega) (by omega) (r := true) ⟨fun _ => fld_sub _ _, fun _ => rfl⟩) (fun _ _ _ h => h)
        · refine rs_yes rfl rfl (by kernel_rfl) (by kernel_rfl : _ = some 77) (fun _ _ _ h => h) fun a wr S => ?_
          have X := undrew S.ext
          obtain ⟨v23, e23, h23⟩ := S.got 23 (by kernel_rfl)
          exact wp_not ((ev_of (e23 86 (by kernel_rfl))).trans h23) (done (by kernel_rfl) rbu_refl rfl)
        · refine rs_plain rfl rfl fun a wr S => ?_
          have X := undrew S.ext
          obtain ⟨v14, e14, h14⟩ := S.got 14 (by kernel_rfl)
          obtain ⟨v24, e24, h24⟩ := S.got 24 (by kernel_rfl)
          exact wp_pickF ((ev_of (e14 77 (by kernel_rfl))).trans h14) ((ev_of (e24 87 (by kernel_rfl))).trans h24) (done (by kernel_rfl) rbu_refl rfl)
        · refine rs_plain rfl rfl fun a wr S => ?_
          have X := undrew S.ext
          obtain ⟨v25, e25, h25⟩ := S.got 25 (by kernel_rfl)
          exact wp_mv ((ev_of (e25 88 (by kernel_rfl))).trans h25) (done (by kernel_rfl) rbu_refl rfl)
        · refine rs_yes rfl rfl (by kernel_rfl) (by kernel_rfl : _ = some 89) (fun _ _ _ h => h) fun a wr S => ?_
          have X := undrew S.ext
          exact wp_qload (ev_of ((S.old 3 (by kernel_rfl)).trans rfl)) (Xa.below X) (done (by kernel_rfl) rbu_refl rfl)
        · refine rs_yes rfl rfl (by kernel_rfl) (by kernel_rfl : _ = some 89) (fun _ _ _ h => h) fun a wr S => ?_
          have X := undrew S.ext
          exact wp_qload (ev_of ((S.old 3 (by kernel_rfl)).trans rfl)) (Xa.below X) (done (by kernel_rfl) rbu_refl rfl)
        · refine rs_yes rfl rfl (by kernel_rfl) (by kernel_rfl : _ = some 89) (fun _ _ _ h => h) fun a wr S => ?_
          have X := undrew S.ext
          obtain ⟨v28, e28, h28⟩ := S.got 28 (by kernel_rfl)
          exact st_call cf_rat_Neg (args1 ((ev_of (e28 91 (by kernel_rfl))).trans h28)) (by kernel_rfl) rb ((cQNeg (show IsQm _ _ _ _ from (Qa.below X)) (by omega) (by omega)).mono (ansQ_base X.size)) (fun _ _ _ h => h)
        · refine rs_yes rfl rfl (by kernel_rfl) (by kernel_rfl : _ = some 89) (fun _ _ _ h => h) fun a wr S => ?_
          have X := undrew S.ext
          obtain ⟨v27, e27, h27⟩ := S.got 27 (by kernel_rfl)
          obtain ⟨v29, e29, h29⟩ := S.got 29 (by kernel_rfl)
          exact st_call cf_rat_Add (args2 ((ev_of (e27 90 (by kernel_rfl))).trans h27) (ev_of (e29 92 (by kernel_rfl)))) (by kernel_rfl) rb ((cQAdd (show IsQm _ _ _ _ from (Qa.below X)) (show IsQm _ _ _ _ from h29.m) (by omega) (by omega) (by omega) (by omega)).mono (ansQ_base X.size)) (fun _ _ _ h => h)
        · refine rs_yes rfl rfl (by kernel_rfl) (by kernel_rfl : _ = some 89) (fun _ _ _ h => h) fun a wr S => ?_
          have X := undrew S.ext
          obtain ⟨v30, e30, h30⟩ := S.got 30 (by kernel_rfl)
          exact st_call cf_rat_Sign (args1 (ev_of (e30 93 (by kernel_rfl)))) (by kernel_rfl) rb (cQSign (show IsQm _ _ _ _ from h30.m) (by omega) (fld_neg _)) (fun _ _ _ h => h)
        · refine rs_yes rfl rfl (by kernel_rfl) (by kernel_rfl : _ = some 89) (fun _ _ _ h => h) fun a wr S => ?_
          have X := undrew S.ext
          obtain ⟨v31, e31, h31⟩ := S.got 31 (by kernel_rfl)
          exact wp_neI ((ev_of (e31 94 (by kernel_rfl))).trans h31) rfl (Or.inl rfl) (done (by kernel_rfl) rbu_refl (congrArg Value.bool (by decide)))
        · refine rs_plain rfl rfl fun a wr S => ?_
          have X := undrew S.ext
          obtain ⟨v26, e26, h26⟩ := S.got 26 (by kernel_rfl)
          obtain ⟨v32, e32, h32⟩ := S.got 32 (by kernel_rfl)
          exact wp_pickF ((ev_of (e26 89 (by kernel_rfl))).trans h26) ((ev_of (e32 95 (by kernel_rfl))).trans h32) (done (by kernel_rfl) rbu_refl rfl)
      · intro fw4 w4 hR hv
        replace hR := undrew hR
        have f0 : fw4 0 = .agg #[.bool sa, .slice Aa (min na 4) ca, .slice Ba (min ma 4) da] := (hvc (hv 0 (by omega))).elim fun _ h => h
        have f1 : fw4 1 = .agg #[.bool sb, .slice Ab (min nb 4) cb, .slice Bb (min mb 4) db] := (hvc (hv 1 (by omega))).elim fun _ h => h
        have f2 : fw4 2 = .agg #[.bool sc, .slice Ac (min nc 4) cc, .slice Bc (min mc 4) dc] := (hvc (hv 2 (by omega))).elim fun _ h => h
        have f5 : fw4 5 = .agg #[.bool sa, .slice Aa (min na 4) ca, .slice Ba (min ma 4) da] := (hvc (hv 5 (by omega))).elim fun _ h => h
        have f6 : fw4 6 = .agg #[.bool sb, .slice Ab (min nb 4) cb, .slice Bb (min mb 4) db] := (hvc (hv 6 (by omega))).elim fun _ h => h
        have f8 : fw4 8 = .agg #[.bool sa, .slice Aa (min na 4) ca, .slice Ba (min ma 4) da] := (hvc (hv 8 (by omega))).elim fun _ h => h
        have f9 : fw4 9 = .agg #[.bool sc, .slice Ac (min nc 4) cc, .slice Bc (min mc 4) dc] := (hvc (hv 9 (by omega))).elim fun _ h => h
        have f12 : fw4 12 = .bool true := (hvc (hv 12 (by omega))).elim fun _ h => h
        have f13 : fw4 13 = .bool false := (hvc (hv 13 (by omega))).elim fun _ h => h
        have f14 : fw4 14 = .bool false := (hvc (hv 14 (by omega))).elim fun _ h => h
        have f15 : fw4 15 = .agg #[.bool sa, .slice Aa (min na 4) ca, .slice Ba (min ma 4) da] := (hvc (hv 15 (by omega))).elim fun _ h => h
        have f16 : fw4 16 = .agg #[.bool sb, .slice Ab (min nb 4) cb, .slice Bb (min mb 4) db] := (hvc (hv 16 (by omega))).elim fun _ h => h
        have f18 : fw4 18 = .agg #[.bool sb, .slice Ab (min nb 4) cb, .slice Bb (min mb 4) db] := (hvc (hv 18 (by omega))).elim fun _ h => h
        have f20 : fw4 20 = .agg #[.bool sa, .slice Aa (min na 4) ca, .slice Ba (min ma 4) da] := (hvc (hv 20 (by omega))).elim fun _ h => h
        have f23 : fw4 23 = .bool true := (hvc (hv 23 (by omega))).elim fun _ h => h
        have f24 : fw4 24 = .bool false := (hvc (hv 24 (by omega))).elim fun _ h => h
        have f25 : fw4 25 = .bool false := (hvc (hv 25 (by omega))).elim fun _ h => h
        have f26 : fw4 26 = .bool false := (hvc (hv 26 (by omega))).elim fun _ h => h
        have f27 : fw4 27 = .agg #[.bool sa, .slice Aa (min na 4) ca, .slice Ba (min ma 4) da] := (hvc (hv 27 (by omega))).elim fun _ h => h
        have f28 : fw4 28 = .agg #[.bool sa, .slice Aa (min na 4) ca, .slice Ba (min ma 4) da] := (hvc (hv 28 (by omega))).elim fun _ h => h
        have f31 : fw4 31 = .int .i64 0 := (hvc (hv 31 (by omega))).elim fun _ h => h
        have f32 : fw4 32 = .bool false := (hvc (hv 32 (by omega))).elim fun _ h => h
        have f33 : fw4 33 = .bool false := (hvc (hv 33 (by omega))).elim fun _ h => h
        simp only [putFn, Act.put, List.setIfInBounds_toArray, List.set_cons_zero, List.set_cons_succ, f0, f1, f2, f5, f6, f8, f9, f12, f13, f14, f15, f16, f18, f20, f23, f24, f25, f26, f27, f28, f31, f32, f33]
        replace Xa := Xa.below hR
        replace Xb := Xb.below hR
        replace Xc := Xc.below hR
        replace Qa := Qa.below hR
        replace Qb := Qb.below hR
        replace Qc := Qc.below hR
        replace BB := bl_trans BB hR
        clear hR hv
        have Xac0 := Xa.c0
        have Xac1 := Xa.c1
        have Xac2 := Xa.c2
        have Xbc0 := Xb.c0
        have Xbc1 := Xb.c1
        have Xbc2 := Xb.c2
        go_wp2_with fail
        clear Xac0 Xac1 Xac2 Xbc0 Xbc1 Xbc2
        have HB := Lib.hid BB
        refine (cQDiv Qa Qb (by omega) (by omega) (by omega) (by omega)).mono ?_
        rintro e w5 ⟨_, rfl, hb, b1, A1, n1, c1, B1, m1, d1, rfl, q1⟩
        replace Xa := Xa.below hb
        replace Xb := Xb.below hb
        replace Xc := Xc.below hb
        replace Qa := Qa.below hb
        replace Qb := Qb.below hb
        replace Qc := Qc.below hb
        replace BB := bl_trans BB hb
        clear hb
        replace q1 := q1.t
        have OO := bl_alloc w5 (.cells #[.bool b1, .slice A1 n1 c1, .slice B1 m1 d1] 26)
        have PX := Bq.new w5 b1 A1 n1 c1 B1 m1 d1
        replace Xa := Xa.below OO
        replace Xb := Xb.below OO
        replace Xc := Xc.below OO
        replace Qa := Qa.below OO
        replace Qb := Qb.below OO
        replace Qc := Qc.below OO
        replace q1 := q1.below OO
        replace BB := bl_trans BB OO
        clear OO HB
        have Xbc0 := Xb.c0
        have Xbc1 := Xb.c1
        have Xbc2 := Xb.c2
        go_wp2_with fail
        clear Xbc0 Xbc1 Xbc2
        generalize w5.alloc _ = wq at Xa Xb Xc Qa Qb Qc q1 PX BB ⊢
        obtain ⟨s, hs, h0, h1⟩ : ∃ s, sgn qb.num = s ∧ (qb = 0 → s = 0) ∧ (qb ≠ 0 → s ≠ 0) := ⟨_, rfl, sgn_of_zero, sgn_of_ne⟩
        have HS := Lib.hid hs
        clear hs
        by_cases hq : qb = 0
        · have hs := h0 hq
          subst hs
          clear h0 h1
          have HE := Lib.hid (show eQ qb = 3 by unfold eQ; rw [if_pos hq])
          have HZ := Lib.hid (show sgn (qa / qb).num = 0 by rw [hq, Rat.div_def, Rat.inv_zero, Rat.mul_zero]; rfl)
          clear hq
          rw [HE.out]
          refine (cQSign Qb (by omega) HS.out).mono ?_
          rintro e w6 ⟨_, rfl, hb, rfl⟩
          replace Xa := Xa.below hb
          replace Xb := Xb.below hb
          replace Xc := Xc.below hb
          replace Qa := Qa.below hb
          replace Qb := Qb.below hb
          replace Qc := Qc.below hb
          replace q1 := q1.below hb
          replace PX := PX.below hb
          replace BB := bl_trans BB hb
          clear hb
          have PXc0 := PX.c0
          have PXc1 := PX.c1
          have PXc2 := PX.c2
          go_wp2_with fail
          clear PXc0 PXc1 PXc2
          refine (cQSign q1.m (by omega) HZ.out).mono ?_
          rintro e w7 ⟨_, rfl, hb, rfl⟩
          replace Xa := Xa.below hb
          replace Xb := Xb.below hb
          replace Xc := Xc.below hb
          replace Qa := Qa.below hb
          replace Qb := Qb.below hb
          replace Qc := Qc.below hb
          replace q1 := q1.below hb
          replace PX := PX.below hb
          replace BB := bl_trans BB hb
          clear hb
          go_wp2_with fail
          go_ret
          exact ⟨rfl, BB⟩
        · have hs := h1 hq
          clear h0 h1
          have HE := Lib.hid (show eQ qb = 0 by unfold eQ; rw [if_neg hq])
          have HD := Lib.hid (show qa / qb * qb = qa * ((1 : Int) : Rat) by rw [Rat.div_mul_cancel hq]; exact (Rat.mul_one _).symm)
          clear hq
          rw [HE.out]
          refine (cQSign Qb (by omega) HS.out).mono ?_
          rintro e w8 ⟨_, rfl, hb, rfl⟩
          replace Xa := Xa.below hb
          replace Xb := Xb.below hb
          replace Xc := Xc.below hb
          replace Qa := Qa.below hb
          replace Qb := Qb.below hb
          replace Qc := Qc.below hb
          replace q1 := q1.below hb
          replace PX := PX.below hb
          replace BB := bl_trans BB hb
          clear hb
          go_wp2_with fail
          refine wp_region_list (Ext := RB) (Rel := RBu) [fun v _ _ => v = .int .i64 0, fun v _ _ => v = .bool true, fun v _ _ => v = .bool true, fun v _ _ => v = .agg #[.bool b1, .slice A1 n1 c1, .slice B1 m1 d1], fun v _ _ => v = .agg #[.bool sb, .slice Ab (min nb 4) cb, .slice Bb (min mb 4) db], fun v _ w => IsQ (w8).heap.size w v ((qa / qb) * qb) 12, fun v _ _ => v = .agg #[.bool sa, .slice Aa (min na 4) ca, .slice Ba (min ma 4) da], fun v _ w => IsQ (w8).heap.size w v (((1 : Int) : Rat)) 2, fun v _ w => IsQ (w8).heap.size w v (qa * (((1 : Int) : Rat))) 6, fun v _ _ => v = .bool true, fun v _ _ => v = .bool true, fun v _ _ => v = .bool true] (n := 12) (by kernel_rfl) rfl (by kernel_rfl) (by kernel_rfl) (by kernel_rfl) (by kernel_rfl) (by kernel_rfl) rb_refl rb_trans ⟨sC, ⟨sC, ⟨sC, ⟨sC, ⟨sC, ⟨sQ, ⟨sC, ⟨sQ, ⟨sQ, ⟨sC, ⟨sC, ⟨sC, trivial⟩⟩⟩⟩⟩⟩⟩⟩⟩⟩⟩⟩ ?_ ?_
          · refine ⟨⟨⟨⟨⟨⟨⟨⟨⟨⟨⟨⟨trivial, ?_⟩, ?_⟩, ?_⟩, ?_⟩, ?_⟩, ?_⟩, ?_⟩, ?_⟩, ?_⟩, ?_⟩, ?_⟩, ?_⟩
            · refine rs_plain rfl rfl fun a wr S => ?_
              have X := undrew S.ext
              exact wp_mv (ev_of ((S.old 8 (by kernel_rfl)).trans rfl)) (done (by kernel_rfl) rbu_refl rfl)
            · refine rs_plain rfl rfl fun a wr S => ?_
              have X := undrew S.ext
              obtain ⟨v0, e0, h0⟩ := S.got 0 (by kernel_rfl)
              exact wp_eqI ((ev_of (e0 113 (by kernel_rfl))).trans h0) rfl (Or.inr rfl) (done (by kernel_rfl) rbu_refl (congrArg Value.bool (by decide)))
            · refine rs_plain rfl rfl fun a wr S => ?_
              have X := undrew S.ext
              obtain ⟨v1, e1, h1⟩ := S.got 1 (by kernel_rfl)
              exact wp_mv ((ev_of (e1 114 (by kernel_rfl))).trans h1) (done (by kernel_rfl) rbu_refl rfl)
            · refine rs_yes rfl rfl (by kernel_rfl) (by kernel_rfl : _ = some 115) (fun _ _ _ h => h) fun a wr S => ?_
              have X := undrew S.ext
              exact wp_qload (ev_of ((S.old 7 (by kernel_rfl)).trans rfl)) (PX.below X) (done (by kernel_rfl) rbu_refl rfl)
            · refine rs_yes rfl rfl (by kernel_rfl) (by kernel_rfl : _ = some 115) (fun _ _ _ h => h) fun a wr S => ?_
              have X := undrew S.ext
              exact wp_qload (ev_of ((S.old 4 (by kernel_rfl)).trans rfl)) (Xb.below X) (done (by kernel_rfl) rbu_refl rfl)
            · refine rs_yes rfl rfl (by kernel_rfl) (by kernel_rfl : _ = some 115) (fun _ _ _ h => h) fun a wr S => ?_
              have X := undrew S.ext
              obtain ⟨v3, e3, h3⟩ := S.got 3 (by kernel_rfl)
              obtain ⟨v4, e4, h4⟩ := S.got 4 (by kernel_rfl)
              exact st_call cf_rat_Mul (args2 ((ev_of (e3 116 (by kernel_rfl))).trans h3) ((ev_of (e4 117 (by kernel_rfl))).trans h4)) (by kernel_rfl) rb ((cQMul (show IsQm _ _ _ _ from (q1.below X).m) (show IsQm _ _ _ _ from (Qb.below X)) (by omega) (by omega) (by omega) (by omega)).mono (ansQ_base X.size)) (fun _ _ _ h => h)
            · refine rs_yes rfl rfl (by kernel_rfl) (by kernel_rfl : _ = some 115) (fun _ _ _ h => h) fun a wr S => ?_
              have X := undrew S.ext
              exact wp_qload (ev_of ((S.old 3 (by kernel_rfl)).trans rfl)) (Xa.below X) (done (by kernel_rfl) rbu_refl rfl)
            · refine rs_yes rfl rfl (by kernel_rfl) (by kernel_rfl : _ = some 115) (fun _ _ _ h => h) fun a wr S => ?_
              have X := undrew S.ext
              exact st_call cf_rat_From (args1 rfl) (by kernel_rfl) rb ((cQFrom 1 (by omega) (by omega)).mono (ansQ_base X.size)) (fun _ _ _ h => h)
            · refine rs_yes rfl rfl (by kernel_rfl) (by kernel_rfl : _ = some 115) (fun _ _ _ h => h) fun a wr S => ?_
              have X := undrew S.ext
              obtain ⟨v6, e6, h6⟩ := S.got 6 (by kernel_rfl)
              obtain ⟨v7, e7, h7⟩ := S.got 7 (by kernel_rfl)
              exact st_call cf_rat_Mul (args2 ((ev_of (e6 119 (by kernel_rfl))).trans h6) (ev_of (e7 120 (by kernel_rfl)))) (by kernel_rfl) rb ((cQMul (show IsQm _ _ _ _ from (Qa.below X)) (show IsQm _ _ _ _ from h7.m) (by omega) (by omega) (by omega) (by omega)).mono (ansQ_base X.size)) (fun _ _ _ h => h)
            · refine rs_yes rfl rfl (by kernel_rfl) (by kernel_rfl : _ = some 115) (fun _ _ _ h => h) fun a wr S => ?_
              have X := undrew S.ext
              obtain ⟨v5, e5, h5⟩ := S.got 5 (by kernel_rfl)
              obtain ⟨v8, e8, h8⟩ := S.got 8 (by kernel_rfl)
              exact st_call cf_law03_same (args2 (ev_of (e5 118 (by kernel_rfl))) (ev_of (e8 121 (by kernel_rfl)))) (by kernel_rfl) rb (cSame3 (show IsQt _ _ _ _ from h5.t) (show IsQt _ _ _ _ from h8.t) (by omega) (by omega) (r := true) ⟨fun _ => HD.out, fun _ => rfl⟩) (fun _ _ _ h => h)
            · refine rs_plain rfl rfl fun a wr S => ?_
              have X := undrew S.ext
              obtain ⟨v2, e2, h2⟩ := S.got 2 (by kernel_rfl)
              obtain ⟨v9, e9, h9⟩ := S.got 9 (by kernel_rfl)
              exact wp_pickT ((ev_of (e2 115 (by kernel_rfl))).trans h2) ((ev_of (e9 122 (by kernel_rfl))).trans h9) (done (by kernel_rfl) rbu_refl rfl)
            · refine rs_plain rfl rfl fun a wr S => ?_
              have X := undrew S.ext
              obtain ⟨v10, e10, h10⟩ := S.got 10 (by kernel_rfl)
              exact wp_as ((ev_of (e10 123 (by kernel_rfl))).trans h10) (done (by kernel_rfl) rbu_refl rfl)
          · intro fw9 w9 hR hv
            replace hR := undrew hR
            have f0 : fw9 0 = .int .i64 0 := (hvc (hv 0 (by omega))).elim fun _ h => h
            have f1 : fw9 1 = .bool true := (hvc (hv 1 (by omega))).elim fun _ h => h
            have f2 : fw9 2 = .bool true := (hvc (hv 2 (by omega))).elim fun _ h => h
            have f3 : fw9 3 = .agg #[.bool b1, .slice A1 n1 c1, .slice B1 m1 d1] := (hvc (hv 3 (by omega))).elim fun _ h => h
            have f4 : fw9 4 = .agg #[.bool sb, .slice Ab (min nb 4) cb, .slice Bb (min mb 4) db] := (hvc (hv 4 (by omega))).elim fun _ h => h
            have f6 : fw9 6 = .agg #[.bool sa, .slice Aa (min na 4) ca, .slice Ba (min ma 4) da] := (hvc (hv 6 (by omega))).elim fun _ h => h
            have f9 : fw9 9 = .bool true := (hvc (hv 9 (by omega))).elim fun _ h => h
            have f10 : fw9 10 = .bool true := (hvc (hv 10 (by omega))).elim fun _ h => h
            have f11 : fw9 11 = .bool true := (hvc (hv 11 (by omega))).elim fun _ h => h
            simp only [putFn, Act.put, List.setIfInBounds_toArray, List.set_cons_zero, List.set_cons_succ, f0, f1, f2, f3, f4, f6, f9, f10, f11]
            replace Xa := Xa.below hR
            replace Xb := Xb.below hR
            replace Xc := Xc.below hR
            replace Qa := Qa.below hR
            replace Qb := Qb.below hR
            replace Qc := Qc.below hR
            replace q1 := q1.below hR
            replace PX := PX.below hR
            replace BB := bl_trans BB hR
            clear hR hv
            go_wp2_with fail
            go_ret
            exact ⟨rfl, BB⟩
theorem ratField_walk (sa : Bool) (Aa : Option Addr) (na ca : Nat) (xa : List Nat) (Ba : Option Addr) (ma da : Nat) (ya : List Nat) (sb : Bool) (Ab : Option Addr) (nb cb : Nat) (xb : List Nat) (Bb : Option Addr) (mb db : Nat) (yb : List Nat) (sc : Bool) (Ac : Option Addr) (nc cc : Nat) (xc : List Nat) (Bc : Option Addr) (mc dc : Nat) (yc : List Nat) (w : World) (ha : (Rd w Aa na ca xa ∧ na ≤ maxLen) ∧ (Rd w Ba ma da ya ∧ ma ≤ maxLen)) (hb : (Rd w Ab nb cb xb ∧ nb ≤ maxLen) ∧ (Rd w Bb mb db yb ∧ mb ≤ maxLen)) (hc : (Rd w Ac nc cc xc ∧ nc ≤ maxLen) ∧ (Rd w Bc mc dc yc ∧ mc ≤ maxLen)) : Calls Tryz.prog 6 #[.agg #[.bool sa, .slice Aa na ca, .slice Ba ma da], .agg #[.bool sb, .slice Ab nb cb, .slice Bb mb db], .agg #[.bool sc, .slice Ac nc cc, .slice Bc mc dc]] w fun e w' => e = .returned (.bool true) ∧ Below w.heap.size w w' :=
  ratField_in sa Aa na ca xa Ba ma da ya sb Ab nb cb xb Bb mb db yb sc Ac nc cc xc Bc mc dc yc _ _ _ w (Lib.hid ha.1.1) (Lib.hid ha.1.2) (Lib.hid ha.2.1) (Lib.hid ha.2.2) (Lib.hid hb.1.1) (Lib.hid hb.1.2) (Lib.hid hb.2.1) (Lib.hid hb.2.2) (Lib.hid hc.1.1) (Lib.hid hc.1.2) (Lib.hid hc.2.1) (Lib.hid hc.2.2) (Lib.hid rfl) (Lib.hid rfl) (Lib.hid rfl) 

end Go.Proofs.YtbhgbilhoonopaaGreat
