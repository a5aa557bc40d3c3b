/- litmuslaw03.RatTexts answers true at every input, and changes nothing that was there: its walk. -/
import Derived.Test.YtbhgbilhoonopaaGreatQRaw
namespace Go.Proofs.YtbhgbilhoonopaaGreat
open Go.RowKit
set_option linter.unusedVariables false
set_option maxRecDepth 100000

theorem cmp_zero (a b : Rat) : (cmpQ a b == 0) = decide (a = b) := by
  by_cases h : a = b
  · rw [decide_eq_true h, cQeq h]; rfl
  · rw [decide_eq_false h, beq_eq_false_iff_ne]
    exact fun e => h (cmpQ_zero.1 e)
theorem fld_zero (a : Rat) : a = a + ((0 : Int) : Rat) := (Rat.add_zero a).symm
instance (b : Bool) (xs ys : List Nat) (q : Rat) : Decidable (RightQ b xs ys q) := by unfold RightQ; infer_instance
set_option maxHeartbeats 4000000 in
theorem ratTexts_in (sa : Bool) (Aa : Option Addr) (na ca : Nat) (xa : List Nat) (Ba : Option Addr) (ma da : Nat) (ya : List Nat) (sb : Bool) (Ab : Option Addr) (nb cb : Nat) (xb : List Nat) (Bb : Option Addr) (mb db : Nat) (yb : List Nat) (qa qb : Rat) (w : World) (Ha : Hid (Rd w Aa na ca xa)) (Ia : Hid (na ≤ maxLen)) (Ja : Hid (Rd w Ba ma da ya)) (Ka : Hid (ma ≤ maxLen)) (Hb : Hid (Rd w Ab nb cb xb)) (Ib : Hid (nb ≤ maxLen)) (Jb : Hid (Rd w Bb mb db yb)) (Kb : Hid (mb ≤ maxLen)) (Za : Hid (qa = mkRat (zv sa (M.val (xa.take (min na 4)))) (dOf (M.val (ya.take (min ma 4)))))) (Zb : Hid (qb = mkRat (zv sb (M.val (xb.take (min nb 4)))) (dOf (M.val (yb.take (min mb 4)))))) : Calls Tryz.prog 9 #[.agg #[.bool sa, .slice Aa na ca, .slice Ba ma da], .agg #[.bool sb, .slice Ab nb cb, .slice Bb mb db]] w fun e w' => e = .returned (.bool true) ∧ Below w.heap.size w w' := by
  have BB := (bl_trans (bl_alloc w (.cells #[.bool sa, .slice Aa na ca, .slice Ba ma da] 26)) (bl_alloc _ (.cells #[.bool sb, .slice Ab nb cb, .slice Bb mb db] 26)))
  have Pa := (Bq.new w  sa Aa na ca Ba ma da).alloc (.cells #[.bool sb, .slice Ab nb cb, .slice Bb mb db] 26)
  have Pb := Bq.new2 w (.cells #[.bool sa, .slice Aa na ca, .slice Ba ma da] 26) sb Ab nb cb Bb mb db
  go_enter Tryz.func9, Tryz.ntmps9
  go_wp2_with fail
  refine (cWorks3 _).mono ?_
  rintro e w1 ⟨_, rfl, hb1, rfl⟩
  replace Pa := Pa.below hb1
  replace Pb := Pb.below hb1
  replace BB := bl_trans BB hb1
  clear hb1
  go_wp2_with fail
  refine wp_cut (by kernel_rfl) 4 ?_
  simp only [List.take_succ_cons, List.take_zero, List.drop_succ_cons, List.drop_zero]
  refine wp_cut_list (Ext := RB) (Rel := RBu) [fun v _ _ => v = .agg #[.bool sa, .slice Aa na ca, .slice Ba ma da], fun v _ _ => v = .agg #[.bool sa, .slice Aa (min na 4) ca, .slice Ba (min ma 4) da], fun v _ _ => v = .agg #[.bool sb, .slice Ab nb cb, .slice Bb mb db], fun v _ _ => v = .agg #[.bool sb, .slice Ab (min nb 4) cb, .slice Bb (min mb 4) db]] (n := 4) (by kernel_rfl) (by kernel_rfl) (by kernel_rfl) (by kernel_rfl) (by kernel_rfl) (by kernel_rfl) (by kernel_rfl) (by kernel_rfl) (by kernel_rfl) rb_refl rb_trans ⟨sC, ⟨sC, ⟨sC, ⟨sC, trivial⟩⟩⟩⟩ ?_ ?_
  · refine ⟨⟨⟨⟨trivial, ?_⟩, ?_⟩, ?_⟩, ?_⟩
    · refine rs_plain rfl rfl fun a wr S => ?_
      have X := undrew S.ext
      exact wp_qload (ev_of ((S.old 2 (by kernel_rfl)).trans rfl)) (Pa.below X) (done (by kernel_rfl) rbu_refl rfl)
    · refine rs_plain rfl rfl fun a wr S => ?_
      have X := undrew S.ext
      obtain ⟨v0, e0, h0⟩ := S.got 0 (by kernel_rfl)
      exact st_call cf_law03_few (args2 ((ev_of (e0 14 (by kernel_rfl))).trans h0) rfl) (by kernel_rfl) rb (cFew3 Ha.out.cap Ja.out.cap Ia.out Ka.out 4 _ rfl (by omega)) (fun _ _ _ h => h)
    · refine rs_plain rfl rfl fun a wr S => ?_
      have X := undrew S.ext
      exact wp_qload (ev_of ((S.old 3 (by kernel_rfl)).trans rfl)) (Pb.below X) (done (by kernel_rfl) rbu_refl rfl)
    · refine rs_plain rfl rfl fun a wr S => ?_
      have X := undrew S.ext
      obtain ⟨v2, e2, h2⟩ := S.got 2 (by kernel_rfl)
      exact st_call cf_law03_few (args2 ((ev_of (e2 16 (by kernel_rfl))).trans h2) rfl) (by kernel_rfl) rb (cFew3 Hb.out.cap Jb.out.cap Ib.out Kb.out 4 _ rfl (by omega)) (fun _ _ _ h => h)
  · intro fw2 w2 hR hv hap
    clear hap
    replace hR := undrew hR
    have f0 : fw2 0 = .agg #[.bool sa, .slice Aa na ca, .slice Ba ma da] := (hvc (hv 0 (by omega))).elim fun _ h => h
    have f1 : fw2 1 = .agg #[.bool sa, .slice Aa (min na 4) ca, .slice Ba (min ma 4) da] := (hvc (hv 1 (by omega))).elim fun _ h => h
    have f2 : fw2 2 = .agg #[.bool sb, .slice Ab nb cb, .slice Bb mb db] := (hvc (hv 2 (by omega))).elim fun _ h => h
    have f3 : fw2 3 = .agg #[.bool sb, .slice Ab (min nb 4) cb, .slice Bb (min mb 4) db] := (hvc (hv 3 (by omega))).elim fun _ h => h
    simp only [putFn, Act.put, List.setIfInBounds_toArray, List.set_cons_zero, List.set_cons_succ, f0, f1, f2, f3]
    replace Pa := Pa.below hR
    replace Pb := Pb.below hR
    replace BB := bl_trans BB hR
    clear hR hv
    have ra0 := Pa.c0
    have fa0 := Pa.f 0
    have ra1 := Pa.c1
    have fa1 := Pa.f 1
    have ra2 := Pa.c2
    have fa2 := Pa.f 2
    have rb0 := Pb.c0
    have fb0 := Pb.f 0
    have rb1 := Pb.c1
    have fb1 := Pb.f 1
    have rb2 := Pb.c2
    have fb2 := Pb.f 2
    go_wp2_with fail
    clear ra0 fa0 ra1 fa1 ra2 fa2 rb0 fb0 rb1 fb1 rb2 fb2
    have Xa := ((((Pa.set3 (b' := sa) (A' := Aa) (n' := min na 4) (c' := ca) (B' := Ba) (m' := min ma 4) (d' := da)).other (g' := w.heap.size + 1) (i := 0) (v := .bool sb) (by omega)).other (g' := w.heap.size + 1) (i := 1) (v := .slice Ab (min nb 4) cb) (by omega)).other (g' := w.heap.size + 1) (i := 2) (v := .slice Bb (min mb 4) db) (by omega))
    have Xb := ((((Pb.other (g' := w.heap.size) (i := 0) (v := .bool sa) (by omega)).other (g' := w.heap.size) (i := 1) (v := .slice Aa (min na 4) ca) (by omega)).other (g' := w.heap.size) (i := 2) (v := .slice Ba (min ma 4) da) (by omega)).set3 (b' := sb) (A' := Ab) (n' := min nb 4) (c' := cb) (B' := Bb) (m' := min mb 4) (d' := db))
    replace BB := ((((((BB.setCell (p := ⟨w.heap.size, 0, none⟩) (by show _ ≤ w.heap.size; omega) (.bool sa)).setCell (p := ⟨w.heap.size, 1, none⟩) (by show _ ≤ w.heap.size; omega) (.slice Aa (min na 4) ca)).setCell (p := ⟨w.heap.size, 2, none⟩) (by show _ ≤ w.heap.size; omega) (.slice Ba (min ma 4) da)).setCell (p := ⟨w.heap.size + 1, 0, none⟩) (by show _ ≤ w.heap.size + 1; omega) (.bool sb)).setCell (p := ⟨w.heap.size + 1, 1, none⟩) (by show _ ≤ w.heap.size + 1; omega) (.slice Ab (min nb 4) cb)).setCell (p := ⟨w.heap.size + 1, 2, none⟩) (by show _ ≤ w.heap.size + 1; omega) (.slice Bb (min mb 4) db))
    clear Pa Pb
    generalize ((((((w2.setCell ⟨w.heap.size, 0, none⟩ (.bool sa)).setCell ⟨w.heap.size, 1, none⟩ (.slice Aa (min na 4) ca)).setCell ⟨w.heap.size, 2, none⟩ (.slice Ba (min ma 4) da)).setCell ⟨w.heap.size + 1, 0, none⟩ (.bool sb)).setCell ⟨w.heap.size + 1, 1, none⟩ (.slice Ab (min nb 4) cb)).setCell ⟨w.heap.size + 1, 2, none⟩ (.slice Bb (min mb 4) db)) = wh at Xa Xb BB ⊢
    have Qa : IsQm wh (.agg #[.bool sa, .slice Aa (min na 4) ca, .slice Ba (min ma 4) da]) qa 4 := by rw [Za.out]; exact few_q (Ha.out.below BB) (Ja.out.below BB) 4
    have Qb : IsQm wh (.agg #[.bool sb, .slice Ab (min nb 4) cb, .slice Bb (min mb 4) db]) qb 4 := by rw [Zb.out]; exact few_q (Hb.out.below BB) (Jb.out.below BB) 4
    have Ra : IsR wh (.agg #[.bool sa, .slice Aa (min na 4) ca, .slice Ba (min ma 4) da]) sa (xa.take (min na 4)) (ya.take (min ma 4)) 4 := ⟨_, _, _, _, _, _, rfl, ⟨(Ha.out.below BB).take (by omega), by omega⟩, (Ja.out.below BB).take (by omega), by omega⟩
    have Na : IsM wh (.agg #[.bool sa, .slice Aa (min na 4) ca]) (zv sa (M.val (xa.take (min na 4)))) 4 := ⟨_, _, _, _, rfl, ⟨⟨_, ⟨⟨_, (Ha.out.below BB).take (by omega), rfl⟩, by omega⟩, rfl⟩⟩⟩
    have Rb : IsR wh (.agg #[.bool sb, .slice Ab (min nb 4) cb, .slice Bb (min mb 4) db]) sb (xb.take (min nb 4)) (yb.take (min mb 4)) 4 := ⟨_, _, _, _, _, _, rfl, ⟨(Hb.out.below BB).take (by omega), by omega⟩, (Jb.out.below BB).take (by omega), by omega⟩
    have Nb : IsM wh (.agg #[.bool sb, .slice Ab (min nb 4) cb]) (zv sb (M.val (xb.take (min nb 4)))) 4 := ⟨_, _, _, _, rfl, ⟨⟨_, ⟨⟨_, (Hb.out.below BB).take (by omega), rfl⟩, by omega⟩, rfl⟩⟩⟩
    clear Ha Ia Ja Ka Hb Ib Jb Kb
    refine (cQText Qa (by omega) (by omega)).mono ?_
    rintro e w3 ⟨_, rfl, hb, st, rfl, hst⟩
    replace Xa := Xa.below hb
    replace Xb := Xb.below hb
    replace Qa := Qa.below hb
    replace Qb := Qb.below hb
    replace Ra := Ra.below hb
    replace Na := Na.below hb
    replace Rb := Rb.below hb
    replace Nb := Nb.below hb
    replace BB := bl_trans BB hb
    clear hb
    have HST := Lib.hid hst
    clear hst
    go_wp2_with fail
    refine (cQParseT st HST.out Qa.num_lt (Qa.den_lt (by omega)) (by omega) (by omega)).mono ?_
    rintro e w4 ⟨_, rfl, hb, b1, A1, n1, c1, B1, m1, d1, rfl, q1⟩
    replace Xa := Xa.below hb
    replace Xb := Xb.below hb
    replace Qa := Qa.below hb
    replace Qb := Qb.below hb
    replace Ra := Ra.below hb
    replace Na := Na.below hb
    replace Rb := Rb.below hb
    replace Nb := Nb.below hb
    replace BB := bl_trans BB hb
    clear hb
    replace q1 := q1.t
    have OO := bl_alloc w4 (.cells #[.bool b1, .slice A1 n1 c1, .slice B1 m1 d1] 26)
    have P1 := Bq.new w4 b1 A1 n1 c1 B1 m1 d1
    replace Xa := Xa.below OO
    replace Xb := Xb.below OO
    replace Qa := Qa.below OO
    replace Qb := Qb.below OO
    replace Ra := Ra.below OO
    replace Na := Na.below OO
    replace Rb := Rb.below OO
    replace Nb := Nb.below OO
    replace q1 := q1.below OO
    replace BB := bl_trans BB OO
    clear OO
    go_upto_region 6 with (fail)
    generalize w4.alloc _ = w5 at Xa Xb Qa Qb Ra Na Rb Nb q1 P1 BB ⊢
    obtain ⟨c, hc⟩ : ∃ c, cmpQ qa qb = c := ⟨_, rfl⟩
    have HC := Lib.hid hc
    have HZ := Lib.hid (show (c == 0) = decide (qa = qb) by rw [← hc]; exact cmp_zero qa qb)
    clear hc
    refine wp_region_list (Ext := RB) (Rel := RBu) [fun v _ _ => v = .bool true, fun v _ _ => v = .bool false, fun v _ _ => v = .bool false, fun v _ _ => v = .agg #[.bool b1, .slice A1 n1 c1, .slice B1 m1 d1], fun v _ _ => v = .agg #[.bool sa, .slice Aa (min na 4) ca, .slice Ba (min ma 4) da], fun v _ w => IsQ (w5).heap.size w v (((0 : Int) : Rat)) 2, fun v _ w => IsQ (w5).heap.size w v (qa + (((0 : Int) : Rat))) 7, fun v _ _ => v = .bool true, fun v _ _ => v = .bool false, fun v _ _ => v = .bool false, fun v _ _ => v = .bool false, fun v _ _ => v = .agg #[.bool b1, .slice A1 n1 c1, .slice B1 m1 d1], fun v _ _ => v = .bool true, fun v _ _ => v = .bool false, fun v _ _ => v = .bool false, fun v _ _ => v = .bool false, fun v _ _ => v = .string st, fun v _ _ => v = .agg #[.bool sb, .slice Ab (min nb 4) cb, .slice Bb (min mb 4) db], fun v _ _ => IsS v (txtQ qb), fun v _ _ => v = .bool (decide (qa = qb)), fun v _ _ => v = .agg #[.bool sa, .slice Aa (min na 4) ca, .slice Ba (min ma 4) da], fun v _ _ => v = .agg #[.bool sb, .slice Ab (min nb 4) cb, .slice Bb (min mb 4) db], fun v _ _ => v = .int .i64 c, fun v _ _ => v = .bool (decide (qa = qb)), fun v _ _ => v = .bool false, fun v _ _ => v = .bool false] (n := 26) (by kernel_rfl) rfl (by kernel_rfl) (by kernel_rfl) (by kernel_rfl) (by kernel_rfl) (by kernel_rfl) rb_refl rb_trans ⟨sC, ⟨sC, ⟨sC, ⟨sC, ⟨sC, ⟨sQ, ⟨sQ, ⟨sC, ⟨sC, ⟨sC, ⟨sC, ⟨sC, ⟨sC, ⟨sC, ⟨sC, ⟨sC, ⟨sC, ⟨sC, ⟨sS, ⟨sC, ⟨sC, ⟨sC, ⟨sC, ⟨sC, ⟨sC, ⟨sC, trivial⟩⟩⟩⟩⟩⟩⟩⟩⟩⟩⟩⟩⟩⟩⟩⟩⟩⟩⟩⟩⟩⟩⟩⟩⟩⟩ ?_ ?_
    · refine ⟨⟨⟨⟨⟨⟨⟨⟨⟨⟨⟨⟨⟨⟨⟨⟨⟨⟨⟨⟨⟨⟨⟨⟨⟨⟨trivial, ?_⟩, ?_⟩, ?_⟩, ?_⟩, ?_⟩, ?_⟩, ?_⟩, ?_⟩, ?_⟩, ?_⟩, ?_⟩, ?_⟩, ?_⟩, ?_⟩, ?_⟩, ?_⟩, ?_⟩, ?_⟩, ?_⟩, ?_⟩, ?_⟩, ?_⟩, ?_⟩, ?_⟩, ?_⟩, ?_⟩
      · refine rs_plain rfl rfl fun a wr S => ?_
        have X := undrew S.ext
        exact wp_mv (ev_of ((S.old 7 (by kernel_rfl)).trans rfl)) (done (by kernel_rfl) rbu_refl rfl)
      · refine rs_plain rfl rfl fun a wr S => ?_
        have X := undrew S.ext
        obtain ⟨v0, e0, h0⟩ := S.got 0 (by kernel_rfl)
        exact wp_not ((ev_of (e0 25 (by kernel_rfl))).trans h0) (done (by kernel_rfl) rbu_refl rfl)
      · refine rs_plain rfl rfl fun a wr S => ?_
        have X := undrew S.ext
        obtain ⟨v1, e1, h1⟩ := S.got 1 (by kernel_rfl)
        exact wp_mv ((ev_of (e1 26 (by kernel_rfl))).trans h1) (done (by kernel_rfl) rbu_refl rfl)
      · refine rs_yes rfl rfl (by kernel_rfl) (by kernel_rfl : _ = some 27) (fun _ _ _ h => h) fun a wr S => ?_
        have X := undrew S.ext
        exact wp_qload (ev_of ((S.old 6 (by kernel_rfl)).trans rfl)) (P1.below X) (done (by kernel_rfl) rbu_refl rfl)
      · refine rs_yes rfl rfl (by kernel_rfl) (by kernel_rfl : _ = some 27) (fun _ _ _ h => h) fun a wr S => ?_
        have X := undrew S.ext
        exact wp_qload (ev_of ((S.old 2 (by kernel_rfl)).trans rfl)) (Xa.below X) (done (by kernel_rfl) rbu_refl rfl)
      · refine rs_yes rfl rfl (by kernel_rfl) (by kernel_rfl : _ = some 27) (fun _ _ _ h => h) fun a wr S => ?_
        have X := undrew S.ext
        exact st_call cf_rat_From (args1 rfl) (by kernel_rfl) rb ((cQFrom 0 (by omega) (by omega)).mono (ansQ_base X.size)) (fun _ _ _ h => h)
      · refine rs_yes rfl rfl (by kernel_rfl) (by kernel_rfl : _ = some 27) (fun _ _ _ h => h) fun a wr S => ?_
        have X := undrew S.ext
        obtain ⟨v4, e4, h4⟩ := S.got 4 (by kernel_rfl)
        obtain ⟨v5, e5, h5⟩ := S.got 5 (by kernel_rfl)
        exact st_call cf_rat_Add (args2 ((ev_of (e4 29 (by kernel_rfl))).trans h4) (ev_of (e5 30 (by kernel_rfl)))) (by kernel_rfl) rb ((cQAdd (show IsQm _ _ _ _ from (Qa.below X)) (show IsQm _ _ _ _ from h5.m) (by omega) (by omega) (by omega) (by omega)).mono (ansQ_base X.size)) (fun _ _ _ h => h)
      · refine rs_yes rfl rfl (by kernel_rfl) (by kernel_rfl : _ = some 27) (fun _ _ _ h => h) fun a wr S => ?_
        have X := undrew S.ext
        obtain ⟨v3, e3, h3⟩ := S.got 3 (by kernel_rfl)
        obtain ⟨v6, e6, h6⟩ := S.got 6 (by kernel_rfl)
        exact st_call cf_law03_same (args2 ((ev_of (e3 28 (by kernel_rfl))).trans h3) (ev_of (e6 31 (by kernel_rfl)))) (by kernel_rfl) rb (cSame3 (show IsQt _ _ _ _ from (q1.below X)) (show IsQt _ _ _ _ from h6.t) (by omega) (by omega) (r := true) ⟨fun _ => fld_zero _, fun _ => rfl⟩) (fun _ _ _ h => h)
      · refine rs_yes rfl rfl (by kernel_rfl) (by kernel_rfl : _ = some 27) (fun _ _ _ h => h) fun a wr S => ?_
        have X := undrew S.ext
        obtain ⟨v7, e7, h7⟩ := S.got 7 (by kernel_rfl)
        exact wp_not ((ev_of (e7 32 (by kernel_rfl))).trans h7) (done (by kernel_rfl) rbu_refl rfl)
      · refine rs_plain rfl rfl fun a wr S => ?_
        have X := undrew S.ext
        obtain ⟨v2, e2, h2⟩ := S.got 2 (by kernel_rfl)
        obtain ⟨v8, e8, h8⟩ := S.got 8 (by kernel_rfl)
        exact wp_pickF ((ev_of (e2 27 (by kernel_rfl))).trans h2) ((ev_of (e8 33 (by kernel_rfl))).trans h8) (done (by kernel_rfl) rbu_refl rfl)
      · refine rs_plain rfl rfl fun a wr S => ?_
        have X := undrew S.ext
        obtain ⟨v9, e9, h9⟩ := S.got 9 (by kernel_rfl)
        exact wp_mv ((ev_of (e9 34 (by kernel_rfl))).trans h9) (done (by kernel_rfl) rbu_refl rfl)
      · refine rs_yes rfl rfl (by kernel_rfl) (by kernel_rfl : _ = some 35) (fun _ _ _ h => h) fun a wr S => ?_
        have X := undrew S.ext
        exact wp_qload (ev_of ((S.old 6 (by kernel_rfl)).trans rfl)) (P1.below X) (done (by kernel_rfl) rbu_refl rfl)
      · refine rs_yes rfl rfl (by kernel_rfl) (by kernel_rfl : _ = some 35) (fun _ _ _ h => h) fun a wr S => ?_
        have X := undrew S.ext
        obtain ⟨v11, e11, h11⟩ := S.got 11 (by kernel_rfl)
        exact st_call cf_rat_Right (args1 ((ev_of (e11 36 (by kernel_rfl))).trans h11)) (by kernel_rfl) rb (cQRight (show IsQt _ _ _ _ from (q1.below X)) (by omega)) (fun _ _ _ h => h)
      · refine rs_yes rfl rfl (by kernel_rfl) (by kernel_rfl : _ = some 35) (fun _ _ _ h => h) fun a wr S => ?_
        have X := undrew S.ext
        obtain ⟨v12, e12, h12⟩ := S.got 12 (by kernel_rfl)
        exact wp_not ((ev_of (e12 37 (by kernel_rfl))).trans h12) (done (by kernel_rfl) rbu_refl rfl)
      · refine rs_plain rfl rfl fun a wr S => ?_
        have X := undrew S.ext
        obtain ⟨v10, e10, h10⟩ := S.got 10 (by kernel_rfl)
        obtain ⟨v13, e13, h13⟩ := S.got 13 (by kernel_rfl)
        exact wp_pickF ((ev_of (e10 35 (by kernel_rfl))).trans h10) ((ev_of (e13 38 (by kernel_rfl))).trans h13) (done (by kernel_rfl) rbu_refl rfl)
      · refine rs_plain rfl rfl fun a wr S => ?_
        have X := undrew S.ext
        obtain ⟨v14, e14, h14⟩ := S.got 14 (by kernel_rfl)
        exact wp_mv ((ev_of (e14 39 (by kernel_rfl))).trans h14) (done (by kernel_rfl) rbu_refl rfl)
      · refine rs_yes rfl rfl (by kernel_rfl) (by kernel_rfl : _ = some 40) (fun _ _ _ h => h) fun a wr S => ?_
        have X := undrew S.ext
        exact wp_mv (ev_of ((S.old 5 (by kernel_rfl)).trans rfl)) (done (by kernel_rfl) rbu_refl rfl)
      · refine rs_yes rfl rfl (by kernel_rfl) (by kernel_rfl : _ = some 40) (fun _ _ _ h => h) fun a wr S => ?_
        have X := undrew S.ext
        exact wp_qload (ev_of ((S.old 3 (by kernel_rfl)).trans rfl)) (Xb.below X) (done (by kernel_rfl) rbu_refl rfl)
      · refine rs_yes rfl rfl (by kernel_rfl) (by kernel_rfl : _ = some 40) (fun _ _ _ h => h) fun a wr S => ?_
        have X := undrew S.ext
        obtain ⟨v17, e17, h17⟩ := S.got 17 (by kernel_rfl)
        exact st_call cf_rat_Text (args1 ((ev_of (e17 42 (by kernel_rfl))).trans h17)) (by kernel_rfl) rb (cQText (show IsQm _ _ _ _ from (Qb.below X)) (by omega) (by omega)) (fun _ _ _ h => h)
      · refine rs_yes rfl rfl (by kernel_rfl) (by kernel_rfl : _ = some 40) (fun _ _ _ h => h) fun a wr S => ?_
        have X := undrew S.ext
        obtain ⟨v16, e16, h16⟩ := S.got 16 (by kernel_rfl)
        obtain ⟨v18, e18, h18⟩ := S.got 18 (by kernel_rfl)
        obtain ⟨sy, hsy, bsy⟩ := (show IsS _ _ from h18)
        exact wp_eqS ((ev_of (e16 41 (by kernel_rfl))).trans h16) ((ev_of (e18 43 (by kernel_rfl))).trans hsy) (done (by kernel_rfl) rbu_refl (congrArg Value.bool (eqQ HST.out bsy)))
      · refine rs_yes rfl rfl (by kernel_rfl) (by kernel_rfl : _ = some 40) (fun _ _ _ h => h) fun a wr S => ?_
        have X := undrew S.ext
        exact wp_qload (ev_of ((S.old 2 (by kernel_rfl)).trans rfl)) (Xa.below X) (done (by kernel_rfl) rbu_refl rfl)
      · refine rs_yes rfl rfl (by kernel_rfl) (by kernel_rfl : _ = some 40) (fun _ _ _ h => h) fun a wr S => ?_
        have X := undrew S.ext
        exact wp_qload (ev_of ((S.old 3 (by kernel_rfl)).trans rfl)) (Xb.below X) (done (by kernel_rfl) rbu_refl rfl)
      · refine rs_yes rfl rfl (by kernel_rfl) (by kernel_rfl : _ = some 40) (fun _ _ _ h => h) fun a wr S => ?_
        have X := undrew S.ext
        obtain ⟨v20, e20, h20⟩ := S.got 20 (by kernel_rfl)
        obtain ⟨v21, e21, h21⟩ := S.got 21 (by kernel_rfl)
        exact st_call cf_rat_Cmp (args2 ((ev_of (e20 45 (by kernel_rfl))).trans h20) ((ev_of (e21 46 (by kernel_rfl))).trans h21)) (by kernel_rfl) rb ((cQCmp (show IsQm _ _ _ _ from (Qa.below X)) (show IsQm _ _ _ _ from (Qb.below X)) (by omega) (by omega) (by omega) (by omega)).mono (ans_intW HC.out)) (fun _ _ _ h => h)
      · refine rs_yes rfl rfl (by kernel_rfl) (by kernel_rfl : _ = some 40) (fun _ _ _ h => h) fun a wr S => ?_
        have X := undrew S.ext
        obtain ⟨v22, e22, h22⟩ := S.got 22 (by kernel_rfl)
        exact wp_eqI ((ev_of (e22 47 (by kernel_rfl))).trans h22) rfl (Or.inl rfl) (done (by kernel_rfl) rbu_refl (congrArg Value.bool HZ.out))
      · refine rs_yes rfl rfl (by kernel_rfl) (by kernel_rfl : _ = some 40) (fun _ _ _ h => h) fun a wr S => ?_
        have X := undrew S.ext
        obtain ⟨v19, e19, h19⟩ := S.got 19 (by kernel_rfl)
        obtain ⟨v23, e23, h23⟩ := S.got 23 (by kernel_rfl)
        exact wp_neB ((ev_of (e19 44 (by kernel_rfl))).trans h19) ((ev_of (e23 48 (by kernel_rfl))).trans h23) (done (by kernel_rfl) rbu_refl (congrArg Value.bool (bne_self_eq_false _)))
      · refine rs_plain rfl rfl fun a wr S => ?_
        have X := undrew S.ext
        obtain ⟨v15, e15, h15⟩ := S.got 15 (by kernel_rfl)
        obtain ⟨v24, e24, h24⟩ := S.got 24 (by kernel_rfl)
        exact wp_pickF ((ev_of (e15 40 (by kernel_rfl))).trans h15) ((ev_of (e24 49 (by kernel_rfl))).trans h24) (done (by kernel_rfl) rbu_refl rfl)
    · intro fw6 w6 hR hv
      replace hR := undrew hR
      have f0 : fw6 0 = .bool true := (hvc (hv 0 (by omega))).elim fun _ h => h
      have f1 : fw6 1 = .bool false := (hvc (hv 1 (by omega))).elim fun _ h => h
      have f2 : fw6 2 = .bool false := (hvc (hv 2 (by omega))).elim fun _ h => h
      have f3 : fw6 3 = .agg #[.bool b1, .slice A1 n1 c1, .slice B1 m1 d1] := (hvc (hv 3 (by omega))).elim fun _ h => h
      have f4 : fw6 4 = .agg #[.bool sa, .slice Aa (min na 4) ca, .slice Ba (min ma 4) da] := (hvc (hv 4 (by omega))).elim fun _ h => h
      have f7 : fw6 7 = .bool true := (hvc (hv 7 (by omega))).elim fun _ h => h
      have f8 : fw6 8 = .bool false := (hvc (hv 8 (by omega))).elim fun _ h => h
      have f9 : fw6 9 = .bool false := (hvc (hv 9 (by omega))).elim fun _ h => h
      have f10 : fw6 10 = .bool false := (hvc (hv 10 (by omega))).elim fun _ h => h
      have f11 : fw6 11 = .agg #[.bool b1, .slice A1 n1 c1, .slice B1 m1 d1] := (hvc (hv 11 (by omega))).elim fun _ h => h
      have f12 : fw6 12 = .bool true := (hvc (hv 12 (by omega))).elim fun _ h => h
      have f13 : fw6 13 = .bool false := (hvc (hv 13 (by omega))).elim fun _ h => h
      have f14 : fw6 14 = .bool false := (hvc (hv 14 (by omega))).elim fun _ h => h
      have f15 : fw6 15 = .bool false := (hvc (hv 15 (by omega))).elim fun _ h => h
      have f16 : fw6 16 = .string st := (hvc (hv 16 (by omega))).elim fun _ h => h
      have f17 : fw6 17 = .agg #[.bool sb, .slice Ab (min nb 4) cb, .slice Bb (min mb 4) db] := (hvc (hv 17 (by omega))).elim fun _ h => h
      have f19 : fw6 19 = .bool (decide (qa = qb)) := (hvc (hv 19 (by omega))).elim fun _ h => h
      have f20 : fw6 20 = .agg #[.bool sa, .slice Aa (min na 4) ca, .slice Ba (min ma 4) da] := (hvc (hv 20 (by omega))).elim fun _ h => h
      have f21 : fw6 21 = .agg #[.bool sb, .slice Ab (min nb 4) cb, .slice Bb (min mb 4) db] := (hvc (hv 21 (by omega))).elim fun _ h => h
      have f22 : fw6 22 = .int .i64 c := (hvc (hv 22 (by omega))).elim fun _ h => h
      have f23 : fw6 23 = .bool (decide (qa = qb)) := (hvc (hv 23 (by omega))).elim fun _ h => h
      have f24 : fw6 24 = .bool false := (hvc (hv 24 (by omega))).elim fun _ h => h
      have f25 : fw6 25 = .bool false := (hvc (hv 25 (by omega))).elim fun _ h => h
      simp only [putFn, Act.put, List.setIfInBounds_toArray, List.set_cons_zero, List.set_cons_succ, f0, f1, f2, f3, f4, f7, f8, f9, f10, f11, f12, f13, f14, f15, f16, f17, f19, f20, f21, f22, f23, f24, f25]
      replace Xa := Xa.below hR
      replace Xb := Xb.below hR
      replace Qa := Qa.below hR
      replace Qb := Qb.below hR
      replace Ra := Ra.below hR
      replace Na := Na.below hR
      replace Rb := Rb.below hR
      replace Nb := Nb.below hR
      replace q1 := q1.below hR
      replace P1 := P1.below hR
      replace BB := bl_trans BB hR
      clear hR hv
      clear HC HZ HST
      have Xac0 := Xa.c0
      have Xac1 := Xa.c1
      have Xac2 := Xa.c2
      have Xbc0 := Xb.c0
      have Xbc1 := Xb.c1
      have Xbc2 := Xb.c2
      go_wp2_with fail
      clear Xac0 Xac1 Xac2 Xbc0 Xbc1 Xbc2
      refine (cQDiv Qa Qb (by omega) (by omega) (by omega) (by omega)).mono ?_
      rintro e w7 ⟨_, rfl, hb, b2, A2, n2, c2, B2, m2, d2, rfl, q2⟩
      replace Xa := Xa.below hb
      replace Xb := Xb.below hb
      replace Qa := Qa.below hb
      replace Qb := Qb.below hb
      replace Ra := Ra.below hb
      replace Na := Na.below hb
      replace Rb := Rb.below hb
      replace Nb := Nb.below hb
      replace q1 := q1.below hb
      replace P1 := P1.below hb
      replace BB := bl_trans BB hb
      clear hb
      replace q2 := q2.t
      have OO := bl_alloc w7 (.cells #[.bool b2, .slice A2 n2 c2, .slice B2 m2 d2] 26)
      have P2 := Bq.new w7 b2 A2 n2 c2 B2 m2 d2
      replace Xa := Xa.below OO
      replace Xb := Xb.below OO
      replace Qa := Qa.below OO
      replace Qb := Qb.below OO
      replace Ra := Ra.below OO
      replace Na := Na.below OO
      replace Rb := Rb.below OO
      replace Nb := Nb.below OO
      replace q1 := q1.below OO
      replace P1 := P1.below OO
      replace q2 := q2.below OO
      replace BB := bl_trans BB OO
      clear OO
      go_upto_region 9 with (fail)
      generalize w7.alloc _ = w8 at Xa Xb Qa Qb Ra Na Rb Nb q1 P1 q2 P2 BB ⊢
      refine wp_region_list (Ext := RB) (Rel := RBu) [fun v _ _ => v = .agg #[.bool sa, .slice Aa (min na 4) ca, .slice Ba (min ma 4) da], fun v _ w => IsQ (w8).heap.size w v (-qa) 4, fun v _ _ => v = .agg #[.bool sa, .slice Aa (min na 4) ca, .slice Ba (min ma 4) da], fun v _ _ => v = .agg #[.bool sb, .slice Ab (min nb 4) cb, .slice Bb (min mb 4) db], fun v _ w => IsQ (w8).heap.size w v (qa + qb) 9, fun v _ _ => v = .agg #[.bool sa, .slice Aa (min na 4) ca, .slice Ba (min ma 4) da], fun v _ _ => v = .agg #[.bool sb, .slice Ab (min nb 4) cb, .slice Bb (min mb 4) db], fun v _ w => IsQ (w8).heap.size w v (qa - qb) 9, fun v _ _ => v = .agg #[.bool sa, .slice Aa (min na 4) ca, .slice Ba (min ma 4) da], fun v _ _ => v = .agg #[.bool sb, .slice Ab (min nb 4) cb, .slice Bb (min mb 4) db], fun v _ w => IsQ (w8).heap.size w v (qa * qb) 8, fun v _ _ => v = .agg #[.bool b2, .slice A2 n2 c2, .slice B2 m2 d2], fun v _ _ => v = .pointer (some ⟨(w.heap.size), 0, none⟩), fun v _ _ => v = .agg #[.bool sa, .slice Aa (min na 4) ca], fun v _ w => IsQ (w8).heap.size w v (((zv sa (M.val (xa.take (min na 4))) : Int) : Rat)) 4, fun v _ w => IsA6 w v (-qa) (qa + qb) (qa - qb) (qa * qb) (qa / qb) (((zv sa (M.val (xa.take (min na 4))) : Int) : Rat)) 9, fun v _ _ => v = Value.int IntKind.i64 0] (n := 17) (by kernel_rfl) rfl (by kernel_rfl) (by kernel_rfl) (by kernel_rfl) (by kernel_rfl) (by kernel_rfl) rb_refl rb_trans ⟨sC, ⟨sQ, ⟨sC, ⟨sC, ⟨sQ, ⟨sC, ⟨sC, ⟨sQ, ⟨sC, ⟨sC, ⟨sQ, ⟨sC, ⟨sC, ⟨sC, ⟨sQ, ⟨sA6, ⟨sC, trivial⟩⟩⟩⟩⟩⟩⟩⟩⟩⟩⟩⟩⟩⟩⟩⟩⟩ ?_ ?_
      · refine ⟨⟨⟨⟨⟨⟨⟨⟨⟨⟨⟨⟨⟨⟨⟨⟨⟨trivial, ?_⟩, ?_⟩, ?_⟩, ?_⟩, ?_⟩, ?_⟩, ?_⟩, ?_⟩, ?_⟩, ?_⟩, ?_⟩, ?_⟩, ?_⟩, ?_⟩, ?_⟩, ?_⟩, ?_⟩
        · refine rs_plain rfl rfl fun a wr S => ?_
          have X := undrew S.ext
          exact wp_qload (ev_of ((S.old 2 (by kernel_rfl)).trans rfl)) (Xa.below X) (done (by kernel_rfl) rbu_refl rfl)
        · refine rs_plain rfl rfl fun a wr S => ?_
          have X := undrew S.ext
          obtain ⟨v0, e0, h0⟩ := S.got 0 (by kernel_rfl)
          exact st_call cf_rat_Neg (args1 ((ev_of (e0 57 (by kernel_rfl))).trans h0)) (by kernel_rfl) rb ((cQNeg (show IsQm _ _ _ _ from (Qa.below X)) (by omega) (by omega)).mono (ansQ_base X.size)) (fun _ _ _ h => h)
        · refine rs_plain rfl rfl fun a wr S => ?_
          have X := undrew S.ext
          exact wp_qload (ev_of ((S.old 2 (by kernel_rfl)).trans rfl)) (Xa.below X) (done (by kernel_rfl) rbu_refl rfl)
        · refine rs_plain rfl rfl fun a wr S => ?_
          have X := undrew S.ext
          exact wp_qload (ev_of ((S.old 3 (by kernel_rfl)).trans rfl)) (Xb.below X) (done (by kernel_rfl) rbu_refl rfl)
        · refine rs_plain rfl rfl fun a wr S => ?_
          have X := undrew S.ext
          obtain ⟨v2, e2, h2⟩ := S.got 2 (by kernel_rfl)
          obtain ⟨v3, e3, h3⟩ := S.got 3 (by kernel_rfl)
          exact st_call cf_rat_Add (args2 ((ev_of (e2 59 (by kernel_rfl))).trans h2) ((ev_of (e3 60 (by kernel_rfl))).trans h3)) (by kernel_rfl) rb ((cQAdd (show IsQm _ _ _ _ from (Qa.below X)) (show IsQm _ _ _ _ from (Qb.below X)) (by omega) (by omega) (by omega) (by omega)).mono (ansQ_base X.size)) (fun _ _ _ h => h)
        · refine rs_plain rfl rfl fun a wr S => ?_
          have X := undrew S.ext
          exact wp_qload (ev_of ((S.old 2 (by kernel_rfl)).trans rfl)) (Xa.below X) (done (by kernel_rfl) rbu_refl rfl)
        · refine rs_plain rfl rfl fun a wr S => ?_
          have X := undrew S.ext
          exact wp_qload (ev_of ((S.old 3 (by kernel_rfl)).trans rfl)) (Xb.below X) (done (by kernel_rfl) rbu_refl rfl)
        · refine rs_plain rfl rfl fun a wr S => ?_
          have X := undrew S.ext
          obtain ⟨v5, e5, h5⟩ := S.got 5 (by kernel_rfl)
          obtain ⟨v6, e6, h6⟩ := S.got 6 (by kernel_rfl)
          exact st_call cf_rat_Sub (args2 ((ev_of (e5 62 (by kernel_rfl))).trans h5) ((ev_of (e6 63 (by kernel_rfl))).trans h6)) (by kernel_rfl) rb ((cQSub (show IsQm _ _ _ _ from (Qa.below X)) (show IsQm _ _ _ _ from (Qb.below X)) (by omega) (by omega) (by omega) (by omega)).mono (ansQ_base X.size)) (fun _ _ _ h => h)
        · refine rs_plain rfl rfl fun a wr S => ?_
          have X := undrew S.ext
          exact wp_qload (ev_of ((S.old 2 (by kernel_rfl)).trans rfl)) (Xa.below X) (done (by kernel_rfl) rbu_refl rfl)
        · refine rs_plain rfl rfl fun a wr S => ?_
          have X := undrew S.ext
          exact wp_qload (ev_of ((S.old 3 (by kernel_rfl)).trans rfl)) (Xb.below X) (done (by kernel_rfl) rbu_refl rfl)
        · refine rs_plain rfl rfl fun a wr S => ?_
          have X := undrew S.ext
          obtain ⟨v8, e8, h8⟩ := S.got 8 (by kernel_rfl)
          obtain ⟨v9, e9, h9⟩ := S.got 9 (by kernel_rfl)
          exact st_call cf_rat_Mul (args2 ((ev_of (e8 65 (by kernel_rfl))).trans h8) ((ev_of (e9 66 (by kernel_rfl))).trans h9)) (by kernel_rfl) rb ((cQMul (show IsQm _ _ _ _ from (Qa.below X)) (show IsQm _ _ _ _ from (Qb.below X)) (by omega) (by omega) (by omega) (by omega)).mono (ansQ_base X.size)) (fun _ _ _ h => h)
        · refine rs_plain rfl rfl fun a wr S => ?_
          have X := undrew S.ext
          exact wp_qload (ev_of ((S.old 8 (by kernel_rfl)).trans rfl)) (P2.below X) (done (by kernel_rfl) rbu_refl rfl)
        · refine rs_plain rfl rfl fun a wr S => ?_
          have X := undrew S.ext
          exact wp_qf0 (ev_of ((S.old 2 (by kernel_rfl)).trans rfl)) (done (by kernel_rfl) rbu_refl rfl)
        · refine rs_plain rfl rfl fun a wr S => ?_
          have X := undrew S.ext
          obtain ⟨v12, e12, h12⟩ := S.got 12 (by kernel_rfl)
          exact wp_qN ((ev_of (e12 69 (by kernel_rfl))).trans h12) (Xa.below X) (done (by kernel_rfl) rbu_refl rfl)
        · refine rs_plain rfl rfl fun a wr S => ?_
          have X := undrew S.ext
          obtain ⟨v13, e13, h13⟩ := S.got 13 (by kernel_rfl)
          exact st_call cf_rat_Int (args1 ((ev_of (e13 70 (by kernel_rfl))).trans h13)) (by kernel_rfl) rb ((cQInt (show IsM _ _ _ _ from (Na.below X)) (by omega) (by omega)).mono (ansQ_base X.size)) (fun _ _ _ h => h)
        · refine rs_plain rfl rfl fun a wr S => ?_
          have X := undrew S.ext
          obtain ⟨v1, e1, h1⟩ := S.got 1 (by kernel_rfl)
          obtain ⟨v4, e4, h4⟩ := S.got 4 (by kernel_rfl)
          obtain ⟨v7, e7, h7⟩ := S.got 7 (by kernel_rfl)
          obtain ⟨v10, e10, h10⟩ := S.got 10 (by kernel_rfl)
          obtain ⟨v11, e11, h11⟩ := S.got 11 (by kernel_rfl)
          obtain ⟨v14, e14, h14⟩ := S.got 14 (by kernel_rfl)
          obtain ⟨b0, A0, n0, c0, B0, m0, d0, hv0, Q0⟩ := (show IsQ _ wr _ (-qa) 4 from h1).opened
          obtain ⟨b1, A1, n1, c1, B1, m1, d1, hv1, Q1⟩ := (show IsQ _ wr _ (qa + qb) 9 from h4).opened
          obtain ⟨b2, A2, n2, c2, B2, m2, d2, hv2, Q2⟩ := (show IsQ _ wr _ (qa - qb) 9 from h7).opened
          obtain ⟨b3, A3, n3, c3, B3, m3, d3, hv3, Q3⟩ := (show IsQ _ wr _ (qa * qb) 8 from h10).opened
          obtain ⟨b5, A5, n5, c5, B5, m5, d5, hv5, Q5⟩ := (show IsQ _ wr _ (((zv sa (M.val (xa.take (min na 4))) : Int) : Rat)) 4 from h14).opened
          exact wp_bA6Q ((ev_of (e1 58 (by kernel_rfl))).trans hv0) ((ev_of (e4 61 (by kernel_rfl))).trans hv1) ((ev_of (e7 64 (by kernel_rfl))).trans hv2) ((ev_of (e10 67 (by kernel_rfl))).trans hv3) ((ev_of (e11 68 (by kernel_rfl))).trans h11) ((ev_of (e14 71 (by kernel_rfl))).trans hv5) (done (by kernel_rfl) rbu_refl ⟨_, _, _, _, _, _, _, _, _, _, _, _, _, _, _, _, _, _, _, _, _, _, _, _, _, _, _, _, _, _, _, _, _, _, _, _, _, _, _, _, _, _, rfl, (Q0.mono (by omega)), (Q1.mono (by omega)), (Q2.mono (by omega)), (Q3.mono (by omega)), ((show IsQt _ _ _ _ from (q2.below X)).mono (by omega)), (Q5.mono (by omega))⟩)
        · refine rs_plain rfl rfl fun a wr S => ?_
          have X := undrew S.ext
          exact wp_mv rfl (done (by kernel_rfl) rbu_refl rfl)
      · intro fw9 w9 hR hv
        replace hR := undrew hR
        have f0 : fw9 0 = .agg #[.bool sa, .slice Aa (min na 4) ca, .slice Ba (min ma 4) da] := (hvc (hv 0 (by omega))).elim fun _ h => h
        have f2 : fw9 2 = .agg #[.bool sa, .slice Aa (min na 4) ca, .slice Ba (min ma 4) da] := (hvc (hv 2 (by omega))).elim fun _ h => h
        have f3 : fw9 3 = .agg #[.bool sb, .slice Ab (min nb 4) cb, .slice Bb (min mb 4) db] := (hvc (hv 3 (by omega))).elim fun _ h => h
        have f5 : fw9 5 = .agg #[.bool sa, .slice Aa (min na 4) ca, .slice Ba (min ma 4) da] := (hvc (hv 5 (by omega))).elim fun _ h => h
        have f6 : fw9 6 = .agg #[.bool sb, .slice Ab (min nb 4) cb, .slice Bb (min mb 4) db] := (hvc (hv 6 (by omega))).elim fun _ h => h
        have f8 : fw9 8 = .agg #[.bool sa, .slice Aa (min na 4) ca, .slice Ba (min ma 4) da] := (hvc (hv 8 (by omega))).elim fun _ h => h
        have f9 : fw9 9 = .agg #[.bool sb, .slice Ab (min nb 4) cb, .slice Bb (min mb 4) db] := (hvc (hv 9 (by omega))).elim fun _ h => h
        have f11 : fw9 11 = .agg #[.bool b2, .slice A2 n2 c2, .slice B2 m2 d2] := (hvc (hv 11 (by omega))).elim fun _ h => h
        have f12 : fw9 12 = .pointer (some ⟨(w.heap.size), 0, none⟩) := (hvc (hv 12 (by omega))).elim fun _ h => h
        have f13 : fw9 13 = .agg #[.bool sa, .slice Aa (min na 4) ca] := (hvc (hv 13 (by omega))).elim fun _ h => h
        have f16 : fw9 16 = Value.int IntKind.i64 0 := (hvc (hv 16 (by omega))).elim fun _ h => h
        obtain ⟨by0, Ay0, ny0, cy0, By0, my0, dy0, by1, Ay1, ny1, cy1, By1, my1, dy1, by2, Ay2, ny2, cy2, By2, my2, dy2, by3, Ay3, ny3, cy3, By3, my3, dy3, by4, Ay4, ny4, cy4, By4, my4, dy4, by5, Ay5, ny5, cy5, By5, my5, dy5, f15, Qy0, Qy1, Qy2, Qy3, Qy4, Qy5⟩ := (show IsA6 w9 _ (-qa) (qa + qb) (qa - qb) (qa * qb) (qa / qb) (((zv sa (M.val (xa.take (min na 4))) : Int) : Rat)) 9 from (hvc (hv 15 (by omega))).elim fun _ h => h)
        simp only [putFn, Act.put, List.setIfInBounds_toArray, List.set_cons_zero, List.set_cons_succ, f0, f2, f3, f5, f6, f8, f9, f11, f12, f13, f16, f15]
        replace Xa := Xa.below hR
        replace Xb := Xb.below hR
        replace Qa := Qa.below hR
        replace Qb := Qb.below hR
        replace Ra := Ra.below hR
        replace Na := Na.below hR
        replace Rb := Rb.below hR
        replace Nb := Nb.below hR
        replace q1 := q1.below hR
        replace P1 := P1.below hR
        replace q2 := q2.below hR
        replace P2 := P2.below hR
        replace BB := bl_trans BB hR
        clear hR hv
        go_wp2_with fail
        go_loopw [73] (fun p wr => ∃ i : Nat, i ≤ 6 ∧ p = .int .i64 (i : Int) ∧ Below w9.heap.size w9 wr) (fun p _ => 6 - (intOf p).toNat)
        case atStart => exact ⟨0, by omega, rfl, Below.refl _ _⟩
        case round =>
          obtain ⟨i, hi, rfl, HB⟩ := hrel
          rcases (show i = 0 ∨ i = 1 ∨ i = 2 ∨ i = 3 ∨ i = 4 ∨ i = 5 ∨ i = 6 by omega) with rfl | rfl | rfl | rfl | rfl | rfl | rfl
          · have hidx := (index_a6 wr by0 Ay0 ny0 cy0 By0 my0 dy0 by1 Ay1 ny1 cy1 By1 my1 dy1 by2 Ay2 ny2 cy2 By2 my2 dy2 by3 Ay3 ny3 cy3 By3 my3 dy3 by4 Ay4 ny4 cy4 By4 my4 dy4 by5 Ay5 ny5 cy5 By5 my5 dy5).1
            have OO := bl_alloc wr (.cells #[.bool by0, .slice Ay0 ny0 cy0, .slice By0 my0 dy0] 26)
            have PY := Bq.new wr by0 Ay0 ny0 cy0 By0 my0 dy0
            have QY := (Qy0.below HB).below OO
            replace HB := bl_trans HB OO
            clear OO 
            have PYc0 := PY.c0
            have PYc1 := PY.c1
            have PYc2 := PY.c2
            go_wp2_with fail
            clear PYc0 PYc1 PYc2
            refine (cQRight QY (by omega)).mono ?_
            rintro e w9 ⟨_, rfl, hb9, rfl⟩
            replace HB := bl_trans HB hb9
            clear hb9 PY QY hidx
            go_wp2_with fail
            go_roundw
            case rel => repeat' first | exact ⟨⟨1, by omega, rfl, HB⟩, rfl⟩ | apply Exists.intro
            case measure => simp [intOf]
          · have hidx := (index_a6 wr by0 Ay0 ny0 cy0 By0 my0 dy0 by1 Ay1 ny1 cy1 By1 my1 dy1 by2 Ay2 ny2 cy2 By2 my2 dy2 by3 Ay3 ny3 cy3 By3 my3 dy3 by4 Ay4 ny4 cy4 By4 my4 dy4 by5 Ay5 ny5 cy5 By5 my5 dy5).2.1
            have OO := bl_alloc wr (.cells #[.bool by1, .slice Ay1 ny1 cy1, .slice By1 my1 dy1] 26)
            have PY := Bq.new wr by1 Ay1 ny1 cy1 By1 my1 dy1
            have QY := (Qy1.below HB).below OO
            replace HB := bl_trans HB OO
            clear OO 
            have PYc0 := PY.c0
            have PYc1 := PY.c1
            have PYc2 := PY.c2
            go_wp2_with fail
            clear PYc0 PYc1 PYc2
            refine (cQRight QY (by omega)).mono ?_
            rintro e w9 ⟨_, rfl, hb9, rfl⟩
            replace HB := bl_trans HB hb9
            clear hb9 PY QY hidx
            go_wp2_with fail
            go_roundw
            case rel => repeat' first | exact ⟨⟨2, by omega, rfl, HB⟩, rfl⟩ | apply Exists.intro
            case measure => simp [intOf]
          · have hidx := (index_a6 wr by0 Ay0 ny0 cy0 By0 my0 dy0 by1 Ay1 ny1 cy1 By1 my1 dy1 by2 Ay2 ny2 cy2 By2 my2 dy2 by3 Ay3 ny3 cy3 By3 my3 dy3 by4 Ay4 ny4 cy4 By4 my4 dy4 by5 Ay5 ny5 cy5 By5 my5 dy5).2.2.1
            have OO := bl_alloc wr (.cells #[.bool by2, .slice Ay2 ny2 cy2, .slice By2 my2 dy2] 26)
            have PY := Bq.new wr by2 Ay2 ny2 cy2 By2 my2 dy2
            have QY := (Qy2.below HB).below OO
            replace HB := bl_trans HB OO
            clear OO 
            have PYc0 := PY.c0
            have PYc1 := PY.c1
            have PYc2 := PY.c2
            go_wp2_with fail
            clear PYc0 PYc1 PYc2
            refine (cQRight QY (by omega)).mono ?_
            rintro e w9 ⟨_, rfl, hb9, rfl⟩
            replace HB := bl_trans HB hb9
            clear hb9 PY QY hidx
            go_wp2_with fail
            go_roundw
            case rel => repeat' first | exact ⟨⟨3, by omega, rfl, HB⟩, rfl⟩ | apply Exists.intro
            case measure => simp [intOf]
          · have hidx := (index_a6 wr by0 Ay0 ny0 cy0 By0 my0 dy0 by1 Ay1 ny1 cy1 By1 my1 dy1 by2 Ay2 ny2 cy2 By2 my2 dy2 by3 Ay3 ny3 cy3 By3 my3 dy3 by4 Ay4 ny4 cy4 By4 my4 dy4 by5 Ay5 ny5 cy5 By5 my5 dy5).2.2.2.1
            have OO := bl_alloc wr (.cells #[.bool by3, .slice Ay3 ny3 cy3, .slice By3 my3 dy3] 26)
            have PY := Bq.new wr by3 Ay3 ny3 cy3 By3 my3 dy3
            have QY := (Qy3.below HB).below OO
            replace HB := bl_trans HB OO
            clear OO 
            have PYc0 := PY.c0
            have PYc1 := PY.c1
            have PYc2 := PY.c2
            go_wp2_with fail
            clear PYc0 PYc1 PYc2
            refine (cQRight QY (by omega)).mono ?_
            rintro e w9 ⟨_, rfl, hb9, rfl⟩
            replace HB := bl_trans HB hb9
            clear hb9 PY QY hidx
            go_wp2_with fail
            go_roundw
            case rel => repeat' first | exact ⟨⟨4, by omega, rfl, HB⟩, rfl⟩ | apply Exists.intro
            case measure => simp [intOf]
          · have hidx := (index_a6 wr by0 Ay0 ny0 cy0 By0 my0 dy0 by1 Ay1 ny1 cy1 By1 my1 dy1 by2 Ay2 ny2 cy2 By2 my2 dy2 by3 Ay3 ny3 cy3 By3 my3 dy3 by4 Ay4 ny4 cy4 By4 my4 dy4 by5 Ay5 ny5 cy5 By5 my5 dy5).2.2.2.2.1
            have OO := bl_alloc wr (.cells #[.bool by4, .slice Ay4 ny4 cy4, .slice By4 my4 dy4] 26)
            have PY := Bq.new wr by4 Ay4 ny4 cy4 By4 my4 dy4
            have QY := (Qy4.below HB).below OO
            replace HB := bl_trans HB OO
            clear OO 
            have PYc0 := PY.c0
            have PYc1 := PY.c1
            have PYc2 := PY.c2
            go_wp2_with fail
            clear PYc0 PYc1 PYc2
            refine (cQRight QY (by omega)).mono ?_
            rintro e w9 ⟨_, rfl, hb9, rfl⟩
            replace HB := bl_trans HB hb9
            clear hb9 PY QY hidx
            go_wp2_with fail
            go_roundw
            case rel => repeat' first | exact ⟨⟨5, by omega, rfl, HB⟩, rfl⟩ | apply Exists.intro
            case measure => simp [intOf]
          · have hidx := (index_a6 wr by0 Ay0 ny0 cy0 By0 my0 dy0 by1 Ay1 ny1 cy1 By1 my1 dy1 by2 Ay2 ny2 cy2 By2 my2 dy2 by3 Ay3 ny3 cy3 By3 my3 dy3 by4 Ay4 ny4 cy4 By4 my4 dy4 by5 Ay5 ny5 cy5 By5 my5 dy5).2.2.2.2.2
            have OO := bl_alloc wr (.cells #[.bool by5, .slice Ay5 ny5 cy5, .slice By5 my5 dy5] 26)
            have PY := Bq.new wr by5 Ay5 ny5 cy5 By5 my5 dy5
            have QY := (Qy5.below HB).below OO
            replace HB := bl_trans HB OO
            clear OO 
            have PYc0 := PY.c0
            have PYc1 := PY.c1
            have PYc2 := PY.c2
            go_wp2_with fail
            clear PYc0 PYc1 PYc2
            refine (cQRight QY (by omega)).mono ?_
            rintro e w9 ⟨_, rfl, hb9, rfl⟩
            replace HB := bl_trans HB hb9
            clear hb9 PY QY hidx
            go_wp2_with fail
            go_roundw
            case rel => repeat' first | exact ⟨⟨6, by omega, rfl, HB⟩, rfl⟩ | apply Exists.intro
            case measure => simp [intOf]
          · clear Qy0 Qy1 Qy2 Qy3 Qy4 Qy5
            replace Xa := Xa.below HB
            replace Xb := Xb.below HB
            replace Qa := Qa.below HB
            replace Qb := Qb.below HB
            replace Ra := Ra.below HB
            replace Na := Na.below HB
            replace Rb := Rb.below HB
            replace Nb := Nb.below HB
            replace q1 := q1.below HB
            replace P1 := P1.below HB
            replace q2 := q2.below HB
            replace P2 := P2.below HB
            replace BB := bl_trans BB HB
            clear HB
            go_wp2_with fail
            obtain ⟨ra, hra⟩ : ∃ ra, decide (RightQ sa (xa.take (min na 4)) (ya.take (min ma 4)) qa) = ra := ⟨_, rfl⟩
            have HR1 := Lib.hid (show ra = true ↔ RightQ sa (xa.take (min na 4)) (ya.take (min ma 4)) (mkRat (zv sa (M.val (xa.take (min na 4)))) (dOf (M.val (ya.take (min ma 4))))) by rw [← hra, decide_eq_true_eq, Za.out])
            have HR2 := Lib.hid (show ra = true ↔ sa = decide (qa.num < 0) ∧ xa.take (min na 4) = M.lims qa.num.natAbs ∧ ya.take (min ma 4) = M.lims qa.den by rw [← hra, decide_eq_true_eq]; rfl)
            clear hra
            refine wp_region_list (Ext := RB) (Rel := RBu) [fun v _ _ => v = .agg #[.bool sa, .slice Aa (min na 4) ca, .slice Ba (min ma 4) da], fun v _ _ => v = .bool ra, fun v _ _ => v = .agg #[.bool sa, .slice Aa (min na 4) ca, .slice Ba (min ma 4) da], fun v _ _ => v = .agg #[.bool b1, .slice A1 n1 c1, .slice B1 m1 d1], fun v _ _ => v = .bool ra, fun v _ _ => v = .bool true, fun v _ _ => v = .bool true] (n := 7) (by kernel_rfl) rfl (by kernel_rfl) (by kernel_rfl) (by kernel_rfl) (by kernel_rfl) (by kernel_rfl) rb_refl rb_trans ⟨sC, ⟨sC, ⟨sC, ⟨sC, ⟨sC, ⟨sC, ⟨sC, trivial⟩⟩⟩⟩⟩⟩⟩ ?_ ?_
            · refine ⟨⟨⟨⟨⟨⟨⟨trivial, ?_⟩, ?_⟩, ?_⟩, ?_⟩, ?_⟩, ?_⟩, ?_⟩
              · refine rs_plain rfl rfl fun a wr S => ?_
                have X := undrew S.ext
                exact wp_qload (ev_of ((S.old 2 (by kernel_rfl)).trans rfl)) (Xa.below X) (done (by kernel_rfl) rbu_refl rfl)
              · refine rs_plain rfl rfl fun a wr S => ?_
                have X := undrew S.ext
                obtain ⟨v0, e0, h0⟩ := S.got 0 (by kernel_rfl)
                exact st_call cf_rat_Right (args1 ((ev_of (e0 80 (by kernel_rfl))).trans h0)) (by kernel_rfl) rb (cQRightI (Ra.below X) (by omega) HR1.out) (fun _ _ _ h => h)
              · refine rs_plain rfl rfl fun a wr S => ?_
                have X := undrew S.ext
                exact wp_qload (ev_of ((S.old 2 (by kernel_rfl)).trans rfl)) (Xa.below X) (done (by kernel_rfl) rbu_refl rfl)
              · refine rs_plain rfl rfl fun a wr S => ?_
                have X := undrew S.ext
                exact wp_qload (ev_of ((S.old 6 (by kernel_rfl)).trans rfl)) (P1.below X) (done (by kernel_rfl) rbu_refl rfl)
              · refine rs_plain rfl rfl fun a wr S => ?_
                have X := undrew S.ext
                obtain ⟨v2, e2, h2⟩ := S.got 2 (by kernel_rfl)
                obtain ⟨v3, e3, h3⟩ := S.got 3 (by kernel_rfl)
                exact st_call cf_law03_same (args2 ((ev_of (e2 82 (by kernel_rfl))).trans h2) ((ev_of (e3 83 (by kernel_rfl))).trans h3)) (by kernel_rfl) rb (cSameR (Ra.below X) ((q1.below X).r) (by omega) (by omega) HR2.out) (fun _ _ _ h => h)
              · refine rs_plain rfl rfl fun a wr S => ?_
                have X := undrew S.ext
                obtain ⟨v1, e1, h1⟩ := S.got 1 (by kernel_rfl)
                obtain ⟨v4, e4, h4⟩ := S.got 4 (by kernel_rfl)
                exact wp_eqB ((ev_of (e1 81 (by kernel_rfl))).trans h1) ((ev_of (e4 84 (by kernel_rfl))).trans h4) (done (by kernel_rfl) rbu_refl (congrArg Value.bool (beq_self_eq_true _)))
              · refine rs_plain rfl rfl fun a wr S => ?_
                have X := undrew S.ext
                obtain ⟨v5, e5, h5⟩ := S.got 5 (by kernel_rfl)
                exact wp_as ((ev_of (e5 85 (by kernel_rfl))).trans h5) (done (by kernel_rfl) rbu_refl rfl)
            · intro fw10 w10 hR hv
              replace hR := undrew hR
              have f0 : fw10 0 = .agg #[.bool sa, .slice Aa (min na 4) ca, .slice Ba (min ma 4) da] := (hvc (hv 0 (by omega))).elim fun _ h => h
              have f1 : fw10 1 = .bool ra := (hvc (hv 1 (by omega))).elim fun _ h => h
              have f2 : fw10 2 = .agg #[.bool sa, .slice Aa (min na 4) ca, .slice Ba (min ma 4) da] := (hvc (hv 2 (by omega))).elim fun _ h => h
              have f3 : fw10 3 = .agg #[.bool b1, .slice A1 n1 c1, .slice B1 m1 d1] := (hvc (hv 3 (by omega))).elim fun _ h => h
              have f4 : fw10 4 = .bool ra := (hvc (hv 4 (by omega))).elim fun _ h => h
              have f5 : fw10 5 = .bool true := (hvc (hv 5 (by omega))).elim fun _ h => h
              have f6 : fw10 6 = .bool true := (hvc (hv 6 (by omega))).elim fun _ h => h
              simp only [putFn, Act.put, List.setIfInBounds_toArray, List.set_cons_zero, List.set_cons_succ, f0, f1, f2, f3, f4, f5, f6]
              replace Xa := Xa.below hR
              replace Xb := Xb.below hR
              replace Qa := Qa.below hR
              replace Qb := Qb.below hR
              replace Ra := Ra.below hR
              replace Na := Na.below hR
              replace Rb := Rb.below hR
              replace Nb := Nb.below hR
              replace q1 := q1.below hR
              replace P1 := P1.below hR
              replace q2 := q2.below hR
              replace P2 := P2.below hR
              replace BB := bl_trans BB hR
              clear hR hv
              go_wp2_with fail
              go_ret
              exact ⟨rfl, BB⟩
theorem ratTexts_walk (sa : Bool) (Aa : Option Addr) (na ca : Nat) (xa : List Nat) (Ba : Option Addr) (ma da : Nat) (ya : List Nat) (sb : Bool) (Ab : Option Addr) (nb cb : Nat) (xb : List Nat) (Bb : Option Addr) (mb db : Nat) (yb : List Nat) (w : World) (ha : (Rd w Aa na ca xa ∧ na ≤ maxLen) ∧ (Rd w Ba ma da ya ∧ ma ≤ maxLen)) (hb : (Rd w Ab nb cb xb ∧ nb ≤ maxLen) ∧ (Rd w Bb mb db yb ∧ mb ≤ maxLen)) : Calls Tryz.prog 9 #[.agg #[.bool sa, .slice Aa na ca, .slice Ba ma da], .agg #[.bool sb, .slice Ab nb cb, .slice Bb mb db]] w fun e w' => e = .returned (.bool true) ∧ Below w.heap.size w w' :=
  ratTexts_in sa Aa na ca xa Ba ma da ya sb Ab nb cb xb Bb mb db yb _ _ w (Lib.hid ha.1.1) (Lib.hid ha.1.2) (Lib.hid ha.2.1) (Lib.hid ha.2.2) (Lib.hid hb.1.1) (Lib.hid hb.1.2) (Lib.hid hb.2.1) (Lib.hid hb.2.2) (Lib.hid rfl) (Lib.hid rfl) 

end Go.Proofs.YtbhgbilhoonopaaGreat
