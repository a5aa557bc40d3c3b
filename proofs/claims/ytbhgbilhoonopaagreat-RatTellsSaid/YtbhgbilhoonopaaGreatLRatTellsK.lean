/- litmuslaw03.RatTells answers true at every input, and changes nothing that was there: its walk. -/
import Derived.Test.YtbhgbilhoonopaaGreatK6
namespace Go.Proofs.YtbhgbilhoonopaaGreat
open Go.RowKit
set_option linter.unusedVariables false
set_option maxRecDepth 100000

theorem exB (P : Prop) : ∃ r : Bool, (r = true ↔ P) := by
 by_cases h : P
 ·exact ⟨true, ⟨fun _ => h, fun _ => rfl⟩⟩
 ·exact ⟨false, ⟨fun e => absurd e (by decide), fun e => absurd e h⟩⟩
set_option maxHeartbeats 4000000 in
theorem ratTells_in (sa : Bool) (Aa : Option Addr) (na ca : Nat) (xa : List Nat) (Ba : Option Addr) (ma da : Nat) (ya : List Nat) (sb : Bool) (Ab : Option Addr) (nb cb : Nat) (xb : List Nat) (Bb : Option Addr) (mb db : Nat) (yb : List Nat) (qa qb : Rat) (w : World) (Ha : Hid (Rd w Aa na ca xa)) (Ia : Hid (na ≤ maxLen)) (Ja : Hid (Rd w Ba ma da ya)) (Ka : Hid (ma ≤ maxLen)) (Hb : Hid (Rd w Ab nb cb xb)) (Ib : Hid (nb ≤ maxLen)) (Jb : Hid (Rd w Bb mb db yb)) (Kb : Hid (mb ≤ maxLen)) (Za : Hid (qa = mkRat (zv sa (M.val (xa.take (min na 3)))) (dOf (M.val (ya.take (min ma 3)))))) (Zb : Hid (qb = mkRat (zv sb (M.val (xb.take (min nb 3)))) (dOf (M.val (yb.take (min mb 3)))))) : Calls Tryz.prog 3 #[.agg #[.bool sa, .slice Aa na ca, .slice Ba ma da], .agg #[.bool sb, .slice Ab nb cb, .slice Bb mb db]] w fun e w' => e = .returned (.bool true) ∧ Below w.heap.size w w' := by
 have BB := (bl_trans (bl_alloc w (.cells #[.bool sa, .slice Aa na ca, .slice Ba ma da] 26)) (bl_alloc _ (.cells #[.bool sb, .slice Ab nb cb, .slice Bb mb db] 26)))
 have Pa := (Bq.new w  sa Aa na ca Ba ma da).alloc (.cells #[.bool sb, .slice Ab nb cb, .slice Bb mb db] 26)
 have Pb := Bq.new2 w (.cells #[.bool sa, .slice Aa na ca, .slice Ba ma da] 26) sb Ab nb cb Bb mb db
 go_enter Tryz.func3, Tryz.ntmps3
 go_wp2_with fail
 refine wp_cut (by kernel_rfl) 4 ?_
 simp only [List.take_succ_cons, List.take_zero, List.drop_succ_cons, List.drop_zero]
 refine wp_cut_list (Ext := RB) (Rel := RBu) [fun v _ _ => v = .agg #[.bool sa, .slice Aa na ca, .slice Ba ma da], fun v _ _ => v = .agg #[.bool sa, .slice Aa (min na 3) ca, .slice Ba (min ma 3) da], fun v _ _ => v = .agg #[.bool sb, .slice Ab nb cb, .slice Bb mb db], fun v _ _ => v = .agg #[.bool sb, .slice Ab (min nb 3) cb, .slice Bb (min mb 3) db]] (n := 4) (by kernel_rfl) (by kernel_rfl) (by kernel_rfl) (by kernel_rfl) (by kernel_rfl) (by kernel_rfl) (by kernel_rfl) (by kernel_rfl) (by kernel_rfl) rb_refl rb_trans ⟨sC, ⟨sC, ⟨sC, ⟨sC, trivial⟩⟩⟩⟩ ?_ ?_
 ·refine ⟨⟨⟨⟨trivial, ?_⟩, ?_⟩, ?_⟩, ?_⟩
  ·refine rs_plain rfl rfl fun a wr S => ?_
   have X := undrew S.ext
   exact wp_qload (ev_of ((S.old 2 (by kernel_rfl)).trans rfl)) (Pa.below X) (done (by kernel_rfl) rbu_refl rfl)
  ·refine rs_plain rfl rfl fun a wr S => ?_
   have X := undrew S.ext
   obtain ⟨v0, e0, h0⟩ := S.got 0 (by kernel_rfl)
   exact st_call cf_law03_few (args2 ((ev_of (e0 7 (by kernel_rfl))).trans h0) rfl) (by kernel_rfl) rb (cFew3 Ha.out.cap Ja.out.cap Ia.out Ka.out 3 _ rfl (by omega)) (fun _ _ _ h => h)
  ·refine rs_plain rfl rfl fun a wr S => ?_
   have X := undrew S.ext
   exact wp_qload (ev_of ((S.old 3 (by kernel_rfl)).trans rfl)) (Pb.below X) (done (by kernel_rfl) rbu_refl rfl)
  ·refine rs_plain rfl rfl fun a wr S => ?_
   have X := undrew S.ext
   obtain ⟨v2, e2, h2⟩ := S.got 2 (by kernel_rfl)
   exact st_call cf_law03_few (args2 ((ev_of (e2 9 (by kernel_rfl))).trans h2) rfl) (by kernel_rfl) rb (cFew3 Hb.out.cap Jb.out.cap Ib.out Kb.out 3 _ rfl (by omega)) (fun _ _ _ h => h)
 ·intro fw1 w1 hR hv hap
  clear hap
  replace hR := undrew hR
  have f0 : fw1 0 = .agg #[.bool sa, .slice Aa na ca, .slice Ba ma da] := (hvc (hv 0 (by omega))).elim fun _ h => h
  have f1 : fw1 1 = .agg #[.bool sa, .slice Aa (min na 3) ca, .slice Ba (min ma 3) da] := (hvc (hv 1 (by omega))).elim fun _ h => h
  have f2 : fw1 2 = .agg #[.bool sb, .slice Ab nb cb, .slice Bb mb db] := (hvc (hv 2 (by omega))).elim fun _ h => h
  have f3 : fw1 3 = .agg #[.bool sb, .slice Ab (min nb 3) cb, .slice Bb (min mb 3) db] := (hvc (hv 3 (by omega))).elim fun _ h => h
  simp only [putFn, Act.put, List.setIfInBounds_toArray, List.set_cons_zero, List.set_cons_succ, f0, f1, f2, f3]
  replace Pa := Pa.below hR
  replace Pb := Pb.below hR
  replace BB := bl_trans BB hR
  clear hR hv
  have ra0 := Pa.c0
  have fa0 := Pa.f 0
  have ra1 := Pa.c1
  have fa1 := Pa.f 1
  have ra2 := Pa.c2
  have fa2 := Pa.f 2
  have rb0 := Pb.c0
  have fb0 := Pb.f 0
  have rb1 := Pb.c1
  have fb1 := Pb.f 1
  have rb2 := Pb.c2
  have fb2 := Pb.f 2
  go_wp2_with fail
  clear ra0 fa0 ra1 fa1 ra2 fa2 rb0 fb0 rb1 fb1 rb2 fb2
  have Xa := ((((Pa.set3 (b' := sa) (A' := Aa) (n' := min na 3) (c' := ca) (B' := Ba) (m' := min ma 3) (d' := da)).other (g' := w.heap.size + 1) (i := 0) (v := .bool sb) (by omega)).other (g' := w.heap.size + 1) (i := 1) (v := .slice Ab (min nb 3) cb) (by omega)).other (g' := w.heap.size + 1) (i := 2) (v := .slice Bb (min mb 3) db) (by omega))
  have Xb := ((((Pb.other (g' := w.heap.size) (i := 0) (v := .bool sa) (by omega)).other (g' := w.heap.size) (i := 1) (v := .slice Aa (min na 3) ca) (by omega)).other (g' := w.heap.size) (i := 2) (v := .slice Ba (min ma 3) da) (by omega)).set3 (b' := sb) (A' := Ab) (n' := min nb 3) (c' := cb) (B' := Bb) (m' := min mb 3) (d' := db))
  replace BB := ((((((BB.setCell (p := ⟨w.heap.size, 0, none⟩) (by show _ ≤ w.heap.size; omega) (.bool sa)).setCell (p := ⟨w.heap.size, 1, none⟩) (by show _ ≤ w.heap.size; omega) (.slice Aa (min na 3) ca)).setCell (p := ⟨w.heap.size, 2, none⟩) (by show _ ≤ w.heap.size; omega) (.slice Ba (min ma 3) da)).setCell (p := ⟨w.heap.size + 1, 0, none⟩) (by show _ ≤ w.heap.size + 1; omega) (.bool sb)).setCell (p := ⟨w.heap.size + 1, 1, none⟩) (by show _ ≤ w.heap.size + 1; omega) (.slice Ab (min nb 3) cb)).setCell (p := ⟨w.heap.size + 1, 2, none⟩) (by show _ ≤ w.heap.size + 1; omega) (.slice Bb (min mb 3) db))
  clear Pa Pb
  generalize ((((((w1.setCell ⟨w.heap.size, 0, none⟩ (.bool sa)).setCell ⟨w.heap.size, 1, none⟩ (.slice Aa (min na 3) ca)).setCell ⟨w.heap.size, 2, none⟩ (.slice Ba (min ma 3) da)).setCell ⟨w.heap.size + 1, 0, none⟩ (.bool sb)).setCell ⟨w.heap.size + 1, 1, none⟩ (.slice Ab (min nb 3) cb)).setCell ⟨w.heap.size + 1, 2, none⟩ (.slice Bb (min mb 3) db)) = wh at Xa Xb BB ⊢
  have Qa : IsQm wh (.agg #[.bool sa, .slice Aa (min na 3) ca, .slice Ba (min ma 3) da]) qa 3 := by rw [Za.out]; exact few_q (Ha.out.below BB) (Ja.out.below BB) 3
  have Qb : IsQm wh (.agg #[.bool sb, .slice Ab (min nb 3) cb, .slice Bb (min mb 3) db]) qb 3 := by rw [Zb.out]; exact few_q (Hb.out.below BB) (Jb.out.below BB) 3
  have Ra : IsR wh (.agg #[.bool sa, .slice Aa (min na 3) ca, .slice Ba (min ma 3) da]) sa (xa.take (min na 3)) (ya.take (min ma 3)) 3 := ⟨_, _, _, _, _, _, rfl, ⟨(Ha.out.below BB).take (by omega), by omega⟩, (Ja.out.below BB).take (by omega), by omega⟩
  have Na : IsM wh (.agg #[.bool sa, .slice Aa (min na 3) ca]) (zv sa (M.val (xa.take (min na 3)))) 3 := ⟨_, _, _, _, rfl, ⟨⟨_, ⟨⟨_, (Ha.out.below BB).take (by omega), rfl⟩, by omega⟩, rfl⟩⟩⟩
  have Rb : IsR wh (.agg #[.bool sb, .slice Ab (min nb 3) cb, .slice Bb (min mb 3) db]) sb (xb.take (min nb 3)) (yb.take (min mb 3)) 3 := ⟨_, _, _, _, _, _, rfl, ⟨(Hb.out.below BB).take (by omega), by omega⟩, (Jb.out.below BB).take (by omega), by omega⟩
  have Nb : IsM wh (.agg #[.bool sb, .slice Ab (min nb 3) cb]) (zv sb (M.val (xb.take (min nb 3)))) 3 := ⟨_, _, _, _, rfl, ⟨⟨_, ⟨⟨_, (Hb.out.below BB).take (by omega), rfl⟩, by omega⟩, rfl⟩⟩⟩
  clear Ha Ia Ja Ka Hb Ib Jb Kb
  obtain ⟨ra, hra⟩ := exB (RightQ sa (xa.take (min na 3)) (ya.take (min ma 3)) (mkRat (zv sa (M.val (xa.take (min na 3)))) (dOf (M.val (ya.take (min ma 3))))))
  have HR1 := Lib.hid hra
  clear hra
  obtain ⟨c, hc⟩ : ∃ c, cmpQ qa qb = c := ⟨_, rfl⟩
  have HC := Lib.hid hc
  clear hc
  obtain ⟨s, hs⟩ : ∃ s, sgn qa.num = s := ⟨_, rfl⟩
  have HS := Lib.hid hs
  clear hs Za Zb
  by_cases hu : qb = 0
  ·have HU := Lib.hid hu
   clear hu
   have EO := Lib.hid (show eQ qb = 3 from if_pos HU.out)
   refine (cQDiv Qa Qb (by omega) (by omega) (by omega) (by omega)).mono ?_
   rw [EO.out]
   rintro e w2 ⟨_, rfl, hb, b7, A7, n7, c7, B7, m7, d7, rfl, q7⟩
   replace Xa := Xa.below hb
   replace Xb := Xb.below hb
   replace Qa := Qa.below hb
   replace Qb := Qb.below hb
   replace Ra := Ra.below hb
   replace Na := Na.below hb
   replace Rb := Rb.below hb
   replace Nb := Nb.below hb
   replace BB := bl_trans BB hb
   clear hb
   replace q7 := q7.t
   have OO := bl_alloc w2 (.cells #[.bool b7, .slice A7 n7 c7, .slice B7 m7 d7] 26)
   have P7 := Bq.new w2 b7 A7 n7 c7 B7 m7 d7
   replace Xa := Xa.below OO
   replace Xb := Xb.below OO
   replace Qa := Qa.below OO
   replace Qb := Qb.below OO
   replace Ra := Ra.below OO
   replace Na := Na.below OO
   replace Rb := Rb.below OO
   replace Nb := Nb.below OO
   replace q7 := q7.below OO
   replace BB := bl_trans BB OO
   clear OO
   go_upto_region 3 with (fail)
   generalize w2.alloc _ = w3 at Xa Xb Qa Qb Ra Na Rb Nb q7 P7 BB ⊢
   refine wp_seq 2 ?_
   simp only [List.take_succ_cons, List.take_zero, List.drop_succ_cons, List.drop_zero]
   refine wp_seq_list (Ext := RB) (Rel := RBu) [fun v _ _ => v = .agg #[.bool sb, .slice Ab (min nb 3) cb, .slice Bb (min mb 3) db], fun v _ _ => v = .bool true] (n := 2) (by kernel_rfl) (by kernel_rfl) (by kernel_rfl) (by kernel_rfl) (by kernel_rfl) (by kernel_rfl) (by kernel_rfl) rb_refl rb_trans ⟨sC, ⟨sC, trivial⟩⟩ ?_ ?_
   ·refine ⟨⟨trivial, ?_⟩, ?_⟩
    ·refine rs_plain rfl rfl fun a wr S => ?_
     have X := rbX S.ext
     exact wp_qload (ev_of ((S.old 3 (by kernel_rfl)).trans rfl)) (Xb.below X) (done (by kernel_rfl) rbu_refl rfl)
    ·refine rs_plain rfl rfl fun a wr S => ?_
     have X := rbX S.ext
     obtain ⟨v0, e0, h0⟩ := S.got 0 (by kernel_rfl)
     exact st_call cf_ref03_Zero (args1 ((ev_of (e0 17 (by kernel_rfl))).trans h0)) (by kernel_rfl) rb ((cZero3 (show IsQm _ _ _ _ from (Qb.below X)) (by omega)).mono (ansB (decide_eq_true HU.out))) (fun _ _ _ h => h)
   ·intro fw4 w4 hR hv hap
    clear hap
    replace hR := rbX hR
    have f0 : fw4 0 = .agg #[.bool sb, .slice Ab (min nb 3) cb, .slice Bb (min mb 3) db] := (hvc (hv 0 (by omega))).elim fun _ h => h
    have f1 : fw4 1 = .bool true := (hvc (hv 1 (by omega))).elim fun _ h => h
    simp only [putFn, Act.put, List.setIfInBounds_toArray, List.set_cons_zero, List.set_cons_succ, f0, f1]
    replace Xa := Xa.below hR
    replace Xb := Xb.below hR
    replace Qa := Qa.below hR
    replace Qb := Qb.below hR
    replace Ra := Ra.below hR
    replace Na := Na.below hR
    replace Rb := Rb.below hR
    replace Nb := Nb.below hR
    replace q7 := q7.below hR
    replace P7 := P7.below hR
    replace BB := bl_trans BB hR
    clear hR hv
    go_upto_region 4 with (fail)
    refine wp_region_list (Ext := RB) (Rel := RBu) [fun v _ _ => v = .int .i64 3, fun v _ _ => v = .bool false, fun v _ _ => v = .bool false, fun v _ _ => v = .agg #[.bool b7, .slice A7 n7 c7, .slice B7 m7 d7], fun v _ _ => v = .agg #[.bool false, .slice none 0 0, .slice none 0 0], fun v _ w => IsQt w v (0) 1, fun v _ _ => v = .bool true, fun v _ _ => v = .bool false, fun v _ _ => v = .bool false] (n := 9) (by kernel_rfl) rfl (by kernel_rfl) (by kernel_rfl) (by kernel_rfl) (by kernel_rfl) (by kernel_rfl) rb_refl rb_trans ⟨sC, ⟨sC, ⟨sC, ⟨sC, ⟨sC, ⟨sQt, ⟨sC, ⟨sC, ⟨sC, trivial⟩⟩⟩⟩⟩⟩⟩⟩⟩ ?_ ?_
    ·refine ⟨⟨⟨⟨⟨⟨⟨⟨⟨trivial, ?_⟩, ?_⟩, ?_⟩, ?_⟩, ?_⟩, ?_⟩, ?_⟩, ?_⟩, ?_⟩
     ·refine rs_plain rfl rfl fun a wr S => ?_
      have X := undrew S.ext
      exact wp_mv (ev_of ((S.old 6 (by kernel_rfl)).trans rfl)) (done (by kernel_rfl) rbu_refl rfl)
     ·refine rs_plain rfl rfl fun a wr S => ?_
      have X := undrew S.ext
      obtain ⟨v0, e0, h0⟩ := S.got 0 (by kernel_rfl)
      exact wp_neI ((ev_of (e0 19 (by kernel_rfl))).trans h0) rfl (Or.inr rfl) (done (by kernel_rfl) rbu_refl (congrArg Value.bool (by decide)))
     ·refine rs_plain rfl rfl fun a wr S => ?_
      have X := undrew S.ext
      obtain ⟨v1, e1, h1⟩ := S.got 1 (by kernel_rfl)
      exact wp_mv ((ev_of (e1 20 (by kernel_rfl))).trans h1) (done (by kernel_rfl) rbu_refl rfl)
     ·refine rs_yes rfl rfl (by kernel_rfl) (by kernel_rfl : _ = some 21) (fun _ _ _ h => h) fun a wr S => ?_
      have X := undrew S.ext
      exact wp_qload (ev_of ((S.old 5 (by kernel_rfl)).trans rfl)) (P7.below X) (done (by kernel_rfl) rbu_refl rfl)
     ·refine rs_yes rfl rfl (by kernel_rfl) (by kernel_rfl : _ = some 21) (fun _ _ _ h => h) fun a wr S => ?_
      have X := undrew S.ext
      exact wp_build0Q (done (by kernel_rfl) rbu_refl rfl)
     ·refine rs_yes rfl rfl (by kernel_rfl) (by kernel_rfl : _ = some 21) (fun _ _ _ h => h) fun a wr S => ?_
      have X := undrew S.ext
      obtain ⟨v4, e4, h4⟩ := S.got 4 (by kernel_rfl)
      exact st_call cf_ref03_Made (args1 ((ev_of (e4 23 (by kernel_rfl))).trans h4)) (by kernel_rfl) rb (cMade3 (show IsQm _ _ _ _ from ((isQm_nil w4).below X)) (by omega) (by omega)) (fun _ _ _ h => h)
     ·refine rs_yes rfl rfl (by kernel_rfl) (by kernel_rfl : _ = some 21) (fun _ _ _ h => h) fun a wr S => ?_
      have X := undrew S.ext
      obtain ⟨v3, e3, h3⟩ := S.got 3 (by kernel_rfl)
      obtain ⟨v5, e5, h5⟩ := S.got 5 (by kernel_rfl)
      exact st_call cf_law03_same (args2 ((ev_of (e3 22 (by kernel_rfl))).trans h3) (ev_of (e5 24 (by kernel_rfl)))) (by kernel_rfl) rb (cSame3 (show IsQt _ _ _ _ from (q7.below X)) (show IsQt _ _ _ _ from h5) (by omega) (by omega) (r := true) ⟨fun _ => by rw [HU.out, Rat.div_def, Rat.inv_zero, Rat.mul_zero], fun _ => rfl⟩) (fun _ _ _ h => h)
     ·refine rs_yes rfl rfl (by kernel_rfl) (by kernel_rfl : _ = some 21) (fun _ _ _ h => h) fun a wr S => ?_
      have X := undrew S.ext
      obtain ⟨v6, e6, h6⟩ := S.got 6 (by kernel_rfl)
      exact wp_not ((ev_of (e6 25 (by kernel_rfl))).trans h6) (done (by kernel_rfl) rbu_refl rfl)
     ·refine rs_plain rfl rfl fun a wr S => ?_
      have X := undrew S.ext
      obtain ⟨v2, e2, h2⟩ := S.got 2 (by kernel_rfl)
      obtain ⟨v7, e7, h7⟩ := S.got 7 (by kernel_rfl)
      exact wp_pickF ((ev_of (e2 21 (by kernel_rfl))).trans h2) ((ev_of (e7 26 (by kernel_rfl))).trans h7) (done (by kernel_rfl) rbu_refl rfl)
    ·intro fw5 w5 hR hv
     replace hR := undrew hR
     have f0 : fw5 0 = .int .i64 3 := (hvc (hv 0 (by omega))).elim fun _ h => h
     have f1 : fw5 1 = .bool false := (hvc (hv 1 (by omega))).elim fun _ h => h
     have f2 : fw5 2 = .bool false := (hvc (hv 2 (by omega))).elim fun _ h => h
     have f3 : fw5 3 = .agg #[.bool b7, .slice A7 n7 c7, .slice B7 m7 d7] := (hvc (hv 3 (by omega))).elim fun _ h => h
     have f4 : fw5 4 = .agg #[.bool false, .slice none 0 0, .slice none 0 0] := (hvc (hv 4 (by omega))).elim fun _ h => h
     have f6 : fw5 6 = .bool true := (hvc (hv 6 (by omega))).elim fun _ h => h
     have f7 : fw5 7 = .bool false := (hvc (hv 7 (by omega))).elim fun _ h => h
     have f8 : fw5 8 = .bool false := (hvc (hv 8 (by omega))).elim fun _ h => h
     simp only [putFn, Act.put, List.setIfInBounds_toArray, List.set_cons_zero, List.set_cons_succ, f0, f1, f2, f3, f4, f6, f7, f8]
     replace Xa := Xa.below hR
     replace Xb := Xb.below hR
     replace Qa := Qa.below hR
     replace Qb := Qb.below hR
     replace Ra := Ra.below hR
     replace Na := Na.below hR
     replace Rb := Rb.below hR
     replace Nb := Nb.below hR
     replace q7 := q7.below hR
     replace P7 := P7.below hR
     replace BB := bl_trans BB hR
     clear hR hv
     go_upto_region 8 with (fail)
     clear q7 P7
     refine wp_region_list (Ext := RB) (Rel := RBu) [fun v _ _ => v = .agg #[.bool sa, .slice Aa (min na 3) ca, .slice Ba (min ma 3) da], fun v _ _ => v = .bool ra, fun v _ _ => v = .agg #[.bool sa, .slice Aa (min na 3) ca, .slice Ba (min ma 3) da], fun v _ _ => v = .bool ra, fun v _ _ => v = .bool false, fun v _ _ => v = .bool false, fun v _ _ => v = .agg #[.bool sa, .slice Aa (min na 3) ca, .slice Ba (min ma 3) da], fun v _ w => IsQ (w5).heap.size w v (-qa) 3, fun v _ _ => v = .agg #[.bool sa, .slice Aa (min na 3) ca, .slice Ba (min ma 3) da], fun v _ w => IsQt w v (-qa) 3, fun v _ _ => v = .bool true, fun v _ _ => v = .bool false, fun v _ _ => v = .bool false, fun v _ _ => v = .bool false, fun v _ _ => v = .agg #[.bool sa, .slice Aa (min na 3) ca, .slice Ba (min ma 3) da], fun v _ _ => v = .agg #[.bool sb, .slice Ab (min nb 3) cb, .slice Bb (min mb 3) db], fun v _ w => IsQ (w5).heap.size w v (qa + qb) 7, fun v _ _ => v = .agg #[.bool sa, .slice Aa (min na 3) ca, .slice Ba (min ma 3) da], fun v _ _ => v = .agg #[.bool sb, .slice Ab (min nb 3) cb, .slice Bb (min mb 3) db], fun v _ w => IsQt w v (qa + qb) 7, fun v _ _ => v = .bool true, fun v _ _ => v = .bool false, fun v _ _ => v = .bool false, fun v _ _ => v = .bool false, fun v _ _ => v = .agg #[.bool sa, .slice Aa (min na 3) ca, .slice Ba (min ma 3) da], fun v _ _ => v = .agg #[.bool sb, .slice Ab (min nb 3) cb, .slice Bb (min mb 3) db], fun v _ w => IsQ (w5).heap.size w v (qa - qb) 7, fun v _ _ => v = .agg #[.bool sa, .slice Aa (min na 3) ca, .slice Ba (min ma 3) da], fun v _ _ => v = .agg #[.bool sb, .slice Ab (min nb 3) cb, .slice Bb (min mb 3) db], fun v _ w => IsQt w v (qa - qb) 7, fun v _ _ => v = .bool true, fun v _ _ => v = .bool false, fun v _ _ => v = .bool false, fun v _ _ => v = .bool false, fun v _ _ => v = .agg #[.bool sa, .slice Aa (min na 3) ca, .slice Ba (min ma 3) da], fun v _ _ => v = .agg #[.bool sb, .slice Ab (min nb 3) cb, .slice Bb (min mb 3) db], fun v _ w => IsQ (w5).heap.size w v (qa * qb) 6, fun v _ _ => v = .agg #[.bool sa, .slice Aa (min na 3) ca, .slice Ba (min ma 3) da], fun v _ _ => v = .agg #[.bool sb, .slice Ab (min nb 3) cb, .slice Bb (min mb 3) db], fun v _ w => IsQt w v (qa * qb) 6, fun v _ _ => v = .bool true, fun v _ _ => v = .bool false, fun v _ _ => v = .bool false] (n := 43) (by kernel_rfl) rfl (by kernel_rfl) (by kernel_rfl) (by kernel_rfl) (by kernel_rfl) (by kernel_rfl) rb_refl rb_trans ⟨sC, ⟨sC, ⟨sC, ⟨sC, ⟨sC, ⟨sC, ⟨sC, ⟨sQ, ⟨sC, ⟨sQt, ⟨sC, ⟨sC, ⟨sC, ⟨sC, ⟨sC, ⟨sC, ⟨sQ, ⟨sC, ⟨sC, ⟨sQt, ⟨sC, ⟨sC, ⟨sC, ⟨sC, ⟨sC, ⟨sC, ⟨sQ, ⟨sC, ⟨sC, ⟨sQt, ⟨sC, ⟨sC, ⟨sC, ⟨sC, ⟨sC, ⟨sC, ⟨sQ, ⟨sC, ⟨sC, ⟨sQt, ⟨sC, ⟨sC, ⟨sC, trivial⟩⟩⟩⟩⟩⟩⟩⟩⟩⟩⟩⟩⟩⟩⟩⟩⟩⟩⟩⟩⟩⟩⟩⟩⟩⟩⟩⟩⟩⟩⟩⟩⟩⟩⟩⟩⟩⟩⟩⟩⟩⟩⟩ ?_ ?_
     ·refine ⟨⟨⟨⟨⟨⟨⟨⟨⟨⟨⟨⟨⟨⟨⟨⟨⟨⟨⟨⟨⟨⟨⟨⟨⟨⟨⟨⟨⟨⟨⟨⟨⟨⟨⟨⟨⟨⟨⟨⟨⟨⟨⟨trivial, ?_⟩, ?_⟩, ?_⟩, ?_⟩, ?_⟩, ?_⟩, ?_⟩, ?_⟩, ?_⟩, ?_⟩, ?_⟩, ?_⟩, ?_⟩, ?_⟩, ?_⟩, ?_⟩, ?_⟩, ?_⟩, ?_⟩, ?_⟩, ?_⟩, ?_⟩, ?_⟩, ?_⟩, ?_⟩, ?_⟩, ?_⟩, ?_⟩, ?_⟩, ?_⟩, ?_⟩, ?_⟩, ?_⟩, ?_⟩, ?_⟩, ?_⟩, ?_⟩, ?_⟩, ?_⟩, ?_⟩, ?_⟩, ?_⟩, ?_⟩
      ·refine rs_plain rfl rfl fun a wr S => ?_
       have X := undrew S.ext
       exact wp_qload (ev_of ((S.old 2 (by kernel_rfl)).trans rfl)) (Xa.below X) (done (by kernel_rfl) rbu_refl rfl)
      ·refine rs_plain rfl rfl fun a wr S => ?_
       have X := undrew S.ext
       obtain ⟨v0, e0, h0⟩ := S.got 0 (by kernel_rfl)
       exact st_call cf_rat_Right (args1 ((ev_of (e0 38 (by kernel_rfl))).trans h0)) (by kernel_rfl) rb (cQRightI (Ra.below X) (by omega) HR1.out) (fun _ _ _ h => h)
      ·refine rs_plain rfl rfl fun a wr S => ?_
       have X := undrew S.ext
       exact wp_qload (ev_of ((S.old 2 (by kernel_rfl)).trans rfl)) (Xa.below X) (done (by kernel_rfl) rbu_refl rfl)
      ·refine rs_plain rfl rfl fun a wr S => ?_
       have X := undrew S.ext
       obtain ⟨v2, e2, h2⟩ := S.got 2 (by kernel_rfl)
       exact st_call cf_ref03_Right (args1 ((ev_of (e2 40 (by kernel_rfl))).trans h2)) (by kernel_rfl) rb (cRight3 (Ra.below X) (by omega) (by omega) (r := ra) HR1.out) (fun _ _ _ h => h)
      ·refine rs_plain rfl rfl fun a wr S => ?_
       have X := undrew S.ext
       obtain ⟨v1, e1, h1⟩ := S.got 1 (by kernel_rfl)
       obtain ⟨v3, e3, h3⟩ := S.got 3 (by kernel_rfl)
       exact wp_neB ((ev_of (e1 39 (by kernel_rfl))).trans h1) ((ev_of (e3 41 (by kernel_rfl))).trans h3) (done (by kernel_rfl) rbu_refl (congrArg Value.bool (bne_self_eq_false _)))
      ·refine rs_plain rfl rfl fun a wr S => ?_
       have X := undrew S.ext
       obtain ⟨v4, e4, h4⟩ := S.got 4 (by kernel_rfl)
       exact wp_mv ((ev_of (e4 42 (by kernel_rfl))).trans h4) (done (by kernel_rfl) rbu_refl rfl)
      ·refine rs_yes rfl rfl (by kernel_rfl) (by kernel_rfl : _ = some 43) (fun _ _ _ h => h) fun a wr S => ?_
       have X := undrew S.ext
       exact wp_qload (ev_of ((S.old 2 (by kernel_rfl)).trans rfl)) (Xa.below X) (done (by kernel_rfl) rbu_refl rfl)
      ·refine rs_yes rfl rfl (by kernel_rfl) (by kernel_rfl : _ = some 43) (fun _ _ _ h => h) fun a wr S => ?_
       have X := undrew S.ext
       obtain ⟨v6, e6, h6⟩ := S.got 6 (by kernel_rfl)
       exact st_call cf_rat_Neg (args1 ((ev_of (e6 44 (by kernel_rfl))).trans h6)) (by kernel_rfl) rb ((cQNeg (show IsQm _ _ _ _ from (Qa.below X)) (by omega) (by omega)).mono (ansQ_base X.size)) (fun _ _ _ h => h)
      ·refine rs_yes rfl rfl (by kernel_rfl) (by kernel_rfl : _ = some 43) (fun _ _ _ h => h) fun a wr S => ?_
       have X := undrew S.ext
       exact wp_qload (ev_of ((S.old 2 (by kernel_rfl)).trans rfl)) (Xa.below X) (done (by kernel_rfl) rbu_refl rfl)
      ·refine rs_yes rfl rfl (by kernel_rfl) (by kernel_rfl : _ = some 43) (fun _ _ _ h => h) fun a wr S => ?_
       have X := undrew S.ext
       obtain ⟨v8, e8, h8⟩ := S.got 8 (by kernel_rfl)
       exact st_call cf_ref03_Neg (args1 ((ev_of (e8 46 (by kernel_rfl))).trans h8)) (by kernel_rfl) rb (cNeg3 (show IsQm _ _ _ _ from (Qa.below X)) (by omega) (by omega)) (fun _ _ _ h => h)
      ·refine rs_yes rfl rfl (by kernel_rfl) (by kernel_rfl : _ = some 43) (fun _ _ _ h => h) fun a wr S => ?_
       have X := undrew S.ext
       obtain ⟨v7, e7, h7⟩ := S.got 7 (by kernel_rfl)
       obtain ⟨v9, e9, h9⟩ := S.got 9 (by kernel_rfl)
       exact st_call cf_law03_same (args2 (ev_of (e7 45 (by kernel_rfl))) (ev_of (e9 47 (by kernel_rfl)))) (by kernel_rfl) rb (cSame3 (show IsQt _ _ _ _ from h7.t) (show IsQt _ _ _ _ from h9) (by omega) (by omega) (r := true) ⟨fun _ => rfl, fun _ => rfl⟩) (fun _ _ _ h => h)
      ·refine rs_yes rfl rfl (by kernel_rfl) (by kernel_rfl : _ = some 43) (fun _ _ _ h => h) fun a wr S => ?_
       have X := undrew S.ext
       obtain ⟨v10, e10, h10⟩ := S.got 10 (by kernel_rfl)
       exact wp_not ((ev_of (e10 48 (by kernel_rfl))).trans h10) (done (by kernel_rfl) rbu_refl rfl)
      ·refine rs_plain rfl rfl fun a wr S => ?_
       have X := undrew S.ext
       obtain ⟨v5, e5, h5⟩ := S.got 5 (by kernel_rfl)
       obtain ⟨v11, e11, h11⟩ := S.got 11 (by kernel_rfl)
       exact wp_pickF ((ev_of (e5 43 (by kernel_rfl))).trans h5) ((ev_of (e11 49 (by kernel_rfl))).trans h11) (done (by kernel_rfl) rbu_refl rfl)
      ·refine rs_plain rfl rfl fun a wr S => ?_
       have X := undrew S.ext
       obtain ⟨v12, e12, h12⟩ := S.got 12 (by kernel_rfl)
       exact wp_mv ((ev_of (e12 50 (by kernel_rfl))).trans h12) (done (by kernel_rfl) rbu_refl rfl)
      ·refine rs_yes rfl rfl (by kernel_rfl) (by kernel_rfl : _ = some 51) (fun _ _ _ h => h) fun a wr S => ?_
       have X := undrew S.ext
       exact wp_qload (ev_of ((S.old 2 (by kernel_rfl)).trans rfl)) (Xa.below X) (done (by kernel_rfl) rbu_refl rfl)
      ·refine rs_yes rfl rfl (by kernel_rfl) (by kernel_rfl : _ = some 51) (fun _ _ _ h => h) fun a wr S => ?_
       have X := undrew S.ext
       exact wp_qload (ev_of ((S.old 3 (by kernel_rfl)).trans rfl)) (Xb.below X) (done (by kernel_rfl) rbu_refl rfl)
      ·refine rs_yes rfl rfl (by kernel_rfl) (by kernel_rfl : _ = some 51) (fun _ _ _ h => h) fun a wr S => ?_
       have X := undrew S.ext
       obtain ⟨v14, e14, h14⟩ := S.got 14 (by kernel_rfl)
       obtain ⟨v15, e15, h15⟩ := S.got 15 (by kernel_rfl)
       exact st_call cf_rat_Add (args2 ((ev_of (e14 52 (by kernel_rfl))).trans h14) ((ev_of (e15 53 (by kernel_rfl))).trans h15)) (by kernel_rfl) rb ((cQAdd (show IsQm _ _ _ _ from (Qa.below X)) (show IsQm _ _ _ _ from (Qb.below X)) (by omega) (by omega) (by omega) (by omega)).mono (ansQ_base X.size)) (fun _ _ _ h => h)
      ·refine rs_yes rfl rfl (by kernel_rfl) (by kernel_rfl : _ = some 51) (fun _ _ _ h => h) fun a wr S => ?_
       have X := undrew S.ext
       exact wp_qload (ev_of ((S.old 2 (by kernel_rfl)).trans rfl)) (Xa.below X) (done (by kernel_rfl) rbu_refl rfl)
      ·refine rs_yes rfl rfl (by kernel_rfl) (by kernel_rfl : _ = some 51) (fun _ _ _ h => h) fun a wr S => ?_
       have X := undrew S.ext
       exact wp_qload (ev_of ((S.old 3 (by kernel_rfl)).trans rfl)) (Xb.below X) (done (by kernel_rfl) rbu_refl rfl)
      ·refine rs_yes rfl rfl (by kernel_rfl) (by kernel_rfl : _ = some 51) (fun _ _ _ h => h) fun a wr S => ?_
       have X := undrew S.ext
       obtain ⟨v17, e17, h17⟩ := S.got 17 (by kernel_rfl)
       obtain ⟨v18, e18, h18⟩ := S.got 18 (by kernel_rfl)
       exact st_call cf_ref03_Add (args2 ((ev_of (e17 55 (by kernel_rfl))).trans h17) ((ev_of (e18 56 (by kernel_rfl))).trans h18)) (by kernel_rfl) rb (cAdd3 (show IsQm _ _ _ _ from (Qa.below X)) (show IsQm _ _ _ _ from (Qb.below X)) (by omega) (by omega) (by omega) (by omega)) (fun _ _ _ h => h)
      ·refine rs_yes rfl rfl (by kernel_rfl) (by kernel_rfl : _ = some 51) (fun _ _ _ h => h) fun a wr S => ?_
       have X := undrew S.ext
       obtain ⟨v16, e16, h16⟩ := S.got 16 (by kernel_rfl)
       obtain ⟨v19, e19, h19⟩ := S.got 19 (by kernel_rfl)
       exact st_call cf_law03_same (args2 (ev_of (e16 54 (by kernel_rfl))) (ev_of (e19 57 (by kernel_rfl)))) (by kernel_rfl) rb (cSame3 (show IsQt _ _ _ _ from h16.t) (show IsQt _ _ _ _ from h19) (by omega) (by omega) (r := true) ⟨fun _ => rfl, fun _ => rfl⟩) (fun _ _ _ h => h)
      ·refine rs_yes rfl rfl (by kernel_rfl) (by kernel_rfl : _ = some 51) (fun _ _ _ h => h) fun a wr S => ?_
       have X := undrew S.ext
       obtain ⟨v20, e20, h20⟩ := S.got 20 (by kernel_rfl)
       exact wp_not ((ev_of (e20 58 (by kernel_rfl))).trans h20) (done (by kernel_rfl) rbu_refl rfl)
      ·refine rs_plain rfl rfl fun a wr S => ?_
       have X := undrew S.ext
       obtain ⟨v13, e13, h13⟩ := S.got 13 (by kernel_rfl)
       obtain ⟨v21, e21, h21⟩ := S.got 21 (by kernel_rfl)
       exact wp_pickF ((ev_of (e13 51 (by kernel_rfl))).trans h13) ((ev_of (e21 59 (by kernel_rfl))).trans h21) (done (by kernel_rfl) rbu_refl rfl)
      ·refine rs_plain rfl rfl fun a wr S => ?_
       have X := undrew S.ext
       obtain ⟨v22, e22, h22⟩ := S.got 22 (by kernel_rfl)
       exact wp_mv ((ev_of (e22 60 (by kernel_rfl))).trans h22) (done (by kernel_rfl) rbu_refl rfl)
      ·refine rs_yes rfl rfl (by kernel_rfl) (by kernel_rfl : _ = some 61) (fun _ _ _ h => h) fun a wr S => ?_
       have X := undrew S.ext
       exact wp_qload (ev_of ((S.old 2 (by kernel_rfl)).trans rfl)) (Xa.below X) (done (by kernel_rfl) rbu_refl rfl)
      ·refine rs_yes rfl rfl (by kernel_rfl) (by kernel_rfl : _ = some 61) (fun _ _ _ h => h) fun a wr S => ?_
       have X := undrew S.ext
       exact wp_qload (ev_of ((S.old 3 (by kernel_rfl)).trans rfl)) (Xb.below X) (done (by kernel_rfl) rbu_refl rfl)
      ·refine rs_yes rfl rfl (by kernel_rfl) (by kernel_rfl : _ = some 61) (fun _ _ _ h => h) fun a wr S => ?_
       have X := undrew S.ext
       obtain ⟨v24, e24, h24⟩ := S.got 24 (by kernel_rfl)
       obtain ⟨v25, e25, h25⟩ := S.got 25 (by kernel_rfl)
       exact st_call cf_rat_Sub (args2 ((ev_of (e24 62 (by kernel_rfl))).trans h24) ((ev_of (e25 63 (by kernel_rfl))).trans h25)) (by kernel_rfl) rb ((cQSub (show IsQm _ _ _ _ from (Qa.below X)) (show IsQm _ _ _ _ from (Qb.below X)) (by omega) (by omega) (by omega) (by omega)).mono (ansQ_base X.size)) (fun _ _ _ h => h)
      ·refine rs_yes rfl rfl (by kernel_rfl) (by kernel_rfl : _ = some 61) (fun _ _ _ h => h) fun a wr S => ?_
       have X := undrew S.ext
       exact wp_qload (ev_of ((S.old 2 (by kernel_rfl)).trans rfl)) (Xa.below X) (done (by kernel_rfl) rbu_refl rfl)
      ·refine rs_yes rfl rfl (by kernel_rfl) (by kernel_rfl : _ = some 61) (fun _ _ _ h => h) fun a wr S => ?_
       have X := undrew S.ext
       exact wp_qload (ev_of ((S.old 3 (by kernel_rfl)).trans rfl)) (Xb.below X) (done (by kernel_rfl) rbu_refl rfl)
      ·refine rs_yes rfl rfl (by kernel_rfl) (by kernel_rfl : _ = some 61) (fun _ _ _ h => h) fun a wr S => ?_
       have X := undrew S.ext
       obtain ⟨v27, e27, h27⟩ := S.got 27 (by kernel_rfl)
       obtain ⟨v28, e28, h28⟩ := S.got 28 (by kernel_rfl)
       exact st_call cf_ref03_Sub (args2 ((ev_of (e27 65 (by kernel_rfl))).trans h27) ((ev_of (e28 66 (by kernel_rfl))).trans h28)) (by kernel_rfl) rb (cSub3 (show IsQm _ _ _ _ from (Qa.below X)) (show IsQm _ _ _ _ from (Qb.below X)) (by omega) (by omega) (by omega) (by omega)) (fun _ _ _ h => h)
      ·refine rs_yes rfl rfl (by kernel_rfl) (by kernel_rfl : _ = some 61) (fun _ _ _ h => h) fun a wr S => ?_
       have X := undrew S.ext
       obtain ⟨v26, e26, h26⟩ := S.got 26 (by kernel_rfl)
       obtain ⟨v29, e29, h29⟩ := S.got 29 (by kernel_rfl)
       exact st_call cf_law03_same (args2 (ev_of (e26 64 (by kernel_rfl))) (ev_of (e29 67 (by kernel_rfl)))) (by kernel_rfl) rb (cSame3 (show IsQt _ _ _ _ from h26.t) (show IsQt _ _ _ _ from h29) (by omega) (by omega) (r := true) ⟨fun _ => rfl, fun _ => rfl⟩) (fun _ _ _ h => h)
      ·refine rs_yes rfl rfl (by kernel_rfl) (by kernel_rfl : _ = some 61) (fun _ _ _ h => h) fun a wr S => ?_
       have X := undrew S.ext
       obtain ⟨v30, e30, h30⟩ := S.got 30 (by kernel_rfl)
       exact wp_not ((ev_of (e30 68 (by kernel_rfl))).trans h30) (done (by kernel_rfl) rbu_refl rfl)
      ·refine rs_plain rfl rfl fun a wr S => ?_
       have X := undrew S.ext
       obtain ⟨v23, e23, h23⟩ := S.got 23 (by kernel_rfl)
       obtain ⟨v31, e31, h31⟩ := S.got 31 (by kernel_rfl)
       exact wp_pickF ((ev_of (e23 61 (by kernel_rfl))).trans h23) ((ev_of (e31 69 (by kernel_rfl))).trans h31) (done (by kernel_rfl) rbu_refl rfl)
      ·refine rs_plain rfl rfl fun a wr S => ?_
       have X := undrew S.ext
       obtain ⟨v32, e32, h32⟩ := S.got 32 (by kernel_rfl)
       exact wp_mv ((ev_of (e32 70 (by kernel_rfl))).trans h32) (done (by kernel_rfl) rbu_refl rfl)
      ·refine rs_yes rfl rfl (by kernel_rfl) (by kernel_rfl : _ = some 71) (fun _ _ _ h => h) fun a wr S => ?_
       have X := undrew S.ext
       exact wp_qload (ev_of ((S.old 2 (by kernel_rfl)).trans rfl)) (Xa.below X) (done (by kernel_rfl) rbu_refl rfl)
      ·refine rs_yes rfl rfl (by kernel_rfl) (by kernel_rfl : _ = some 71) (fun _ _ _ h => h) fun a wr S => ?_
       have X := undrew S.ext
       exact wp_qload (ev_of ((S.old 3 (by kernel_rfl)).trans rfl)) (Xb.below X) (done (by kernel_rfl) rbu_refl rfl)
      ·refine rs_yes rfl rfl (by kernel_rfl) (by kernel_rfl : _ = some 71) (fun _ _ _ h => h) fun a wr S => ?_
       have X := undrew S.ext
       obtain ⟨v34, e34, h34⟩ := S.got 34 (by kernel_rfl)
       obtain ⟨v35, e35, h35⟩ := S.got 35 (by kernel_rfl)
       exact st_call cf_rat_Mul (args2 ((ev_of (e34 72 (by kernel_rfl))).trans h34) ((ev_of (e35 73 (by kernel_rfl))).trans h35)) (by kernel_rfl) rb ((cQMul (show IsQm _ _ _ _ from (Qa.below X)) (show IsQm _ _ _ _ from (Qb.below X)) (by omega) (by omega) (by omega) (by omega)).mono (ansQ_base X.size)) (fun _ _ _ h => h)
      ·refine rs_yes rfl rfl (by kernel_rfl) (by kernel_rfl : _ = some 71) (fun _ _ _ h => h) fun a wr S => ?_
       have X := undrew S.ext
       exact wp_qload (ev_of ((S.old 2 (by kernel_rfl)).trans rfl)) (Xa.below X) (done (by kernel_rfl) rbu_refl rfl)
      ·refine rs_yes rfl rfl (by kernel_rfl) (by kernel_rfl : _ = some 71) (fun _ _ _ h => h) fun a wr S => ?_
       have X := undrew S.ext
       exact wp_qload (ev_of ((S.old 3 (by kernel_rfl)).trans rfl)) (Xb.below X) (done (by kernel_rfl) rbu_refl rfl)
      ·refine rs_yes rfl rfl (by kernel_rfl) (by kernel_rfl : _ = some 71) (fun _ _ _ h => h) fun a wr S => ?_
       have X := undrew S.ext
       obtain ⟨v37, e37, h37⟩ := S.got 37 (by kernel_rfl)
       obtain ⟨v38, e38, h38⟩ := S.got 38 (by kernel_rfl)
       exact st_call cf_ref03_Mul (args2 ((ev_of (e37 75 (by kernel_rfl))).trans h37) ((ev_of (e38 76 (by kernel_rfl))).trans h38)) (by kernel_rfl) rb (cMul3 (show IsQm _ _ _ _ from (Qa.below X)) (show IsQm _ _ _ _ from (Qb.below X)) (by omega) (by omega) (by omega) (by omega)) (fun _ _ _ h => h)
      ·refine rs_yes rfl rfl (by kernel_rfl) (by kernel_rfl : _ = some 71) (fun _ _ _ h => h) fun a wr S => ?_
       have X := undrew S.ext
       obtain ⟨v36, e36, h36⟩ := S.got 36 (by kernel_rfl)
       obtain ⟨v39, e39, h39⟩ := S.got 39 (by kernel_rfl)
       exact st_call cf_law03_same (args2 (ev_of (e36 74 (by kernel_rfl))) (ev_of (e39 77 (by kernel_rfl)))) (by kernel_rfl) rb (cSame3 (show IsQt _ _ _ _ from h36.t) (show IsQt _ _ _ _ from h39) (by omega) (by omega) (r := true) ⟨fun _ => rfl, fun _ => rfl⟩) (fun _ _ _ h => h)
      ·refine rs_yes rfl rfl (by kernel_rfl) (by kernel_rfl : _ = some 71) (fun _ _ _ h => h) fun a wr S => ?_
       have X := undrew S.ext
       obtain ⟨v40, e40, h40⟩ := S.got 40 (by kernel_rfl)
       exact wp_not ((ev_of (e40 78 (by kernel_rfl))).trans h40) (done (by kernel_rfl) rbu_refl rfl)
      ·refine rs_plain rfl rfl fun a wr S => ?_
       have X := undrew S.ext
       obtain ⟨v33, e33, h33⟩ := S.got 33 (by kernel_rfl)
       obtain ⟨v41, e41, h41⟩ := S.got 41 (by kernel_rfl)
       exact wp_pickF ((ev_of (e33 71 (by kernel_rfl))).trans h33) ((ev_of (e41 79 (by kernel_rfl))).trans h41) (done (by kernel_rfl) rbu_refl rfl)
     ·intro fw6 w6 hR hv
      replace hR := undrew hR
      have f0 : fw6 0 = .agg #[.bool sa, .slice Aa (min na 3) ca, .slice Ba (min ma 3) da] := (hvc (hv 0 (by omega))).elim fun _ h => h
      have f1 : fw6 1 = .bool ra := (hvc (hv 1 (by omega))).elim fun _ h => h
      have f2 : fw6 2 = .agg #[.bool sa, .slice Aa (min na 3) ca, .slice Ba (min ma 3) da] := (hvc (hv 2 (by omega))).elim fun _ h => h
      have f3 : fw6 3 = .bool ra := (hvc (hv 3 (by omega))).elim fun _ h => h
      have f4 : fw6 4 = .bool false := (hvc (hv 4 (by omega))).elim fun _ h => h
      have f5 : fw6 5 = .bool false := (hvc (hv 5 (by omega))).elim fun _ h => h
      have f6 : fw6 6 = .agg #[.bool sa, .slice Aa (min na 3) ca, .slice Ba (min ma 3) da] := (hvc (hv 6 (by omega))).elim fun _ h => h
      have f8 : fw6 8 = .agg #[.bool sa, .slice Aa (min na 3) ca, .slice Ba (min ma 3) da] := (hvc (hv 8 (by omega))).elim fun _ h => h
      have f10 : fw6 10 = .bool true := (hvc (hv 10 (by omega))).elim fun _ h => h
      have f11 : fw6 11 = .bool false := (hvc (hv 11 (by omega))).elim fun _ h => h
      have f12 : fw6 12 = .bool false := (hvc (hv 12 (by omega))).elim fun _ h => h
      have f13 : fw6 13 = .bool false := (hvc (hv 13 (by omega))).elim fun _ h => h
      have f14 : fw6 14 = .agg #[.bool sa, .slice Aa (min na 3) ca, .slice Ba (min ma 3) da] := (hvc (hv 14 (by omega))).elim fun _ h => h
      have f15 : fw6 15 = .agg #[.bool sb, .slice Ab (min nb 3) cb, .slice Bb (min mb 3) db] := (hvc (hv 15 (by omega))).elim fun _ h => h
      have f17 : fw6 17 = .agg #[.bool sa, .slice Aa (min na 3) ca, .slice Ba (min ma 3) da] := (hvc (hv 17 (by omega))).elim fun _ h => h
      have f18 : fw6 18 = .agg #[.bool sb, .slice Ab (min nb 3) cb, .slice Bb (min mb 3) db] := (hvc (hv 18 (by omega))).elim fun _ h => h
      have f20 : fw6 20 = .bool true := (hvc (hv 20 (by omega))).elim fun _ h => h
      have f21 : fw6 21 = .bool false := (hvc (hv 21 (by omega))).elim fun _ h => h
      have f22 : fw6 22 = .bool false := (hvc (hv 22 (by omega))).elim fun _ h => h
      have f23 : fw6 23 = .bool false := (hvc (hv 23 (by omega))).elim fun _ h => h
      have f24 : fw6 24 = .agg #[.bool sa, .slice Aa (min na 3) ca, .slice Ba (min ma 3) da] := (hvc (hv 24 (by omega))).elim fun _ h => h
      have f25 : fw6 25 = .agg #[.bool sb, .slice Ab (min nb 3) cb, .slice Bb (min mb 3) db] := (hvc (hv 25 (by omega))).elim fun _ h => h
      have f27 : fw6 27 = .agg #[.bool sa, .slice Aa (min na 3) ca, .slice Ba (min ma 3) da] := (hvc (hv 27 (by omega))).elim fun _ h => h
      have f28 : fw6 28 = .agg #[.bool sb, .slice Ab (min nb 3) cb, .slice Bb (min mb 3) db] := (hvc (hv 28 (by omega))).elim fun _ h => h
      have f30 : fw6 30 = .bool true := (hvc (hv 30 (by omega))).elim fun _ h => h
      have f31 : fw6 31 = .bool false := (hvc (hv 31 (by omega))).elim fun _ h => h
      have f32 : fw6 32 = .bool false := (hvc (hv 32 (by omega))).elim fun _ h => h
      have f33 : fw6 33 = .bool false := (hvc (hv 33 (by omega))).elim fun _ h => h
      have f34 : fw6 34 = .agg #[.bool sa, .slice Aa (min na 3) ca, .slice Ba (min ma 3) da] := (hvc (hv 34 (by omega))).elim fun _ h => h
      have f35 : fw6 35 = .agg #[.bool sb, .slice Ab (min nb 3) cb, .slice Bb (min mb 3) db] := (hvc (hv 35 (by omega))).elim fun _ h => h
      have f37 : fw6 37 = .agg #[.bool sa, .slice Aa (min na 3) ca, .slice Ba (min ma 3) da] := (hvc (hv 37 (by omega))).elim fun _ h => h
      have f38 : fw6 38 = .agg #[.bool sb, .slice Ab (min nb 3) cb, .slice Bb (min mb 3) db] := (hvc (hv 38 (by omega))).elim fun _ h => h
      have f40 : fw6 40 = .bool true := (hvc (hv 40 (by omega))).elim fun _ h => h
      have f41 : fw6 41 = .bool false := (hvc (hv 41 (by omega))).elim fun _ h => h
      have f42 : fw6 42 = .bool false := (hvc (hv 42 (by omega))).elim fun _ h => h
      simp only [putFn, Act.put, List.setIfInBounds_toArray, List.set_cons_zero, List.set_cons_succ, f0, f1, f2, f3, f4, f5, f6, f8, f10, f11, f12, f13, f14, f15, f17, f18, f20, f21, f22, f23, f24, f25, f27, f28, f30, f31, f32, f33, f34, f35, f37, f38, f40, f41, f42]
      replace Xa := Xa.below hR
      replace Xb := Xb.below hR
      replace Qa := Qa.below hR
      replace Qb := Qb.below hR
      replace Ra := Ra.below hR
      replace Na := Na.below hR
      replace Rb := Rb.below hR
      replace Nb := Nb.below hR
      replace BB := bl_trans BB hR
      clear hR hv
      go_upto_region 10 with (fail)
      refine wp_region_list (Ext := RB) (Rel := RBu) [fun v _ _ => v = .agg #[.bool sa, .slice Aa (min na 3) ca, .slice Ba (min ma 3) da], fun v _ _ => v = .agg #[.bool sb, .slice Ab (min nb 3) cb, .slice Bb (min mb 3) db], fun v _ _ => v = .int .i64 c, fun v _ _ => v = .agg #[.bool sa, .slice Aa (min na 3) ca, .slice Ba (min ma 3) da], fun v _ _ => v = .agg #[.bool sb, .slice Ab (min nb 3) cb, .slice Bb (min mb 3) db], fun v _ _ => v = .int .i64 c, fun v _ _ => v = .bool true, fun v _ _ => v = .bool true, fun v _ _ => v = .agg #[.bool sa, .slice Aa (min na 3) ca, .slice Ba (min ma 3) da], fun v _ _ => v = .int .i64 s, fun v _ _ => v = .agg #[.bool sa, .slice Aa (min na 3) ca, .slice Ba (min ma 3) da], fun v _ _ => v = .int .i64 s, fun v _ _ => v = .bool true, fun v _ _ => v = .bool true, fun v _ _ => v = .bool true, fun v _ _ => v = .agg #[.bool sa, .slice Aa (min na 3) ca, .slice Ba (min ma 3) da], fun v _ w => IsZ (w6).heap.size w v (qa.floor) 4, fun v _ _ => v = .agg #[.bool sa, .slice Aa (min na 3) ca, .slice Ba (min ma 3) da], fun v _ w => IsT w v (qa.floor) 4, fun v _ _ => v = .bool true, fun v _ _ => v = .bool true, fun v _ _ => v = .bool true, fun v _ _ => v = .agg #[.bool sa, .slice Aa (min na 3) ca, .slice Ba (min ma 3) da], fun v _ w => IsZ (w6).heap.size w v (qa.ceil) 4, fun v _ _ => v = .agg #[.bool sa, .slice Aa (min na 3) ca, .slice Ba (min ma 3) da], fun v _ w => IsT w v (qa.ceil) 4, fun v _ _ => v = .bool true, fun v _ _ => v = .bool true, fun v _ _ => v = .bool true, fun v _ _ => v = .agg #[.bool sa, .slice Aa (min na 3) ca, .slice Ba (min ma 3) da], fun v _ _ => IsS v (txtQ qa), fun v _ _ => v = .agg #[.bool sa, .slice Aa (min na 3) ca, .slice Ba (min ma 3) da], fun v _ _ => IsS v (txtQ qa), fun v _ _ => v = .bool true, fun v _ _ => v = .bool true, fun v _ _ => v = .bool true, fun v _ _ => v = .bool true, fun v _ _ => v = .bool true, fun v _ _ => v = .bool true] (n := 39) (by kernel_rfl) rfl (by kernel_rfl) (by kernel_rfl) (by kernel_rfl) (by kernel_rfl) (by kernel_rfl) rb_refl rb_trans ⟨sC, ⟨sC, ⟨sC, ⟨sC, ⟨sC, ⟨sC, ⟨sC, ⟨sC, ⟨sC, ⟨sC, ⟨sC, ⟨sC, ⟨sC, ⟨sC, ⟨sC, ⟨sC, ⟨sZ, ⟨sC, ⟨sT, ⟨sC, ⟨sC, ⟨sC, ⟨sC, ⟨sZ, ⟨sC, ⟨sT, ⟨sC, ⟨sC, ⟨sC, ⟨sC, ⟨sS, ⟨sC, ⟨sS, ⟨sC, ⟨sC, ⟨sC, ⟨sC, ⟨sC, ⟨sC, trivial⟩⟩⟩⟩⟩⟩⟩⟩⟩⟩⟩⟩⟩⟩⟩⟩⟩⟩⟩⟩⟩⟩⟩⟩⟩⟩⟩⟩⟩⟩⟩⟩⟩⟩⟩⟩⟩⟩⟩ ?_ ?_
      ·refine ⟨⟨⟨⟨⟨⟨⟨⟨⟨⟨⟨⟨⟨⟨⟨⟨⟨⟨⟨⟨⟨⟨⟨⟨⟨⟨⟨⟨⟨⟨⟨⟨⟨⟨⟨⟨⟨⟨⟨trivial, ?_⟩, ?_⟩, ?_⟩, ?_⟩, ?_⟩, ?_⟩, ?_⟩, ?_⟩, ?_⟩, ?_⟩, ?_⟩, ?_⟩, ?_⟩, ?_⟩, ?_⟩, ?_⟩, ?_⟩, ?_⟩, ?_⟩, ?_⟩, ?_⟩, ?_⟩, ?_⟩, ?_⟩, ?_⟩, ?_⟩, ?_⟩, ?_⟩, ?_⟩, ?_⟩, ?_⟩, ?_⟩, ?_⟩, ?_⟩, ?_⟩, ?_⟩, ?_⟩, ?_⟩, ?_⟩
       ·refine rs_plain rfl rfl fun a wr S => ?_
        have X := undrew S.ext
        exact wp_qload (ev_of ((S.old 2 (by kernel_rfl)).trans rfl)) (Xa.below X) (done (by kernel_rfl) rbu_refl rfl)
       ·refine rs_plain rfl rfl fun a wr S => ?_
        have X := undrew S.ext
        exact wp_qload (ev_of ((S.old 3 (by kernel_rfl)).trans rfl)) (Xb.below X) (done (by kernel_rfl) rbu_refl rfl)
       ·refine rs_plain rfl rfl fun a wr S => ?_
        have X := undrew S.ext
        obtain ⟨v0, e0, h0⟩ := S.got 0 (by kernel_rfl)
        obtain ⟨v1, e1, h1⟩ := S.got 1 (by kernel_rfl)
        exact st_call cf_rat_Cmp (args2 ((ev_of (e0 81 (by kernel_rfl))).trans h0) ((ev_of (e1 82 (by kernel_rfl))).trans h1)) (by kernel_rfl) rb ((cQCmp (show IsQm _ _ _ _ from (Qa.below X)) (show IsQm _ _ _ _ from (Qb.below X)) (by omega) (by omega) (by omega) (by omega)).mono (ans_intW HC.out)) (fun _ _ _ h => h)
       ·refine rs_plain rfl rfl fun a wr S => ?_
        have X := undrew S.ext
        exact wp_qload (ev_of ((S.old 2 (by kernel_rfl)).trans rfl)) (Xa.below X) (done (by kernel_rfl) rbu_refl rfl)
       ·refine rs_plain rfl rfl fun a wr S => ?_
        have X := undrew S.ext
        exact wp_qload (ev_of ((S.old 3 (by kernel_rfl)).trans rfl)) (Xb.below X) (done (by kernel_rfl) rbu_refl rfl)
       ·refine rs_plain rfl rfl fun a wr S => ?_
        have X := undrew S.ext
        obtain ⟨v3, e3, h3⟩ := S.got 3 (by kernel_rfl)
        obtain ⟨v4, e4, h4⟩ := S.got 4 (by kernel_rfl)
        exact st_call cf_ref03_Cmp (args2 ((ev_of (e3 84 (by kernel_rfl))).trans h3) ((ev_of (e4 85 (by kernel_rfl))).trans h4)) (by kernel_rfl) rb ((cCmp3 (show IsQm _ _ _ _ from (Qa.below X)) (show IsQm _ _ _ _ from (Qb.below X)) (by omega) (by omega) (by omega) (by omega)).mono (ans_intW HC.out)) (fun _ _ _ h => h)
       ·refine rs_plain rfl rfl fun a wr S => ?_
        have X := undrew S.ext
        obtain ⟨v2, e2, h2⟩ := S.got 2 (by kernel_rfl)
        obtain ⟨v5, e5, h5⟩ := S.got 5 (by kernel_rfl)
        exact wp_eqI ((ev_of (e2 83 (by kernel_rfl))).trans h2) ((ev_of (e5 86 (by kernel_rfl))).trans h5) (Or.inl rfl) (done (by kernel_rfl) rbu_refl (congrArg Value.bool (beq_self_eq_true _)))
       ·refine rs_plain rfl rfl fun a wr S => ?_
        have X := undrew S.ext
        obtain ⟨v6, e6, h6⟩ := S.got 6 (by kernel_rfl)
        exact wp_mv ((ev_of (e6 87 (by kernel_rfl))).trans h6) (done (by kernel_rfl) rbu_refl rfl)
       ·refine rs_yes rfl rfl (by kernel_rfl) (by kernel_rfl : _ = some 88) (fun _ _ _ h => h) fun a wr S => ?_
        have X := undrew S.ext
        exact wp_qload (ev_of ((S.old 2 (by kernel_rfl)).trans rfl)) (Xa.below X) (done (by kernel_rfl) rbu_refl rfl)
       ·refine rs_yes rfl rfl (by kernel_rfl) (by kernel_rfl : _ = some 88) (fun _ _ _ h => h) fun a wr S => ?_
        have X := undrew S.ext
        obtain ⟨v8, e8, h8⟩ := S.got 8 (by kernel_rfl)
        exact st_call cf_rat_Sign (args1 ((ev_of (e8 89 (by kernel_rfl))).trans h8)) (by kernel_rfl) rb (cQSign (show IsQm _ _ _ _ from (Qa.below X)) (by omega) HS.out) (fun _ _ _ h => h)
       ·refine rs_yes rfl rfl (by kernel_rfl) (by kernel_rfl : _ = some 88) (fun _ _ _ h => h) fun a wr S => ?_
        have X := undrew S.ext
        exact wp_qload (ev_of ((S.old 2 (by kernel_rfl)).trans rfl)) (Xa.below X) (done (by kernel_rfl) rbu_refl rfl)
       ·refine rs_yes rfl rfl (by kernel_rfl) (by kernel_rfl : _ = some 88) (fun _ _ _ h => h) fun a wr S => ?_
        have X := undrew S.ext
        obtain ⟨v10, e10, h10⟩ := S.got 10 (by kernel_rfl)
        exact st_call cf_ref03_Sign (args1 ((ev_of (e10 91 (by kernel_rfl))).trans h10)) (by kernel_rfl) rb ((cSign3 (show IsQm _ _ _ _ from (Qa.below X)) (by omega)).mono (ans_intW HS.out)) (fun _ _ _ h => h)
       ·refine rs_yes rfl rfl (by kernel_rfl) (by kernel_rfl : _ = some 88) (fun _ _ _ h => h) fun a wr S => ?_
        have X := undrew S.ext
        obtain ⟨v9, e9, h9⟩ := S.got 9 (by kernel_rfl)
        obtain ⟨v11, e11, h11⟩ := S.got 11 (by kernel_rfl)
        exact wp_eqI ((ev_of (e9 90 (by kernel_rfl))).trans h9) ((ev_of (e11 92 (by kernel_rfl))).trans h11) (Or.inl rfl) (done (by kernel_rfl) rbu_refl (congrArg Value.bool (beq_self_eq_true _)))
       ·refine rs_plain rfl rfl fun a wr S => ?_
        have X := undrew S.ext
        obtain ⟨v7, e7, h7⟩ := S.got 7 (by kernel_rfl)
        obtain ⟨v12, e12, h12⟩ := S.got 12 (by kernel_rfl)
        exact wp_pickT ((ev_of (e7 88 (by kernel_rfl))).trans h7) ((ev_of (e12 93 (by kernel_rfl))).trans h12) (done (by kernel_rfl) rbu_refl rfl)
       ·refine rs_plain rfl rfl fun a wr S => ?_
        have X := undrew S.ext
        obtain ⟨v13, e13, h13⟩ := S.got 13 (by kernel_rfl)
        exact wp_mv ((ev_of (e13 94 (by kernel_rfl))).trans h13) (done (by kernel_rfl) rbu_refl rfl)
       ·refine rs_yes rfl rfl (by kernel_rfl) (by kernel_rfl : _ = some 95) (fun _ _ _ h => h) fun a wr S => ?_
        have X := undrew S.ext
        exact wp_qload (ev_of ((S.old 2 (by kernel_rfl)).trans rfl)) (Xa.below X) (done (by kernel_rfl) rbu_refl rfl)
       ·refine rs_yes rfl rfl (by kernel_rfl) (by kernel_rfl : _ = some 95) (fun _ _ _ h => h) fun a wr S => ?_
        have X := undrew S.ext
        obtain ⟨v15, e15, h15⟩ := S.got 15 (by kernel_rfl)
        exact st_call cf_rat_Floor (args1 ((ev_of (e15 96 (by kernel_rfl))).trans h15)) (by kernel_rfl) rb ((cQFloor (show IsQm _ _ _ _ from (Qa.below X)) (by omega) (by omega)).mono (ansZ_base X.size)) (fun _ _ _ h => h)
       ·refine rs_yes rfl rfl (by kernel_rfl) (by kernel_rfl : _ = some 95) (fun _ _ _ h => h) fun a wr S => ?_
        have X := undrew S.ext
        exact wp_qload (ev_of ((S.old 2 (by kernel_rfl)).trans rfl)) (Xa.below X) (done (by kernel_rfl) rbu_refl rfl)
       ·refine rs_yes rfl rfl (by kernel_rfl) (by kernel_rfl : _ = some 95) (fun _ _ _ h => h) fun a wr S => ?_
        have X := undrew S.ext
        obtain ⟨v17, e17, h17⟩ := S.got 17 (by kernel_rfl)
        exact st_call cf_ref03_Floor (args1 ((ev_of (e17 98 (by kernel_rfl))).trans h17)) (by kernel_rfl) rb (cFloor3 (show IsQm _ _ _ _ from (Qa.below X)) (by omega) (by omega)) (fun _ _ _ h => h)
       ·refine rs_yes rfl rfl (by kernel_rfl) (by kernel_rfl : _ = some 95) (fun _ _ _ h => h) fun a wr S => ?_
        have X := undrew S.ext
        obtain ⟨v16, e16, h16⟩ := S.got 16 (by kernel_rfl)
        obtain ⟨v18, e18, h18⟩ := S.got 18 (by kernel_rfl)
        exact st_call cf_ref03_SameInt (args2 (ev_of (e16 97 (by kernel_rfl))) (ev_of (e18 99 (by kernel_rfl)))) (by kernel_rfl) rb ((cSameInt h16.t h18 (by omega) (by omega)).mono (ansB (decide_eq_true rfl))) (fun _ _ _ h => h)
       ·refine rs_plain rfl rfl fun a wr S => ?_
        have X := undrew S.ext
        obtain ⟨v14, e14, h14⟩ := S.got 14 (by kernel_rfl)
        obtain ⟨v19, e19, h19⟩ := S.got 19 (by kernel_rfl)
        exact wp_pickT ((ev_of (e14 95 (by kernel_rfl))).trans h14) ((ev_of (e19 100 (by kernel_rfl))).trans h19) (done (by kernel_rfl) rbu_refl rfl)
       ·refine rs_plain rfl rfl fun a wr S => ?_
        have X := undrew S.ext
        obtain ⟨v20, e20, h20⟩ := S.got 20 (by kernel_rfl)
        exact wp_mv ((ev_of (e20 101 (by kernel_rfl))).trans h20) (done (by kernel_rfl) rbu_refl rfl)
       ·refine rs_yes rfl rfl (by kernel_rfl) (by kernel_rfl : _ = some 102) (fun _ _ _ h => h) fun a wr S => ?_
        have X := undrew S.ext
        exact wp_qload (ev_of ((S.old 2 (by kernel_rfl)).trans rfl)) (Xa.below X) (done (by kernel_rfl) rbu_refl rfl)
       ·refine rs_yes rfl rfl (by kernel_rfl) (by kernel_rfl : _ = some 102) (fun _ _ _ h => h) fun a wr S => ?_
        have X := undrew S.ext
        obtain ⟨v22, e22, h22⟩ := S.got 22 (by kernel_rfl)
        exact st_call cf_rat_Ceil (args1 ((ev_of (e22 103 (by kernel_rfl))).trans h22)) (by kernel_rfl) rb ((cQCeil (show IsQm _ _ _ _ from (Qa.below X)) (by omega) (by omega)).mono (ansZ_base X.size)) (fun _ _ _ h => h)
       ·refine rs_yes rfl rfl (by kernel_rfl) (by kernel_rfl : _ = some 102) (fun _ _ _ h => h) fun a wr S => ?_
        have X := undrew S.ext
        exact wp_qload (ev_of ((S.old 2 (by kernel_rfl)).trans rfl)) (Xa.below X) (done (by kernel_rfl) rbu_refl rfl)
       ·refine rs_yes rfl rfl (by kernel_rfl) (by kernel_rfl : _ = some 102) (fun _ _ _ h => h) fun a wr S => ?_
        have X := undrew S.ext
        obtain ⟨v24, e24, h24⟩ := S.got 24 (by kernel_rfl)
        exact st_call cf_ref03_Ceil (args1 ((ev_of (e24 105 (by kernel_rfl))).trans h24)) (by kernel_rfl) rb (cCeil3 (show IsQm _ _ _ _ from (Qa.below X)) (by omega) (by omega)) (fun _ _ _ h => h)
       ·refine rs_yes rfl rfl (by kernel_rfl) (by kernel_rfl : _ = some 102) (fun _ _ _ h => h) fun a wr S => ?_
        have X := undrew S.ext
        obtain ⟨v23, e23, h23⟩ := S.got 23 (by kernel_rfl)
        obtain ⟨v25, e25, h25⟩ := S.got 25 (by kernel_rfl)
        exact st_call cf_ref03_SameInt (args2 (ev_of (e23 104 (by kernel_rfl))) (ev_of (e25 106 (by kernel_rfl)))) (by kernel_rfl) rb ((cSameInt h23.t h25 (by omega) (by omega)).mono (ansB (decide_eq_true rfl))) (fun _ _ _ h => h)
       ·refine rs_plain rfl rfl fun a wr S => ?_
        have X := undrew S.ext
        obtain ⟨v21, e21, h21⟩ := S.got 21 (by kernel_rfl)
        obtain ⟨v26, e26, h26⟩ := S.got 26 (by kernel_rfl)
        exact wp_pickT ((ev_of (e21 102 (by kernel_rfl))).trans h21) ((ev_of (e26 107 (by kernel_rfl))).trans h26) (done (by kernel_rfl) rbu_refl rfl)
       ·refine rs_plain rfl rfl fun a wr S => ?_
        have X := undrew S.ext
        obtain ⟨v27, e27, h27⟩ := S.got 27 (by kernel_rfl)
        exact wp_mv ((ev_of (e27 108 (by kernel_rfl))).trans h27) (done (by kernel_rfl) rbu_refl rfl)
       ·refine rs_yes rfl rfl (by kernel_rfl) (by kernel_rfl : _ = some 109) (fun _ _ _ h => h) fun a wr S => ?_
        have X := undrew S.ext
        exact wp_qload (ev_of ((S.old 2 (by kernel_rfl)).trans rfl)) (Xa.below X) (done (by kernel_rfl) rbu_refl rfl)
       ·refine rs_yes rfl rfl (by kernel_rfl) (by kernel_rfl : _ = some 109) (fun _ _ _ h => h) fun a wr S => ?_
        have X := undrew S.ext
        obtain ⟨v29, e29, h29⟩ := S.got 29 (by kernel_rfl)
        exact st_call cf_rat_Text (args1 ((ev_of (e29 110 (by kernel_rfl))).trans h29)) (by kernel_rfl) rb (cQText (show IsQm _ _ _ _ from (Qa.below X)) (by omega) (by omega)) (fun _ _ _ h => h)
       ·refine rs_yes rfl rfl (by kernel_rfl) (by kernel_rfl : _ = some 109) (fun _ _ _ h => h) fun a wr S => ?_
        have X := undrew S.ext
        exact wp_qload (ev_of ((S.old 2 (by kernel_rfl)).trans rfl)) (Xa.below X) (done (by kernel_rfl) rbu_refl rfl)
       ·refine rs_yes rfl rfl (by kernel_rfl) (by kernel_rfl : _ = some 109) (fun _ _ _ h => h) fun a wr S => ?_
        have X := undrew S.ext
        obtain ⟨v31, e31, h31⟩ := S.got 31 (by kernel_rfl)
        exact st_call cf_ref03_Text (args1 ((ev_of (e31 112 (by kernel_rfl))).trans h31)) (by kernel_rfl) rb (cText3 (show IsQm _ _ _ _ from (Qa.below X)) (by omega) (by omega)) (fun _ _ _ h => h)
       ·refine rs_yes rfl rfl (by kernel_rfl) (by kernel_rfl : _ = some 109) (fun _ _ _ h => h) fun a wr S => ?_
        have X := undrew S.ext
        obtain ⟨v30, e30, h30⟩ := S.got 30 (by kernel_rfl)
        obtain ⟨v32, e32, h32⟩ := S.got 32 (by kernel_rfl)
        obtain ⟨sx, hsx, bsx⟩ := (show IsS _ _ from h30)
        obtain ⟨sy, hsy, bsy⟩ := (show IsS _ _ from h32)
        exact wp_eqS ((ev_of (e30 111 (by kernel_rfl))).trans hsx) ((ev_of (e32 113 (by kernel_rfl))).trans hsy) (done (by kernel_rfl) rbu_refl (congrArg Value.bool ((eqQ bsx bsy).trans (decide_eq_true rfl))))
       ·refine rs_plain rfl rfl fun a wr S => ?_
        have X := undrew S.ext
        obtain ⟨v28, e28, h28⟩ := S.got 28 (by kernel_rfl)
        obtain ⟨v33, e33, h33⟩ := S.got 33 (by kernel_rfl)
        exact wp_pickT ((ev_of (e28 109 (by kernel_rfl))).trans h28) ((ev_of (e33 114 (by kernel_rfl))).trans h33) (done (by kernel_rfl) rbu_refl rfl)
       ·refine rs_plain rfl rfl fun a wr S => ?_
        have X := undrew S.ext
        obtain ⟨v34, e34, h34⟩ := S.got 34 (by kernel_rfl)
        exact wp_mv ((ev_of (e34 115 (by kernel_rfl))).trans h34) (done (by kernel_rfl) rbu_refl rfl)
       ·refine rs_yes rfl rfl (by kernel_rfl) (by kernel_rfl : _ = some 116) (fun _ _ _ h => h) fun a wr S => ?_
        have X := undrew S.ext
        exact st_call cf_law03_works (show (#[] : Array Operand).map a.eval = #[] by simp) (by kernel_rfl) rb (cWorks3 _) (fun _ _ _ h => h)
       ·refine rs_plain rfl rfl fun a wr S => ?_
        have X := undrew S.ext
        obtain ⟨v35, e35, h35⟩ := S.got 35 (by kernel_rfl)
        obtain ⟨v36, e36, h36⟩ := S.got 36 (by kernel_rfl)
        exact wp_pickT ((ev_of (e35 116 (by kernel_rfl))).trans h35) ((ev_of (e36 117 (by kernel_rfl))).trans h36) (done (by kernel_rfl) rbu_refl rfl)
       ·refine rs_plain rfl rfl fun a wr S => ?_
        have X := undrew S.ext
        obtain ⟨v37, e37, h37⟩ := S.got 37 (by kernel_rfl)
        exact wp_as ((ev_of (e37 118 (by kernel_rfl))).trans h37) (done (by kernel_rfl) rbu_refl rfl)
      ·intro fw7 w7 hR hv
       replace hR := undrew hR
       have f0 : fw7 0 = .agg #[.bool sa, .slice Aa (min na 3) ca, .slice Ba (min ma 3) da] := (hvc (hv 0 (by omega))).elim fun _ h => h
       have f1 : fw7 1 = .agg #[.bool sb, .slice Ab (min nb 3) cb, .slice Bb (min mb 3) db] := (hvc (hv 1 (by omega))).elim fun _ h => h
       have f2 : fw7 2 = .int .i64 c := (hvc (hv 2 (by omega))).elim fun _ h => h
       have f3 : fw7 3 = .agg #[.bool sa, .slice Aa (min na 3) ca, .slice Ba (min ma 3) da] := (hvc (hv 3 (by omega))).elim fun _ h => h
       have f4 : fw7 4 = .agg #[.bool sb, .slice Ab (min nb 3) cb, .slice Bb (min mb 3) db] := (hvc (hv 4 (by omega))).elim fun _ h => h
       have f5 : fw7 5 = .int .i64 c := (hvc (hv 5 (by omega))).elim fun _ h => h
       have f6 : fw7 6 = .bool true := (hvc (hv 6 (by omega))).elim fun _ h => h
       have f7 : fw7 7 = .bool true := (hvc (hv 7 (by omega))).elim fun _ h => h
       have f8 : fw7 8 = .agg #[.bool sa, .slice Aa (min na 3) ca, .slice Ba (min ma 3) da] := (hvc (hv 8 (by omega))).elim fun _ h => h
       have f9 : fw7 9 = .int .i64 s := (hvc (hv 9 (by omega))).elim fun _ h => h
       have f10 : fw7 10 = .agg #[.bool sa, .slice Aa (min na 3) ca, .slice Ba (min ma 3) da] := (hvc (hv 10 (by omega))).elim fun _ h => h
       have f11 : fw7 11 = .int .i64 s := (hvc (hv 11 (by omega))).elim fun _ h => h
       have f12 : fw7 12 = .bool true := (hvc (hv 12 (by omega))).elim fun _ h => h
       have f13 : fw7 13 = .bool true := (hvc (hv 13 (by omega))).elim fun _ h => h
       have f14 : fw7 14 = .bool true := (hvc (hv 14 (by omega))).elim fun _ h => h
       have f15 : fw7 15 = .agg #[.bool sa, .slice Aa (min na 3) ca, .slice Ba (min ma 3) da] := (hvc (hv 15 (by omega))).elim fun _ h => h
       have f17 : fw7 17 = .agg #[.bool sa, .slice Aa (min na 3) ca, .slice Ba (min ma 3) da] := (hvc (hv 17 (by omega))).elim fun _ h => h
       have f19 : fw7 19 = .bool true := (hvc (hv 19 (by omega))).elim fun _ h => h
       have f20 : fw7 20 = .bool true := (hvc (hv 20 (by omega))).elim fun _ h => h
       have f21 : fw7 21 = .bool true := (hvc (hv 21 (by omega))).elim fun _ h => h
       have f22 : fw7 22 = .agg #[.bool sa, .slice Aa (min na 3) ca, .slice Ba (min ma 3) da] := (hvc (hv 22 (by omega))).elim fun _ h => h
       have f24 : fw7 24 = .agg #[.bool sa, .slice Aa (min na 3) ca, .slice Ba (min ma 3) da] := (hvc (hv 24 (by omega))).elim fun _ h => h
       have f26 : fw7 26 = .bool true := (hvc (hv 26 (by omega))).elim fun _ h => h
       have f27 : fw7 27 = .bool true := (hvc (hv 27 (by omega))).elim fun _ h => h
       have f28 : fw7 28 = .bool true := (hvc (hv 28 (by omega))).elim fun _ h => h
       have f29 : fw7 29 = .agg #[.bool sa, .slice Aa (min na 3) ca, .slice Ba (min ma 3) da] := (hvc (hv 29 (by omega))).elim fun _ h => h
       have f31 : fw7 31 = .agg #[.bool sa, .slice Aa (min na 3) ca, .slice Ba (min ma 3) da] := (hvc (hv 31 (by omega))).elim fun _ h => h
       have f33 : fw7 33 = .bool true := (hvc (hv 33 (by omega))).elim fun _ h => h
       have f34 : fw7 34 = .bool true := (hvc (hv 34 (by omega))).elim fun _ h => h
       have f35 : fw7 35 = .bool true := (hvc (hv 35 (by omega))).elim fun _ h => h
       have f36 : fw7 36 = .bool true := (hvc (hv 36 (by omega))).elim fun _ h => h
       have f37 : fw7 37 = .bool true := (hvc (hv 37 (by omega))).elim fun _ h => h
       have f38 : fw7 38 = .bool true := (hvc (hv 38 (by omega))).elim fun _ h => h
       simp only [putFn, Act.put, List.setIfInBounds_toArray, List.set_cons_zero, List.set_cons_succ, f0, f1, f2, f3, f4, f5, f6, f7, f8, f9, f10, f11, f12, f13, f14, f15, f17, f19, f20, f21, f22, f24, f26, f27, f28, f29, f31, f33, f34, f35, f36, f37, f38]
       replace Xa := Xa.below hR
       replace Xb := Xb.below hR
       replace Qa := Qa.below hR
       replace Qb := Qb.below hR
       replace Ra := Ra.below hR
       replace Na := Na.below hR
       replace Rb := Rb.below hR
       replace Nb := Nb.below hR
       replace BB := bl_trans BB hR
       clear hR hv
       go_wp2_with fail
       go_ret
       exact ⟨rfl, BB⟩
  ·have HU := Lib.hid hu
   clear hu
   have EO := Lib.hid (show eQ qb = 0 from if_neg HU.out)
   refine (cQDiv Qa Qb (by omega) (by omega) (by omega) (by omega)).mono ?_
   rw [EO.out]
   rintro e w8 ⟨_, rfl, hb, b7, A7, n7, c7, B7, m7, d7, rfl, q7⟩
   replace Xa := Xa.below hb
   replace Xb := Xb.below hb
   replace Qa := Qa.below hb
   replace Qb := Qb.below hb
   replace Ra := Ra.below hb
   replace Na := Na.below hb
   replace Rb := Rb.below hb
   replace Nb := Nb.below hb
   replace BB := bl_trans BB hb
   clear hb
   replace q7 := q7.t
   have OO := bl_alloc w8 (.cells #[.bool b7, .slice A7 n7 c7, .slice B7 m7 d7] 26)
   have P7 := Bq.new w8 b7 A7 n7 c7 B7 m7 d7
   replace Xa := Xa.below OO
   replace Xb := Xb.below OO
   replace Qa := Qa.below OO
   replace Qb := Qb.below OO
   replace Ra := Ra.below OO
   replace Na := Na.below OO
   replace Rb := Rb.below OO
   replace Nb := Nb.below OO
   replace q7 := q7.below OO
   replace BB := bl_trans BB OO
   clear OO
   go_upto_region 3 with (fail)
   generalize w8.alloc _ = w9 at Xa Xb Qa Qb Ra Na Rb Nb q7 P7 BB ⊢
   refine wp_seq 2 ?_
   simp only [List.take_succ_cons, List.take_zero, List.drop_succ_cons, List.drop_zero]
   refine wp_seq_list (Ext := RB) (Rel := RBu) [fun v _ _ => v = .agg #[.bool sb, .slice Ab (min nb 3) cb, .slice Bb (min mb 3) db], fun v _ _ => v = .bool false] (n := 2) (by kernel_rfl) (by kernel_rfl) (by kernel_rfl) (by kernel_rfl) (by kernel_rfl) (by kernel_rfl) (by kernel_rfl) rb_refl rb_trans ⟨sC, ⟨sC, trivial⟩⟩ ?_ ?_
   ·refine ⟨⟨trivial, ?_⟩, ?_⟩
    ·refine rs_plain rfl rfl fun a wr S => ?_
     have X := rbX S.ext
     exact wp_qload (ev_of ((S.old 3 (by kernel_rfl)).trans rfl)) (Xb.below X) (done (by kernel_rfl) rbu_refl rfl)
    ·refine rs_plain rfl rfl fun a wr S => ?_
     have X := rbX S.ext
     obtain ⟨v0, e0, h0⟩ := S.got 0 (by kernel_rfl)
     exact st_call cf_ref03_Zero (args1 ((ev_of (e0 17 (by kernel_rfl))).trans h0)) (by kernel_rfl) rb ((cZero3 (show IsQm _ _ _ _ from (Qb.below X)) (by omega)).mono (ansB (decide_eq_false HU.out))) (fun _ _ _ h => h)
   ·intro fw10 w10 hR hv hap
    clear hap
    replace hR := rbX hR
    have f0 : fw10 0 = .agg #[.bool sb, .slice Ab (min nb 3) cb, .slice Bb (min mb 3) db] := (hvc (hv 0 (by omega))).elim fun _ h => h
    have f1 : fw10 1 = .bool false := (hvc (hv 1 (by omega))).elim fun _ h => h
    simp only [putFn, Act.put, List.setIfInBounds_toArray, List.set_cons_zero, List.set_cons_succ, f0, f1]
    replace Xa := Xa.below hR
    replace Xb := Xb.below hR
    replace Qa := Qa.below hR
    replace Qb := Qb.below hR
    replace Ra := Ra.below hR
    replace Na := Na.below hR
    replace Rb := Rb.below hR
    replace Nb := Nb.below hR
    replace q7 := q7.below hR
    replace P7 := P7.below hR
    replace BB := bl_trans BB hR
    clear hR hv
    go_upto_region 6 with (fail)
    refine wp_region_list (Ext := RB) (Rel := RBu) [fun v _ _ => v = .int .i64 0, fun v _ _ => v = .bool false, fun v _ _ => v = .bool false, fun v _ _ => v = .agg #[.bool b7, .slice A7 n7 c7, .slice B7 m7 d7], fun v _ _ => v = .agg #[.bool sa, .slice Aa (min na 3) ca, .slice Ba (min ma 3) da], fun v _ _ => v = .agg #[.bool sb, .slice Ab (min nb 3) cb, .slice Bb (min mb 3) db], fun v _ w => IsQt w v (qa / qb) 6, fun v _ _ => v = .bool true, fun v _ _ => v = .bool false, fun v _ _ => v = .bool false] (n := 10) (by kernel_rfl) rfl (by kernel_rfl) (by kernel_rfl) (by kernel_rfl) (by kernel_rfl) (by kernel_rfl) rb_refl rb_trans ⟨sC, ⟨sC, ⟨sC, ⟨sC, ⟨sC, ⟨sC, ⟨sQt, ⟨sC, ⟨sC, ⟨sC, trivial⟩⟩⟩⟩⟩⟩⟩⟩⟩⟩ ?_ ?_
    ·refine ⟨⟨⟨⟨⟨⟨⟨⟨⟨⟨trivial, ?_⟩, ?_⟩, ?_⟩, ?_⟩, ?_⟩, ?_⟩, ?_⟩, ?_⟩, ?_⟩, ?_⟩
     ·refine rs_plain rfl rfl fun a wr S => ?_
      have X := undrew S.ext
      exact wp_mv (ev_of ((S.old 6 (by kernel_rfl)).trans rfl)) (done (by kernel_rfl) rbu_refl rfl)
     ·refine rs_plain rfl rfl fun a wr S => ?_
      have X := undrew S.ext
      obtain ⟨v0, e0, h0⟩ := S.got 0 (by kernel_rfl)
      exact wp_neI ((ev_of (e0 28 (by kernel_rfl))).trans h0) rfl (Or.inr rfl) (done (by kernel_rfl) rbu_refl (congrArg Value.bool (by decide)))
     ·refine rs_plain rfl rfl fun a wr S => ?_
      have X := undrew S.ext
      obtain ⟨v1, e1, h1⟩ := S.got 1 (by kernel_rfl)
      exact wp_mv ((ev_of (e1 29 (by kernel_rfl))).trans h1) (done (by kernel_rfl) rbu_refl rfl)
     ·refine rs_yes rfl rfl (by kernel_rfl) (by kernel_rfl : _ = some 30) (fun _ _ _ h => h) fun a wr S => ?_
      have X := undrew S.ext
      exact wp_qload (ev_of ((S.old 5 (by kernel_rfl)).trans rfl)) (P7.below X) (done (by kernel_rfl) rbu_refl rfl)
     ·refine rs_yes rfl rfl (by kernel_rfl) (by kernel_rfl : _ = some 30) (fun _ _ _ h => h) fun a wr S => ?_
      have X := undrew S.ext
      exact wp_qload (ev_of ((S.old 2 (by kernel_rfl)).trans rfl)) (Xa.below X) (done (by kernel_rfl) rbu_refl rfl)
     ·refine rs_yes rfl rfl (by kernel_rfl) (by kernel_rfl : _ = some 30) (fun _ _ _ h => h) fun a wr S => ?_
      have X := undrew S.ext
      exact wp_qload (ev_of ((S.old 3 (by kernel_rfl)).trans rfl)) (Xb.below X) (done (by kernel_rfl) rbu_refl rfl)
     ·refine rs_yes rfl rfl (by kernel_rfl) (by kernel_rfl : _ = some 30) (fun _ _ _ h => h) fun a wr S => ?_
      have X := undrew S.ext
      obtain ⟨v4, e4, h4⟩ := S.got 4 (by kernel_rfl)
      obtain ⟨v5, e5, h5⟩ := S.got 5 (by kernel_rfl)
      exact st_call cf_ref03_Div (args2 ((ev_of (e4 32 (by kernel_rfl))).trans h4) ((ev_of (e5 33 (by kernel_rfl))).trans h5)) (by kernel_rfl) rb (cDiv3 (show IsQm _ _ _ _ from (Qa.below X)) (show IsQm _ _ _ _ from (Qb.below X)) (by omega) (by omega) (by omega) (by omega) HU.out) (fun _ _ _ h => h)
     ·refine rs_yes rfl rfl (by kernel_rfl) (by kernel_rfl : _ = some 30) (fun _ _ _ h => h) fun a wr S => ?_
      have X := undrew S.ext
      obtain ⟨v3, e3, h3⟩ := S.got 3 (by kernel_rfl)
      obtain ⟨v6, e6, h6⟩ := S.got 6 (by kernel_rfl)
      exact st_call cf_law03_same (args2 ((ev_of (e3 31 (by kernel_rfl))).trans h3) (ev_of (e6 34 (by kernel_rfl)))) (by kernel_rfl) rb (cSame3 (show IsQt _ _ _ _ from (q7.below X)) (show IsQt _ _ _ _ from h6) (by omega) (by omega) (r := true) ⟨fun _ => rfl, fun _ => rfl⟩) (fun _ _ _ h => h)
     ·refine rs_yes rfl rfl (by kernel_rfl) (by kernel_rfl : _ = some 30) (fun _ _ _ h => h) fun a wr S => ?_
      have X := undrew S.ext
      obtain ⟨v7, e7, h7⟩ := S.got 7 (by kernel_rfl)
      exact wp_not ((ev_of (e7 35 (by kernel_rfl))).trans h7) (done (by kernel_rfl) rbu_refl rfl)
     ·refine rs_plain rfl rfl fun a wr S => ?_
      have X := undrew S.ext
      obtain ⟨v2, e2, h2⟩ := S.got 2 (by kernel_rfl)
      obtain ⟨v8, e8, h8⟩ := S.got 8 (by kernel_rfl)
      exact wp_pickF ((ev_of (e2 30 (by kernel_rfl))).trans h2) ((ev_of (e8 36 (by kernel_rfl))).trans h8) (done (by kernel_rfl) rbu_refl rfl)
    ·intro fw11 w11 hR hv
     replace hR := undrew hR
     have f0 : fw11 0 = .int .i64 0 := (hvc (hv 0 (by omega))).elim fun _ h => h
     have f1 : fw11 1 = .bool false := (hvc (hv 1 (by omega))).elim fun _ h => h
     have f2 : fw11 2 = .bool false := (hvc (hv 2 (by omega))).elim fun _ h => h
     have f3 : fw11 3 = .agg #[.bool b7, .slice A7 n7 c7, .slice B7 m7 d7] := (hvc (hv 3 (by omega))).elim fun _ h => h
     have f4 : fw11 4 = .agg #[.bool sa, .slice Aa (min na 3) ca, .slice Ba (min ma 3) da] := (hvc (hv 4 (by omega))).elim fun _ h => h
     have f5 : fw11 5 = .agg #[.bool sb, .slice Ab (min nb 3) cb, .slice Bb (min mb 3) db] := (hvc (hv 5 (by omega))).elim fun _ h => h
     have f7 : fw11 7 = .bool true := (hvc (hv 7 (by omega))).elim fun _ h => h
     have f8 : fw11 8 = .bool false := (hvc (hv 8 (by omega))).elim fun _ h => h
     have f9 : fw11 9 = .bool false := (hvc (hv 9 (by omega))).elim fun _ h => h
     simp only [putFn, Act.put, List.setIfInBounds_toArray, List.set_cons_zero, List.set_cons_succ, f0, f1, f2, f3, f4, f5, f7, f8, f9]
     replace Xa := Xa.below hR
     replace Xb := Xb.below hR
     replace Qa := Qa.below hR
     replace Qb := Qb.below hR
     replace Ra := Ra.below hR
     replace Na := Na.below hR
     replace Rb := Rb.below hR
     replace Nb := Nb.below hR
     replace q7 := q7.below hR
     replace P7 := P7.below hR
     replace BB := bl_trans BB hR
     clear hR hv
     go_upto_region 8 with (fail)
     clear q7 P7
     refine wp_region_list (Ext := RB) (Rel := RBu) [fun v _ _ => v = .agg #[.bool sa, .slice Aa (min na 3) ca, .slice Ba (min ma 3) da], fun v _ _ => v = .bool ra, fun v _ _ => v = .agg #[.bool sa, .slice Aa (min na 3) ca, .slice Ba (min ma 3) da], fun v _ _ => v = .bool ra, fun v _ _ => v = .bool false, fun v _ _ => v = .bool false, fun v _ _ => v = .agg #[.bool sa, .slice Aa (min na 3) ca, .slice Ba (min ma 3) da], fun v _ w => IsQ (w11).heap.size w v (-qa) 3, fun v _ _ => v = .agg #[.bool sa, .slice Aa (min na 3) ca, .slice Ba (min ma 3) da], fun v _ w => IsQt w v (-qa) 3, fun v _ _ => v = .bool true, fun v _ _ => v = .bool false, fun v _ _ => v = .bool false, fun v _ _ => v = .bool false, fun v _ _ => v = .agg #[.bool sa, .slice Aa (min na 3) ca, .slice Ba (min ma 3) da], fun v _ _ => v = .agg #[.bool sb, .slice Ab (min nb 3) cb, .slice Bb (min mb 3) db], fun v _ w => IsQ (w11).heap.size w v (qa + qb) 7, fun v _ _ => v = .agg #[.bool sa, .slice Aa (min na 3) ca, .slice Ba (min ma 3) da], fun v _ _ => v = .agg #[.bool sb, .slice Ab (min nb 3) cb, .slice Bb (min mb 3) db], fun v _ w => IsQt w v (qa + qb) 7, fun v _ _ => v = .bool true, fun v _ _ => v = .bool false, fun v _ _ => v = .bool false, fun v _ _ => v = .bool false, fun v _ _ => v = .agg #[.bool sa, .slice Aa (min na 3) ca, .slice Ba (min ma 3) da], fun v _ _ => v = .agg #[.bool sb, .slice Ab (min nb 3) cb, .slice Bb (min mb 3) db], fun v _ w => IsQ (w11).heap.size w v (qa - qb) 7, fun v _ _ => v = .agg #[.bool sa, .slice Aa (min na 3) ca, .slice Ba (min ma 3) da], fun v _ _ => v = .agg #[.bool sb, .slice Ab (min nb 3) cb, .slice Bb (min mb 3) db], fun v _ w => IsQt w v (qa - qb) 7, fun v _ _ => v = .bool true, fun v _ _ => v = .bool false, fun v _ _ => v = .bool false, fun v _ _ => v = .bool false, fun v _ _ => v = .agg #[.bool sa, .slice Aa (min na 3) ca, .slice Ba (min ma 3) da], fun v _ _ => v = .agg #[.bool sb, .slice Ab (min nb 3) cb, .slice Bb (min mb 3) db], fun v _ w => IsQ (w11).heap.size w v (qa * qb) 6, fun v _ _ => v = .agg #[.bool sa, .slice Aa (min na 3) ca, .slice Ba (min ma 3) da], fun v _ _ => v = .agg #[.bool sb, .slice Ab (min nb 3) cb, .slice Bb (min mb 3) db], fun v _ w => IsQt w v (qa * qb) 6, fun v _ _ => v = .bool true, fun v _ _ => v = .bool false, fun v _ _ => v = .bool false] (n := 43) (by kernel_rfl) rfl (by kernel_rfl) (by kernel_rfl) (by kernel_rfl) (by kernel_rfl) (by kernel_rfl) rb_refl rb_trans ⟨sC, ⟨sC, ⟨sC, ⟨sC, ⟨sC, ⟨sC, ⟨sC, ⟨sQ, ⟨sC, ⟨sQt, ⟨sC, ⟨sC, ⟨sC, ⟨sC, ⟨sC, ⟨sC, ⟨sQ, ⟨sC, ⟨sC, ⟨sQt, ⟨sC, ⟨sC, ⟨sC, ⟨sC, ⟨sC, ⟨sC, ⟨sQ, ⟨sC, ⟨sC, ⟨sQt, ⟨sC, ⟨sC, ⟨sC, ⟨sC, ⟨sC, ⟨sC, ⟨sQ, ⟨sC, ⟨sC, ⟨sQt, ⟨sC, ⟨sC, ⟨sC, trivial⟩⟩⟩⟩⟩⟩⟩⟩⟩⟩⟩⟩⟩⟩⟩⟩⟩⟩⟩⟩⟩⟩⟩⟩⟩⟩⟩⟩⟩⟩⟩⟩⟩⟩⟩⟩⟩⟩⟩⟩⟩⟩⟩ ?_ ?_
     ·refine ⟨⟨⟨⟨⟨⟨⟨⟨⟨⟨⟨⟨⟨⟨⟨⟨⟨⟨⟨⟨⟨⟨⟨⟨⟨⟨⟨⟨⟨⟨⟨⟨⟨⟨⟨⟨⟨⟨⟨⟨⟨⟨⟨trivial, ?_⟩, ?_⟩, ?_⟩, ?_⟩, ?_⟩, ?_⟩, ?_⟩, ?_⟩, ?_⟩, ?_⟩, ?_⟩, ?_⟩, ?_⟩, ?_⟩, ?_⟩, ?_⟩, ?_⟩, ?_⟩, ?_⟩, ?_⟩, ?_⟩, ?_⟩, ?_⟩, ?_⟩, ?_⟩, ?_⟩, ?_⟩, ?_⟩, ?_⟩, ?_⟩, ?_⟩, ?_⟩, ?_⟩, ?_⟩, ?_⟩, ?_⟩, ?_⟩, ?_⟩, ?_⟩, ?_⟩, ?_⟩, ?_⟩, ?_⟩
      ·refine rs_plain rfl rfl fun a wr S => ?_
       have X := undrew S.ext
       exact wp_qload (ev_of ((S.old 2 (by kernel_rfl)).trans rfl)) (Xa.below X) (done (by kernel_rfl) rbu_refl rfl)
      ·refine rs_plain rfl rfl fun a wr S => ?_
       have X := undrew S.ext
       obtain ⟨v0, e0, h0⟩ := S.got 0 (by kernel_rfl)
       exact st_call cf_rat_Right (args1 ((ev_of (e0 38 (by kernel_rfl))).trans h0)) (by kernel_rfl) rb (cQRightI (Ra.below X) (by omega) HR1.out) (fun _ _ _ h => h)
      ·refine rs_plain rfl rfl fun a wr S => ?_
       have X := undrew S.ext
       exact wp_qload (ev_of ((S.old 2 (by kernel_rfl)).trans rfl)) (Xa.below X) (done (by kernel_rfl) rbu_refl rfl)
      ·refine rs_plain rfl rfl fun a wr S => ?_
       have X := undrew S.ext
       obtain ⟨v2, e2, h2⟩ := S.got 2 (by kernel_rfl)
       exact st_call cf_ref03_Right (args1 ((ev_of (e2 40 (by kernel_rfl))).trans h2)) (by kernel_rfl) rb (cRight3 (Ra.below X) (by omega) (by omega) (r := ra) HR1.out) (fun _ _ _ h => h)
      ·refine rs_plain rfl rfl fun a wr S => ?_
       have X := undrew S.ext
       obtain ⟨v1, e1, h1⟩ := S.got 1 (by kernel_rfl)
       obtain ⟨v3, e3, h3⟩ := S.got 3 (by kernel_rfl)
       exact wp_neB ((ev_of (e1 39 (by kernel_rfl))).trans h1) ((ev_of (e3 41 (by kernel_rfl))).trans h3) (done (by kernel_rfl) rbu_refl (congrArg Value.bool (bne_self_eq_false _)))
      ·refine rs_plain rfl rfl fun a wr S => ?_
       have X := undrew S.ext
       obtain ⟨v4, e4, h4⟩ := S.got 4 (by kernel_rfl)
       exact wp_mv ((ev_of (e4 42 (by kernel_rfl))).trans h4) (done (by kernel_rfl) rbu_refl rfl)
      ·refine rs_yes rfl rfl (by kernel_rfl) (by kernel_rfl : _ = some 43) (fun _ _ _ h => h) fun a wr S => ?_
       have X := undrew S.ext
       exact wp_qload (ev_of ((S.old 2 (by kernel_rfl)).trans rfl)) (Xa.below X) (done (by kernel_rfl) rbu_refl rfl)
      ·refine rs_yes rfl rfl (by kernel_rfl) (by kernel_rfl : _ = some 43) (fun _ _ _ h => h) fun a wr S => ?_
       have X := undrew S.ext
       obtain ⟨v6, e6, h6⟩ := S.got 6 (by kernel_rfl)
       exact st_call cf_rat_Neg (args1 ((ev_of (e6 44 (by kernel_rfl))).trans h6)) (by kernel_rfl) rb ((cQNeg (show IsQm _ _ _ _ from (Qa.below X)) (by omega) (by omega)).mono (ansQ_base X.size)) (fun _ _ _ h => h)
      ·refine rs_yes rfl rfl (by kernel_rfl) (by kernel_rfl : _ = some 43) (fun _ _ _ h => h) fun a wr S => ?_
       have X := undrew S.ext
       exact wp_qload (ev_of ((S.old 2 (by kernel_rfl)).trans rfl)) (Xa.below X) (done (by kernel_rfl) rbu_refl rfl)
      ·refine rs_yes rfl rfl (by kernel_rfl) (by kernel_rfl : _ = some 43) (fun _ _ _ h => h) fun a wr S => ?_
       have X := undrew S.ext
       obtain ⟨v8, e8, h8⟩ := S.got 8 (by kernel_rfl)
       exact st_call cf_ref03_Neg (args1 ((ev_of (e8 46 (by kernel_rfl))).trans h8)) (by kernel_rfl) rb (cNeg3 (show IsQm _ _ _ _ from (Qa.below X)) (by omega) (by omega)) (fun _ _ _ h => h)
      ·refine rs_yes rfl rfl (by kernel_rfl) (by kernel_rfl : _ = some 43) (fun _ _ _ h => h) fun a wr S => ?_
       have X := undrew S.ext
       obtain ⟨v7, e7, h7⟩ := S.got 7 (by kernel_rfl)
       obtain ⟨v9, e9, h9⟩ := S.got 9 (by kernel_rfl)
       exact st_call cf_law03_same (args2 (ev_of (e7 45 (by kernel_rfl))) (ev_of (e9 47 (by kernel_rfl)))) (by kernel_rfl) rb (cSame3 (show IsQt _ _ _ _ from h7.t) (show IsQt _ _ _ _ from h9) (by omega) (by omega) (r := true) ⟨fun _ => rfl, fun _ => rfl⟩) (fun _ _ _ h => h)
      ·refine rs_yes rfl rfl (by kernel_rfl) (by kernel_rfl : _ = some 43) (fun _ _ _ h => h) fun a wr S => ?_
       have X := undrew S.ext
       obtain ⟨v10, e10, h10⟩ := S.got 10 (by kernel_rfl)
       exact wp_not ((ev_of (e10 48 (by kernel_rfl))).trans h10) (done (by kernel_rfl) rbu_refl rfl)
      ·refine rs_plain rfl rfl fun a wr S => ?_
       have X := undrew S.ext
       obtain ⟨v5, e5, h5⟩ := S.got 5 (by kernel_rfl)
       obtain ⟨v11, e11, h11⟩ := S.got 11 (by kernel_rfl)
       exact wp_pickF ((ev_of (e5 43 (by kernel_rfl))).trans h5) ((ev_of (e11 49 (by kernel_rfl))).trans h11) (done (by kernel_rfl) rbu_refl rfl)
      ·refine rs_plain rfl rfl fun a wr S => ?_
       have X := undrew S.ext
       obtain ⟨v12, e12, h12⟩ := S.got 12 (by kernel_rfl)
       exact wp_mv ((ev_of (e12 50 (by kernel_rfl))).trans h12) (done (by kernel_rfl) rbu_refl rfl)
      ·refine rs_yes rfl rfl (by kernel_rfl) (by kernel_rfl : _ = some 51) (fun _ _ _ h => h) fun a wr S => ?_
       have X := undrew S.ext
       exact wp_qload (ev_of ((S.old 2 (by kernel_rfl)).trans rfl)) (Xa.below X) (done (by kernel_rfl) rbu_refl rfl)
      ·refine rs_yes rfl rfl (by kernel_rfl) (by kernel_rfl : _ = some 51) (fun _ _ _ h => h) fun a wr S => ?_
       have X := undrew S.ext
       exact wp_qload (ev_of ((S.old 3 (by kernel_rfl)).trans rfl)) (Xb.below X) (done (by kernel_rfl) rbu_refl rfl)
      ·refine rs_yes rfl rfl (by kernel_rfl) (by kernel_rfl : _ = some 51) (fun _ _ _ h => h) fun a wr S => ?_
       have X := undrew S.ext
       obtain ⟨v14, e14, h14⟩ := S.got 14 (by kernel_rfl)
       obtain ⟨v15, e15, h15⟩ := S.got 15 (by kernel_rfl)
       exact st_call cf_rat_Add (args2 ((ev_of (e14 52 (by kernel_rfl))).trans h14) ((ev_of (e15 53 (by kernel_rfl))).trans h15)) (by kernel_rfl) rb ((cQAdd (show IsQm _ _ _ _ from (Qa.below X)) (show IsQm _ _ _ _ from (Qb.below X)) (by omega) (by omega) (by omega) (by omega)).mono (ansQ_base X.size)) (fun _ _ _ h => h)
      ·refine rs_yes rfl rfl (by kernel_rfl) (by kernel_rfl : _ = some 51) (fun _ _ _ h => h) fun a wr S => ?_
       have X := undrew S.ext
       exact wp_qload (ev_of ((S.old 2 (by kernel_rfl)).trans rfl)) (Xa.below X) (done (by kernel_rfl) rbu_refl rfl)
      ·refine rs_yes rfl rfl (by kernel_rfl) (by kernel_rfl : _ = some 51) (fun _ _ _ h => h) fun a wr S => ?_
       have X := undrew S.ext
       exact wp_qload (ev_of ((S.old 3 (by kernel_rfl)).trans rfl)) (Xb.below X) (done (by kernel_rfl) rbu_refl rfl)
      ·refine rs_yes rfl rfl (by kernel_rfl) (by kernel_rfl : _ = some 51) (fun _ _ _ h => h) fun a wr S => ?_
       have X := undrew S.ext
       obtain ⟨v17, e17, h17⟩ := S.got 17 (by kernel_rfl)
       obtain ⟨v18, e18, h18⟩ := S.got 18 (by kernel_rfl)
       exact st_call cf_ref03_Add (args2 ((ev_of (e17 55 (by kernel_rfl))).trans h17) ((ev_of (e18 56 (by kernel_rfl))).trans h18)) (by kernel_rfl) rb (cAdd3 (show IsQm _ _ _ _ from (Qa.below X)) (show IsQm _ _ _ _ from (Qb.below X)) (by omega) (by omega) (by omega) (by omega)) (fun _ _ _ h => h)
      ·refine rs_yes rfl rfl (by kernel_rfl) (by kernel_rfl : _ = some 51) (fun _ _ _ h => h) fun a wr S => ?_
       have X := undrew S.ext
       obtain ⟨v16, e16, h16⟩ := S.got 16 (by kernel_rfl)
       obtain ⟨v19, e19, h19⟩ := S.got 19 (by kernel_rfl)
       exact st_call cf_law03_same (args2 (ev_of (e16 54 (by kernel_rfl))) (ev_of (e19 57 (by kernel_rfl)))) (by kernel_rfl) rb (cSame3 (show IsQt _ _ _ _ from h16.t) (show IsQt _ _ _ _ from h19) (by omega) (by omega) (r := true) ⟨fun _ => rfl, fun _ => rfl⟩) (fun _ _ _ h => h)
      ·refine rs_yes rfl rfl (by kernel_rfl) (by kernel_rfl : _ = some 51) (fun _ _ _ h => h) fun a wr S => ?_
       have X := undrew S.ext
       obtain ⟨v20, e20, h20⟩ := S.got 20 (by kernel_rfl)
       exact wp_not ((ev_of (e20 58 (by kernel_rfl))).trans h20) (done (by kernel_rfl) rbu_refl rfl)
      ·refine rs_plain rfl rfl fun a wr S => ?_
       have X := undrew S.ext
       obtain ⟨v13, e13, h13⟩ := S.got 13 (by kernel_rfl)
       obtain ⟨v21, e21, h21⟩ := S.got 21 (by kernel_rfl)
       exact wp_pickF ((ev_of (e13 51 (by kernel_rfl))).trans h13) ((ev_of (e21 59 (by kernel_rfl))).trans h21) (done (by kernel_rfl) rbu_refl rfl)
      ·refine rs_plain rfl rfl fun a wr S => ?_
       have X := undrew S.ext
       obtain ⟨v22, e22, h22⟩ := S.got 22 (by kernel_rfl)
       exact wp_mv ((ev_of (e22 60 (by kernel_rfl))).trans h22) (done (by kernel_rfl) rbu_refl rfl)
      ·refine rs_yes rfl rfl (by kernel_rfl) (by kernel_rfl : _ = some 61) (fun _ _ _ h => h) fun a wr S => ?_
       have X := undrew S.ext
       exact wp_qload (ev_of ((S.old 2 (by kernel_rfl)).trans rfl)) (Xa.below X) (done (by kernel_rfl) rbu_refl rfl)
      ·refine rs_yes rfl rfl (by kernel_rfl) (by kernel_rfl : _ = some 61) (fun _ _ _ h => h) fun a wr S => ?_
       have X := undrew S.ext
       exact wp_qload (ev_of ((S.old 3 (by kernel_rfl)).trans rfl)) (Xb.below X) (done (by kernel_rfl) rbu_refl rfl)
      ·refine rs_yes rfl rfl (by kernel_rfl) (by kernel_rfl : _ = some 61) (fun _ _ _ h => h) fun a wr S => ?_
       have X := undrew S.ext
       obtain ⟨v24, e24, h24⟩ := S.got 24 (by kernel_rfl)
       obtain ⟨v25, e25, h25⟩ := S.got 25 (by kernel_rfl)
       exact st_call cf_rat_Sub (args2 ((ev_of (e24 62 (by kernel_rfl))).trans h24) ((ev_of (e25 63 (by kernel_rfl))).trans h25)) (by kernel_rfl) rb ((cQSub (show IsQm _ _ _ _ from (Qa.below X)) (show IsQm _ _ _ _ from (Qb.below X)) (by omega) (by omega) (by omega) (by omega)).mono (ansQ_base X.size)) (fun _ _ _ h => h)
      ·refine rs_yes rfl rfl (by kernel_rfl) (by kernel_rfl : _ = some 61) (fun _ _ _ h => h) fun a wr S => ?_
       have X := undrew S.ext
       exact wp_qload (ev_of ((S.old 2 (by kernel_rfl)).trans rfl)) (Xa.below X) (done (by kernel_rfl) rbu_refl rfl)
      ·refine rs_yes rfl rfl (by kernel_rfl) (by kernel_rfl : _ = some 61) (fun _ _ _ h => h) fun a wr S => ?_
       have X := undrew S.ext
       exact wp_qload (ev_of ((S.old 3 (by kernel_rfl)).trans rfl)) (Xb.below X) (done (by kernel_rfl) rbu_refl rfl)
      ·refine rs_yes rfl rfl (by kernel_rfl) (by kernel_rfl : _ = some 61) (fun _ _ _ h => h) fun a wr S => ?_
       have X := undrew S.ext
       obtain ⟨v27, e27, h27⟩ := S.got 27 (by kernel_rfl)
       obtain ⟨v28, e28, h28⟩ := S.got 28 (by kernel_rfl)
       exact st_call cf_ref03_Sub (args2 ((ev_of (e27 65 (by kernel_rfl))).trans h27) ((ev_of (e28 66 (by kernel_rfl))).trans h28)) (by kernel_rfl) rb (cSub3 (show IsQm _ _ _ _ from (Qa.below X)) (show IsQm _ _ _ _ from (Qb.below X)) (by omega) (by omega) (by omega) (by omega)) (fun _ _ _ h => h)
      ·refine rs_yes rfl rfl (by kernel_rfl) (by kernel_rfl : _ = some 61) (fun _ _ _ h => h) fun a wr S => ?_
       have X := undrew S.ext
       obtain ⟨v26, e26, h26⟩ := S.got 26 (by kernel_rfl)
       obtain ⟨v29, e29, h29⟩ := S.got 29 (by kernel_rfl)
       exact st_call cf_law03_same (args2 (ev_of (e26 64 (by kernel_rfl))) (ev_of (e29 67 (by kernel_rfl)))) (by kernel_rfl) rb (cSame3 (show IsQt _ _ _ _ from h26.t) (show IsQt _ _ _ _ from h29) (by omega) (by omega) (r := true) ⟨fun _ => rfl, fun _ => rfl⟩) (fun _ _ _ h => h)
      ·refine rs_yes rfl rfl (by kernel_rfl) (by kernel_rfl : _ = some 61) (fun _ _ _ h => h) fun a wr S => ?_
       have X := undrew S.ext
       obtain ⟨v30, e30, h30⟩ := S.got 30 (by kernel_rfl)
       exact wp_not ((ev_of (e30 68 (by kernel_rfl))).trans h30) (done (by kernel_rfl) rbu_refl rfl)
      ·refine rs_plain rfl rfl fun a wr S => ?_
       have X := undrew S.ext
       obtain ⟨v23, e23, h23⟩ := S.got 23 (by kernel_rfl)
       obtain ⟨v31, e31, h31⟩ := S.got 31 (by kernel_rfl)
       exact wp_pickF ((ev_of (e23 61 (by kernel_rfl))).trans h23) ((ev_of (e31 69 (by kernel_rfl))).trans h31) (done (by kernel_rfl) rbu_refl rfl)
      ·refine rs_plain rfl rfl fun a wr S => ?_
       have X := undrew S.ext
       obtain ⟨v32, e32, h32⟩ := S.got 32 (by kernel_rfl)
       exact wp_mv ((ev_of (e32 70 (by kernel_rfl))).trans h32) (done (by kernel_rfl) rbu_refl rfl)
      ·refine rs_yes rfl rfl (by kernel_rfl) (by kernel_rfl : _ = some 71) (fun _ _ _ h => h) fun a wr S => ?_
       have X := undrew S.ext
       exact wp_qload (ev_of ((S.old 2 (by kernel_rfl)).trans rfl)) (Xa.below X) (done (by kernel_rfl) rbu_refl rfl)
      ·refine rs_yes rfl rfl (by kernel_rfl) (by kernel_rfl : _ = some 71) (fun _ _ _ h => h) fun a wr S => ?_
       have X := undrew S.ext
       exact wp_qload (ev_of ((S.old 3 (by kernel_rfl)).trans rfl)) (Xb.below X) (done (by kernel_rfl) rbu_refl rfl)
      ·refine rs_yes rfl rfl (by kernel_rfl) (by kernel_rfl : _ = some 71) (fun _ _ _ h => h) fun a wr S => ?_
       have X := undrew S.ext
       obtain ⟨v34, e34, h34⟩ := S.got 34 (by kernel_rfl)
       obtain ⟨v35, e35, h35⟩ := S.got 35 (by kernel_rfl)
       exact st_call cf_rat_Mul (args2 ((ev_of (e34 72 (by kernel_rfl))).trans h34) ((ev_of (e35 73 (by kernel_rfl))).trans h35)) (by kernel_rfl) rb ((cQMul (show IsQm _ _ _ _ from (Qa.below X)) (show IsQm _ _ _ _ from (Qb.below X)) (by omega) (by omega) (by omega) (by omega)).mono (ansQ_base X.size)) (fun _ _ _ h => h)
      ·refine rs_yes rfl rfl (by kernel_rfl) (by kernel_rfl : _ = some 71) (fun _ _ _ h => h) fun a wr S => ?_
       have X := undrew S.ext
       exact wp_qload (ev_of ((S.old 2 (by kernel_rfl)).trans rfl)) (Xa.below X) (done (by kernel_rfl) rbu_refl rfl)
      ·refine rs_yes rfl rfl (by kernel_rfl) (by kernel_rfl : _ = some 71) (fun _ _ _ h => h) fun a wr S => ?_
       have X := undrew S.ext
       exact wp_qload (ev_of ((S.old 3 (by kernel_rfl)).trans rfl)) (Xb.below X) (done (by kernel_rfl) rbu_refl rfl)
      ·refine rs_yes rfl rfl (by kernel_rfl) (by kernel_rfl : _ = some 71) (fun _ _ _ h => h) fun a wr S => ?_
       have X := undrew S.ext
       obtain ⟨v37, e37, h37⟩ := S.got 37 (by kernel_rfl)
       obtain ⟨v38, e38, h38⟩ := S.got 38 (by kernel_rfl)
       exact st_call cf_ref03_Mul (args2 ((ev_of (e37 75 (by kernel_rfl))).trans h37) ((ev_of (e38 76 (by kernel_rfl))).trans h38)) (by kernel_rfl) rb (cMul3 (show IsQm _ _ _ _ from (Qa.below X)) (show IsQm _ _ _ _ from (Qb.below X)) (by omega) (by omega) (by omega) (by omega)) (fun _ _ _ h => h)
      ·refine rs_yes rfl rfl (by kernel_rfl) (by kernel_rfl : _ = some 71) (fun _ _ _ h => h) fun a wr S => ?_
       have X := undrew S.ext
       obtain ⟨v36, e36, h36⟩ := S.got 36 (by kernel_rfl)
       obtain ⟨v39, e39, h39⟩ := S.got 39 (by kernel_rfl)
       exact st_call cf_law03_same (args2 (ev_of (e36 74 (by kernel_rfl))) (ev_of (e39 77 (by kernel_rfl)))) (by kernel_rfl) rb (cSame3 (show IsQt _ _ _ _ from h36.t) (show IsQt _ _ _ _ from h39) (by omega) (by omega) (r := true) ⟨fun _ => rfl, fun _ => rfl⟩) (fun _ _ _ h => h)
      ·refine rs_yes rfl rfl (by kernel_rfl) (by kernel_rfl : _ = some 71) (fun _ _ _ h => h) fun a wr S => ?_
       have X := undrew S.ext
       obtain ⟨v40, e40, h40⟩ := S.got 40 (by kernel_rfl)
       exact wp_not ((ev_of (e40 78 (by kernel_rfl))).trans h40) (done (by kernel_rfl) rbu_refl rfl)
      ·refine rs_plain rfl rfl fun a wr S => ?_
       have X := undrew S.ext
       obtain ⟨v33, e33, h33⟩ := S.got 33 (by kernel_rfl)
       obtain ⟨v41, e41, h41⟩ := S.got 41 (by kernel_rfl)
       exact wp_pickF ((ev_of (e33 71 (by kernel_rfl))).trans h33) ((ev_of (e41 79 (by kernel_rfl))).trans h41) (done (by kernel_rfl) rbu_refl rfl)
     ·intro fw12 w12 hR hv
      replace hR := undrew hR
      have f0 : fw12 0 = .agg #[.bool sa, .slice Aa (min na 3) ca, .slice Ba (min ma 3) da] := (hvc (hv 0 (by omega))).elim fun _ h => h
      have f1 : fw12 1 = .bool ra := (hvc (hv 1 (by omega))).elim fun _ h => h
      have f2 : fw12 2 = .agg #[.bool sa, .slice Aa (min na 3) ca, .slice Ba (min ma 3) da] := (hvc (hv 2 (by omega))).elim fun _ h => h
      have f3 : fw12 3 = .bool ra := (hvc (hv 3 (by omega))).elim fun _ h => h
      have f4 : fw12 4 = .bool false := (hvc (hv 4 (by omega))).elim fun _ h => h
      have f5 : fw12 5 = .bool false := (hvc (hv 5 (by omega))).elim fun _ h => h
      have f6 : fw12 6 = .agg #[.bool sa, .slice Aa (min na 3) ca, .slice Ba (min ma 3) da] := (hvc (hv 6 (by omega))).elim fun _ h => h
      have f8 : fw12 8 = .agg #[.bool sa, .slice Aa (min na 3) ca, .slice Ba (min ma 3) da] := (hvc (hv 8 (by omega))).elim fun _ h => h
      have f10 : fw12 10 = .bool true := (hvc (hv 10 (by omega))).elim fun _ h => h
      have f11 : fw12 11 = .bool false := (hvc (hv 11 (by omega))).elim fun _ h => h
      have f12 : fw12 12 = .bool false := (hvc (hv 12 (by omega))).elim fun _ h => h
      have f13 : fw12 13 = .bool false := (hvc (hv 13 (by omega))).elim fun _ h => h
      have f14 : fw12 14 = .agg #[.bool sa, .slice Aa (min na 3) ca, .slice Ba (min ma 3) da] := (hvc (hv 14 (by omega))).elim fun _ h => h
      have f15 : fw12 15 = .agg #[.bool sb, .slice Ab (min nb 3) cb, .slice Bb (min mb 3) db] := (hvc (hv 15 (by omega))).elim fun _ h => h
      have f17 : fw12 17 = .agg #[.bool sa, .slice Aa (min na 3) ca, .slice Ba (min ma 3) da] := (hvc (hv 17 (by omega))).elim fun _ h => h
      have f18 : fw12 18 = .agg #[.bool sb, .slice Ab (min nb 3) cb, .slice Bb (min mb 3) db] := (hvc (hv 18 (by omega))).elim fun _ h => h
      have f20 : fw12 20 = .bool true := (hvc (hv 20 (by omega))).elim fun _ h => h
      have f21 : fw12 21 = .bool false := (hvc (hv 21 (by omega))).elim fun _ h => h
      have f22 : fw12 22 = .bool false := (hvc (hv 22 (by omega))).elim fun _ h => h
      have f23 : fw12 23 = .bool false := (hvc (hv 23 (by omega))).elim fun _ h => h
      have f24 : fw12 24 = .agg #[.bool sa, .slice Aa (min na 3) ca, .slice Ba (min ma 3) da] := (hvc (hv 24 (by omega))).elim fun _ h => h
      have f25 : fw12 25 = .agg #[.bool sb, .slice Ab (min nb 3) cb, .slice Bb (min mb 3) db] := (hvc (hv 25 (by omega))).elim fun _ h => h
      have f27 : fw12 27 = .agg #[.bool sa, .slice Aa (min na 3) ca, .slice Ba (min ma 3) da] := (hvc (hv 27 (by omega))).elim fun _ h => h
      have f28 : fw12 28 = .agg #[.bool sb, .slice Ab (min nb 3) cb, .slice Bb (min mb 3) db] := (hvc (hv 28 (by omega))).elim fun _ h => h
      have f30 : fw12 30 = .bool true := (hvc (hv 30 (by omega))).elim fun _ h => h
      have f31 : fw12 31 = .bool false := (hvc (hv 31 (by omega))).elim fun _ h => h
      have f32 : fw12 32 = .bool false := (hvc (hv 32 (by omega))).elim fun _ h => h
      have f33 : fw12 33 = .bool false := (hvc (hv 33 (by omega))).elim fun _ h => h
      have f34 : fw12 34 = .agg #[.bool sa, .slice Aa (min na 3) ca, .slice Ba (min ma 3) da] := (hvc (hv 34 (by omega))).elim fun _ h => h
      have f35 : fw12 35 = .agg #[.bool sb, .slice Ab (min nb 3) cb, .slice Bb (min mb 3) db] := (hvc (hv 35 (by omega))).elim fun _ h => h
      have f37 : fw12 37 = .agg #[.bool sa, .slice Aa (min na 3) ca, .slice Ba (min ma 3) da] := (hvc (hv 37 (by omega))).elim fun _ h => h
      have f38 : fw12 38 = .agg #[.bool sb, .slice Ab (min nb 3) cb, .slice Bb (min mb 3) db] := (hvc (hv 38 (by omega))).elim fun _ h => h
      have f40 : fw12 40 = .bool true := (hvc (hv 40 (by omega))).elim fun _ h => h
      have f41 : fw12 41 = .bool false := (hvc (hv 41 (by omega))).elim fun _ h => h
      have f42 : fw12 42 = .bool false := (hvc (hv 42 (by omega))).elim fun _ h => h
      simp only [putFn, Act.put, List.setIfInBounds_toArray, List.set_cons_zero, List.set_cons_succ, f0, f1, f2, f3, f4, f5, f6, f8, f10, f11, f12, f13, f14, f15, f17, f18, f20, f21, f22, f23, f24, f25, f27, f28, f30, f31, f32, f33, f34, f35, f37, f38, f40, f41, f42]
      replace Xa := Xa.below hR
      replace Xb := Xb.below hR
      replace Qa := Qa.below hR
      replace Qb := Qb.below hR
      replace Ra := Ra.below hR
      replace Na := Na.below hR
      replace Rb := Rb.below hR
      replace Nb := Nb.below hR
      replace BB := bl_trans BB hR
      clear hR hv
      go_upto_region 10 with (fail)
      refine wp_region_list (Ext := RB) (Rel := RBu) [fun v _ _ => v = .agg #[.bool sa, .slice Aa (min na 3) ca, .slice Ba (min ma 3) da], fun v _ _ => v = .agg #[.bool sb, .slice Ab (min nb 3) cb, .slice Bb (min mb 3) db], fun v _ _ => v = .int .i64 c, fun v _ _ => v = .agg #[.bool sa, .slice Aa (min na 3) ca, .slice Ba (min ma 3) da], fun v _ _ => v = .agg #[.bool sb, .slice Ab (min nb 3) cb, .slice Bb (min mb 3) db], fun v _ _ => v = .int .i64 c, fun v _ _ => v = .bool true, fun v _ _ => v = .bool true, fun v _ _ => v = .agg #[.bool sa, .slice Aa (min na 3) ca, .slice Ba (min ma 3) da], fun v _ _ => v = .int .i64 s, fun v _ _ => v = .agg #[.bool sa, .slice Aa (min na 3) ca, .slice Ba (min ma 3) da], fun v _ _ => v = .int .i64 s, fun v _ _ => v = .bool true, fun v _ _ => v = .bool true, fun v _ _ => v = .bool true, fun v _ _ => v = .agg #[.bool sa, .slice Aa (min na 3) ca, .slice Ba (min ma 3) da], fun v _ w => IsZ (w12).heap.size w v (qa.floor) 4, fun v _ _ => v = .agg #[.bool sa, .slice Aa (min na 3) ca, .slice Ba (min ma 3) da], fun v _ w => IsT w v (qa.floor) 4, fun v _ _ => v = .bool true, fun v _ _ => v = .bool true, fun v _ _ => v = .bool true, fun v _ _ => v = .agg #[.bool sa, .slice Aa (min na 3) ca, .slice Ba (min ma 3) da], fun v _ w => IsZ (w12).heap.size w v (qa.ceil) 4, fun v _ _ => v = .agg #[.bool sa, .slice Aa (min na 3) ca, .slice Ba (min ma 3) da], fun v _ w => IsT w v (qa.ceil) 4, fun v _ _ => v = .bool true, fun v _ _ => v = .bool true, fun v _ _ => v = .bool true, fun v _ _ => v = .agg #[.bool sa, .slice Aa (min na 3) ca, .slice Ba (min ma 3) da], fun v _ _ => IsS v (txtQ qa), fun v _ _ => v = .agg #[.bool sa, .slice Aa (min na 3) ca, .slice Ba (min ma 3) da], fun v _ _ => IsS v (txtQ qa), fun v _ _ => v = .bool true, fun v _ _ => v = .bool true, fun v _ _ => v = .bool true, fun v _ _ => v = .bool true, fun v _ _ => v = .bool true, fun v _ _ => v = .bool true] (n := 39) (by kernel_rfl) rfl (by kernel_rfl) (by kernel_rfl) (by kernel_rfl) (by kernel_rfl) (by kernel_rfl) rb_refl rb_trans ⟨sC, ⟨sC, ⟨sC, ⟨sC, ⟨sC, ⟨sC, ⟨sC, ⟨sC, ⟨sC, ⟨sC, ⟨sC, ⟨sC, ⟨sC, ⟨sC, ⟨sC, ⟨sC, ⟨sZ, ⟨sC, ⟨sT, ⟨sC, ⟨sC, ⟨sC, ⟨sC, ⟨sZ, ⟨sC, ⟨sT, ⟨sC, ⟨sC, ⟨sC, ⟨sC, ⟨sS, ⟨sC, ⟨sS, ⟨sC, ⟨sC, ⟨sC, ⟨sC, ⟨sC, ⟨sC, trivial⟩⟩⟩⟩⟩⟩⟩⟩⟩⟩⟩⟩⟩⟩⟩⟩⟩⟩⟩⟩⟩⟩⟩⟩⟩⟩⟩⟩⟩⟩⟩⟩⟩⟩⟩⟩⟩⟩⟩ ?_ ?_
      ·refine ⟨⟨⟨⟨⟨⟨⟨⟨⟨⟨⟨⟨⟨⟨⟨⟨⟨⟨⟨⟨⟨⟨⟨⟨⟨⟨⟨⟨⟨⟨⟨⟨⟨⟨⟨⟨⟨⟨⟨trivial, ?_⟩, ?_⟩, ?_⟩, ?_⟩, ?_⟩, ?_⟩, ?_⟩, ?_⟩, ?_⟩, ?_⟩, ?_⟩, ?_⟩, ?_⟩, ?_⟩, ?_⟩, ?_⟩, ?_⟩, ?_⟩, ?_⟩, ?_⟩, ?_⟩, ?_⟩, ?_⟩, ?_⟩, ?_⟩, ?_⟩, ?_⟩, ?_⟩, ?_⟩, ?_⟩, ?_⟩, ?_⟩, ?_⟩, ?_⟩, ?_⟩, ?_⟩, ?_⟩, ?_⟩, ?_⟩
       ·refine rs_plain rfl rfl fun a wr S => ?_
        have X := undrew S.ext
        exact wp_qload (ev_of ((S.old 2 (by kernel_rfl)).trans rfl)) (Xa.below X) (done (by kernel_rfl) rbu_refl rfl)
       ·refine rs_plain rfl rfl fun a wr S => ?_
        have X := undrew S.ext
        exact wp_qload (ev_of ((S.old 3 (by kernel_rfl)).trans rfl)) (Xb.below X) (done (by kernel_rfl) rbu_refl rfl)
       ·refine rs_plain rfl rfl fun a wr S => ?_
        have X := undrew S.ext
        obtain ⟨v0, e0, h0⟩ := S.got 0 (by kernel_rfl)
        obtain ⟨v1, e1, h1⟩ := S.got 1 (by kernel_rfl)
        exact st_call cf_rat_Cmp (args2 ((ev_of (e0 81 (by kernel_rfl))).trans h0) ((ev_of (e1 82 (by kernel_rfl))).trans h1)) (by kernel_rfl) rb ((cQCmp (show IsQm _ _ _ _ from (Qa.below X)) (show IsQm _ _ _ _ from (Qb.below X)) (by omega) (by omega) (by omega) (by omega)).mono (ans_intW HC.out)) (fun _ _ _ h => h)
       ·refine rs_plain rfl rfl fun a wr S => ?_
        have X := undrew S.ext
        exact wp_qload (ev_of ((S.old 2 (by kernel_rfl)).trans rfl)) (Xa.below X) (done (by kernel_rfl) rbu_refl rfl)
       ·refine rs_plain rfl rfl fun a wr S => ?_
        have X := undrew S.ext
        exact wp_qload (ev_of ((S.old 3 (by kernel_rfl)).trans rfl)) (Xb.below X) (done (by kernel_rfl) rbu_refl rfl)
       ·refine rs_plain rfl rfl fun a wr S => ?_
        have X := undrew S.ext
        obtain ⟨v3, e3, h3⟩ := S.got 3 (by kernel_rfl)
        obtain ⟨v4, e4, h4⟩ := S.got 4 (by kernel_rfl)
        exact st_call cf_ref03_Cmp (args2 ((ev_of (e3 84 (by kernel_rfl))).trans h3) ((ev_of (e4 85 (by kernel_rfl))).trans h4)) (by kernel_rfl) rb ((cCmp3 (show IsQm _ _ _ _ from (Qa.below X)) (show IsQm _ _ _ _ from (Qb.below X)) (by omega) (by omega) (by omega) (by omega)).mono (ans_intW HC.out)) (fun _ _ _ h => h)
       ·refine rs_plain rfl rfl fun a wr S => ?_
        have X := undrew S.ext
        obtain ⟨v2, e2, h2⟩ := S.got 2 (by kernel_rfl)
        obtain ⟨v5, e5, h5⟩ := S.got 5 (by kernel_rfl)
        exact wp_eqI ((ev_of (e2 83 (by kernel_rfl))).trans h2) ((ev_of (e5 86 (by kernel_rfl))).trans h5) (Or.inl rfl) (done (by kernel_rfl) rbu_refl (congrArg Value.bool (beq_self_eq_true _)))
       ·refine rs_plain rfl rfl fun a wr S => ?_
        have X := undrew S.ext
        obtain ⟨v6, e6, h6⟩ := S.got 6 (by kernel_rfl)
        exact wp_mv ((ev_of (e6 87 (by kernel_rfl))).trans h6) (done (by kernel_rfl) rbu_refl rfl)
       ·refine rs_yes rfl rfl (by kernel_rfl) (by kernel_rfl : _ = some 88) (fun _ _ _ h => h) fun a wr S => ?_
        have X := undrew S.ext
        exact wp_qload (ev_of ((S.old 2 (by kernel_rfl)).trans rfl)) (Xa.below X) (done (by kernel_rfl) rbu_refl rfl)
       ·refine rs_yes rfl rfl (by kernel_rfl) (by kernel_rfl : _ = some 88) (fun _ _ _ h => h) fun a wr S => ?_
        have X := undrew S.ext
        obtain ⟨v8, e8, h8⟩ := S.got 8 (by kernel_rfl)
        exact st_call cf_rat_Sign (args1 ((ev_of (e8 89 (by kernel_rfl))).trans h8)) (by kernel_rfl) rb (cQSign (show IsQm _ _ _ _ from (Qa.below X)) (by omega) HS.out) (fun _ _ _ h => h)
       ·refine rs_yes rfl rfl (by kernel_rfl) (by kernel_rfl : _ = some 88) (fun _ _ _ h => h) fun a wr S => ?_
        have X := undrew S.ext
        exact wp_qload (ev_of ((S.old 2 (by kernel_rfl)).trans rfl)) (Xa.below X) (done (by kernel_rfl) rbu_refl rfl)
       ·refine rs_yes rfl rfl (by kernel_rfl) (by kernel_rfl : _ = some 88) (fun _ _ _ h => h) fun a wr S => ?_
        have X := undrew S.ext
        obtain ⟨v10, e10, h10⟩ := S.got 10 (by kernel_rfl)
        exact st_call cf_ref03_Sign (args1 ((ev_of (e10 91 (by kernel_rfl))).trans h10)) (by kernel_rfl) rb ((cSign3 (show IsQm _ _ _ _ from (Qa.below X)) (by omega)).mono (ans_intW HS.out)) (fun _ _ _ h => h)
       ·refine rs_yes rfl rfl (by kernel_rfl) (by kernel_rfl : _ = some 88) (fun _ _ _ h => h) fun a wr S => ?_
        have X := undrew S.ext
        obtain ⟨v9, e9, h9⟩ := S.got 9 (by kernel_rfl)
        obtain ⟨v11, e11, h11⟩ := S.got 11 (by kernel_rfl)
        exact wp_eqI ((ev_of (e9 90 (by kernel_rfl))).trans h9) ((ev_of (e11 92 (by kernel_rfl))).trans h11) (Or.inl rfl) (done (by kernel_rfl) rbu_refl (congrArg Value.bool (beq_self_eq_true _)))
       ·refine rs_plain rfl rfl fun a wr S => ?_
        have X := undrew S.ext
        obtain ⟨v7, e7, h7⟩ := S.got 7 (by kernel_rfl)
        obtain ⟨v12, e12, h12⟩ := S.got 12 (by kernel_rfl)
        exact wp_pickT ((ev_of (e7 88 (by kernel_rfl))).trans h7) ((ev_of (e12 93 (by kernel_rfl))).trans h12) (done (by kernel_rfl) rbu_refl rfl)
       ·refine rs_plain rfl rfl fun a wr S => ?_
        have X := undrew S.ext
        obtain ⟨v13, e13, h13⟩ := S.got 13 (by kernel_rfl)
        exact wp_mv ((ev_of (e13 94 (by kernel_rfl))).trans h13) (done (by kernel_rfl) rbu_refl rfl)
       ·refine rs_yes rfl rfl (by kernel_rfl) (by kernel_rfl : _ = some 95) (fun _ _ _ h => h) fun a wr S => ?_
        have X := undrew S.ext
        exact wp_qload (ev_of ((S.old 2 (by kernel_rfl)).trans rfl)) (Xa.below X) (done (by kernel_rfl) rbu_refl rfl)
       ·refine rs_yes rfl rfl (by kernel_rfl) (by kernel_rfl : _ = some 95) (fun _ _ _ h => h) fun a wr S => ?_
        have X := undrew S.ext
        obtain ⟨v15, e15, h15⟩ := S.got 15 (by kernel_rfl)
        exact st_call cf_rat_Floor (args1 ((ev_of (e15 96 (by kernel_rfl))).trans h15)) (by kernel_rfl) rb ((cQFloor (show IsQm _ _ _ _ from (Qa.below X)) (by omega) (by omega)).mono (ansZ_base X.size)) (fun _ _ _ h => h)
       ·refine rs_yes rfl rfl (by kernel_rfl) (by kernel_rfl : _ = some 95) (fun _ _ _ h => h) fun a wr S => ?_
        have X := undrew S.ext
        exact wp_qload (ev_of ((S.old 2 (by kernel_rfl)).trans rfl)) (Xa.below X) (done (by kernel_rfl) rbu_refl rfl)
       ·refine rs_yes rfl rfl (by kernel_rfl) (by kernel_rfl : _ = some 95) (fun _ _ _ h => h) fun a wr S => ?_
        have X := undrew S.ext
        obtain ⟨v17, e17, h17⟩ := S.got 17 (by kernel_rfl)
        exact st_call cf_ref03_Floor (args1 ((ev_of (e17 98 (by kernel_rfl))).trans h17)) (by kernel_rfl) rb (cFloor3 (show IsQm _ _ _ _ from (Qa.below X)) (by omega) (by omega)) (fun _ _ _ h => h)
       ·refine rs_yes rfl rfl (by kernel_rfl) (by kernel_rfl : _ = some 95) (fun _ _ _ h => h) fun a wr S => ?_
        have X := undrew S.ext
        obtain ⟨v16, e16, h16⟩ := S.got 16 (by kernel_rfl)
        obtain ⟨v18, e18, h18⟩ := S.got 18 (by kernel_rfl)
        exact st_call cf_ref03_SameInt (args2 (ev_of (e16 97 (by kernel_rfl))) (ev_of (e18 99 (by kernel_rfl)))) (by kernel_rfl) rb ((cSameInt h16.t h18 (by omega) (by omega)).mono (ansB (decide_eq_true rfl))) (fun _ _ _ h => h)
       ·refine rs_plain rfl rfl fun a wr S => ?_
        have X := undrew S.ext
        obtain ⟨v14, e14, h14⟩ := S.got 14 (by kernel_rfl)
        obtain ⟨v19, e19, h19⟩ := S.got 19 (by kernel_rfl)
        exact wp_pickT ((ev_of (e14 95 (by kernel_rfl))).trans h14) ((ev_of (e19 100 (by kernel_rfl))).trans h19) (done (by kernel_rfl) rbu_refl rfl)
       ·refine rs_plain rfl rfl fun a wr S => ?_
        have X := undrew S.ext
        obtain ⟨v20, e20, h20⟩ := S.got 20 (by kernel_rfl)
        exact wp_mv ((ev_of (e20 101 (by kernel_rfl))).trans h20) (done (by kernel_rfl) rbu_refl rfl)
       ·refine rs_yes rfl rfl (by kernel_rfl) (by kernel_rfl : _ = some 102) (fun _ _ _ h => h) fun a wr S => ?_
        have X := undrew S.ext
        exact wp_qload (ev_of ((S.old 2 (by kernel_rfl)).trans rfl)) (Xa.below X) (done (by kernel_rfl) rbu_refl rfl)
       ·refine rs_yes rfl rfl (by kernel_rfl) (by kernel_rfl : _ = some 102) (fun _ _ _ h => h) fun a wr S => ?_
        have X := undrew S.ext
        obtain ⟨v22, e22, h22⟩ := S.got 22 (by kernel_rfl)
        exact st_call cf_rat_Ceil (args1 ((ev_of (e22 103 (by kernel_rfl))).trans h22)) (by kernel_rfl) rb ((cQCeil (show IsQm _ _ _ _ from (Qa.below X)) (by omega) (by omega)).mono (ansZ_base X.size)) (fun _ _ _ h => h)
       ·refine rs_yes rfl rfl (by kernel_rfl) (by kernel_rfl : _ = some 102) (fun _ _ _ h => h) fun a wr S => ?_
        have X := undrew S.ext
        exact wp_qload (ev_of ((S.old 2 (by kernel_rfl)).trans rfl)) (Xa.below X) (done (by kernel_rfl) rbu_refl rfl)
       ·refine rs_yes rfl rfl (by kernel_rfl) (by kernel_rfl : _ = some 102) (fun _ _ _ h => h) fun a wr S => ?_
        have X := undrew S.ext
        obtain ⟨v24, e24, h24⟩ := S.got 24 (by kernel_rfl)
        exact st_call cf_ref03_Ceil (args1 ((ev_of (e24 105 (by kernel_rfl))).trans h24)) (by kernel_rfl) rb (cCeil3 (show IsQm _ _ _ _ from (Qa.below X)) (by omega) (by omega)) (fun _ _ _ h => h)
       ·refine rs_yes rfl rfl (by kernel_rfl) (by kernel_rfl : _ = some 102) (fun _ _ _ h => h) fun a wr S => ?_
        have X := undrew S.ext
        obtain ⟨v23, e23, h23⟩ := S.got 23 (by kernel_rfl)
        obtain ⟨v25, e25, h25⟩ := S.got 25 (by kernel_rfl)
        exact st_call cf_ref03_SameInt (args2 (ev_of (e23 104 (by kernel_rfl))) (ev_of (e25 106 (by kernel_rfl)))) (by kernel_rfl) rb ((cSameInt h23.t h25 (by omega) (by omega)).mono (ansB (decide_eq_true rfl))) (fun _ _ _ h => h)
       ·refine rs_plain rfl rfl fun a wr S => ?_
        have X := undrew S.ext
        obtain ⟨v21, e21, h21⟩ := S.got 21 (by kernel_rfl)
        obtain ⟨v26, e26, h26⟩ := S.got 26 (by kernel_rfl)
        exact wp_pickT ((ev_of (e21 102 (by kernel_rfl))).trans h21) ((ev_of (e26 107 (by kernel_rfl))).trans h26) (done (by kernel_rfl) rbu_refl rfl)
       ·refine rs_plain rfl rfl fun a wr S => ?_
        have X := undrew S.ext
        obtain ⟨v27, e27, h27⟩ := S.got 27 (by kernel_rfl)
        exact wp_mv ((ev_of (e27 108 (by kernel_rfl))).trans h27) (done (by kernel_rfl) rbu_refl rfl)
       ·refine rs_yes rfl rfl (by kernel_rfl) (by kernel_rfl : _ = some 109) (fun _ _ _ h => h) fun a wr S => ?_
        have X := undrew S.ext
        exact wp_qload (ev_of ((S.old 2 (by kernel_rfl)).trans rfl)) (Xa.below X) (done (by kernel_rfl) rbu_refl rfl)
       ·refine rs_yes rfl rfl (by kernel_rfl) (by kernel_rfl : _ = some 109) (fun _ _ _ h => h) fun a wr S => ?_
        have X := undrew S.ext
        obtain ⟨v29, e29, h29⟩ := S.got 29 (by kernel_rfl)
        exact st_call cf_rat_Text (args1 ((ev_of (e29 110 (by kernel_rfl))).trans h29)) (by kernel_rfl) rb (cQText (show IsQm _ _ _ _ from (Qa.below X)) (by omega) (by omega)) (fun _ _ _ h => h)
       ·refine rs_yes rfl rfl (by kernel_rfl) (by kernel_rfl : _ = some 109) (fun _ _ _ h => h) fun a wr S => ?_
        have X := undrew S.ext
        exact wp_qload (ev_of ((S.old 2 (by kernel_rfl)).trans rfl)) (Xa.below X) (done (by kernel_rfl) rbu_refl rfl)
       ·refine rs_yes rfl rfl (by kernel_rfl) (by kernel_rfl : _ = some 109) (fun _ _ _ h => h) fun a wr S => ?_
        have X := undrew S.ext
        obtain ⟨v31, e31, h31⟩ := S.got 31 (by kernel_rfl)
        exact st_call cf_ref03_Text (args1 ((ev_of (e31 112 (by kernel_rfl))).trans h31)) (by kernel_rfl) rb (cText3 (show IsQm _ _ _ _ from (Qa.below X)) (by omega) (by omega)) (fun _ _ _ h => h)
       ·refine rs_yes rfl rfl (by kernel_rfl) (by kernel_rfl : _ = some 109) (fun _ _ _ h => h) fun a wr S => ?_
        have X := undrew S.ext
        obtain ⟨v30, e30, h30⟩ := S.got 30 (by kernel_rfl)
        obtain ⟨v32, e32, h32⟩ := S.got 32 (by kernel_rfl)
        obtain ⟨sx, hsx, bsx⟩ := (show IsS _ _ from h30)
        obtain ⟨sy, hsy, bsy⟩ := (show IsS _ _ from h32)
        exact wp_eqS ((ev_of (e30 111 (by kernel_rfl))).trans hsx) ((ev_of (e32 113 (by kernel_rfl))).trans hsy) (done (by kernel_rfl) rbu_refl (congrArg Value.bool ((eqQ bsx bsy).trans (decide_eq_true rfl))))
       ·refine rs_plain rfl rfl fun a wr S => ?_
        have X := undrew S.ext
        obtain ⟨v28, e28, h28⟩ := S.got 28 (by kernel_rfl)
        obtain ⟨v33, e33, h33⟩ := S.got 33 (by kernel_rfl)
        exact wp_pickT ((ev_of (e28 109 (by kernel_rfl))).trans h28) ((ev_of (e33 114 (by kernel_rfl))).trans h33) (done (by kernel_rfl) rbu_refl rfl)
       ·refine rs_plain rfl rfl fun a wr S => ?_
        have X := undrew S.ext
        obtain ⟨v34, e34, h34⟩ := S.got 34 (by kernel_rfl)
        exact wp_mv ((ev_of (e34 115 (by kernel_rfl))).trans h34) (done (by kernel_rfl) rbu_refl rfl)
       ·refine rs_yes rfl rfl (by kernel_rfl) (by kernel_rfl : _ = some 116) (fun _ _ _ h => h) fun a wr S => ?_
        have X := undrew S.ext
        exact st_call cf_law03_works (show (#[] : Array Operand).map a.eval = #[] by simp) (by kernel_rfl) rb (cWorks3 _) (fun _ _ _ h => h)
       ·refine rs_plain rfl rfl fun a wr S => ?_
        have X := undrew S.ext
        obtain ⟨v35, e35, h35⟩ := S.got 35 (by kernel_rfl)
        obtain ⟨v36, e36, h36⟩ := S.got 36 (by kernel_rfl)
        exact wp_pickT ((ev_of (e35 116 (by kernel_rfl))).trans h35) ((ev_of (e36 117 (by kernel_rfl))).trans h36) (done (by kernel_rfl) rbu_refl rfl)
       ·refine rs_plain rfl rfl fun a wr S => ?_
        have X := undrew S.ext
        obtain ⟨v37, e37, h37⟩ := S.got 37 (by kernel_rfl)
        exact wp_as ((ev_of (e37 118 (by kernel_rfl))).trans h37) (done (by kernel_rfl) rbu_refl rfl)
      ·intro fw13 w13 hR hv
       replace hR := undrew hR
       have f0 : fw13 0 = .agg #[.bool sa, .slice Aa (min na 3) ca, .slice Ba (min ma 3) da] := (hvc (hv 0 (by omega))).elim fun _ h => h
       have f1 : fw13 1 = .agg #[.bool sb, .slice Ab (min nb 3) cb, .slice Bb (min mb 3) db] := (hvc (hv 1 (by omega))).elim fun _ h => h
       have f2 : fw13 2 = .int .i64 c := (hvc (hv 2 (by omega))).elim fun _ h => h
       have f3 : fw13 3 = .agg #[.bool sa, .slice Aa (min na 3) ca, .slice Ba (min ma 3) da] := (hvc (hv 3 (by omega))).elim fun _ h => h
       have f4 : fw13 4 = .agg #[.bool sb, .slice Ab (min nb 3) cb, .slice Bb (min mb 3) db] := (hvc (hv 4 (by omega))).elim fun _ h => h
       have f5 : fw13 5 = .int .i64 c := (hvc (hv 5 (by omega))).elim fun _ h => h
       have f6 : fw13 6 = .bool true := (hvc (hv 6 (by omega))).elim fun _ h => h
       have f7 : fw13 7 = .bool true := (hvc (hv 7 (by omega))).elim fun _ h => h
       have f8 : fw13 8 = .agg #[.bool sa, .slice Aa (min na 3) ca, .slice Ba (min ma 3) da] := (hvc (hv 8 (by omega))).elim fun _ h => h
       have f9 : fw13 9 = .int .i64 s := (hvc (hv 9 (by omega))).elim fun _ h => h
       have f10 : fw13 10 = .agg #[.bool sa, .slice Aa (min na 3) ca, .slice Ba (min ma 3) da] := (hvc (hv 10 (by omega))).elim fun _ h => h
       have f11 : fw13 11 = .int .i64 s := (hvc (hv 11 (by omega))).elim fun _ h => h
       have f12 : fw13 12 = .bool true := (hvc (hv 12 (by omega))).elim fun _ h => h
       have f13 : fw13 13 = .bool true := (hvc (hv 13 (by omega))).elim fun _ h => h
       have f14 : fw13 14 = .bool true := (hvc (hv 14 (by omega))).elim fun _ h => h
       have f15 : fw13 15 = .agg #[.bool sa, .slice Aa (min na 3) ca, .slice Ba (min ma 3) da] := (hvc (hv 15 (by omega))).elim fun _ h => h
       have f17 : fw13 17 = .agg #[.bool sa, .slice Aa (min na 3) ca, .slice Ba (min ma 3) da] := (hvc (hv 17 (by omega))).elim fun _ h => h
       have f19 : fw13 19 = .bool true := (hvc (hv 19 (by omega))).elim fun _ h => h
       have f20 : fw13 20 = .bool true := (hvc (hv 20 (by omega))).elim fun _ h => h
       have f21 : fw13 21 = .bool true := (hvc (hv 21 (by omega))).elim fun _ h => h
       have f22 : fw13 22 = .agg #[.bool sa, .slice Aa (min na 3) ca, .slice Ba (min ma 3) da] := (hvc (hv 22 (by omega))).elim fun _ h => h
       have f24 : fw13 24 = .agg #[.bool sa, .slice Aa (min na 3) ca, .slice Ba (min ma 3) da] := (hvc (hv 24 (by omega))).elim fun _ h => h
       have f26 : fw13 26 = .bool true := (hvc (hv 26 (by omega))).elim fun _ h => h
       have f27 : fw13 27 = .bool true := (hvc (hv 27 (by omega))).elim fun _ h => h
       have f28 : fw13 28 = .bool true := (hvc (hv 28 (by omega))).elim fun _ h => h
       have f29 : fw13 29 = .agg #[.bool sa, .slice Aa (min na 3) ca, .slice Ba (min ma 3) da] := (hvc (hv 29 (by omega))).elim fun _ h => h
       have f31 : fw13 31 = .agg #[.bool sa, .slice Aa (min na 3) ca, .slice Ba (min ma 3) da] := (hvc (hv 31 (by omega))).elim fun _ h => h
       have f33 : fw13 33 = .bool true := (hvc (hv 33 (by omega))).elim fun _ h => h
       have f34 : fw13 34 = .bool true := (hvc (hv 34 (by omega))).elim fun _ h => h
       have f35 : fw13 35 = .bool true := (hvc (hv 35 (by omega))).elim fun _ h => h
       have f36 : fw13 36 = .bool true := (hvc (hv 36 (by omega))).elim fun _ h => h
       have f37 : fw13 37 = .bool true := (hvc (hv 37 (by omega))).elim fun _ h => h
       have f38 : fw13 38 = .bool true := (hvc (hv 38 (by omega))).elim fun _ h => h
       simp only [putFn, Act.put, List.setIfInBounds_toArray, List.set_cons_zero, List.set_cons_succ, f0, f1, f2, f3, f4, f5, f6, f7, f8, f9, f10, f11, f12, f13, f14, f15, f17, f19, f20, f21, f22, f24, f26, f27, f28, f29, f31, f33, f34, f35, f36, f37, f38]
       replace Xa := Xa.below hR
       replace Xb := Xb.below hR
       replace Qa := Qa.below hR
       replace Qb := Qb.below hR
       replace Ra := Ra.below hR
       replace Na := Na.below hR
       replace Rb := Rb.below hR
       replace Nb := Nb.below hR
       replace BB := bl_trans BB hR
       clear hR hv
       go_wp2_with fail
       go_ret
       exact ⟨rfl, BB⟩
theorem ratTells_walk (sa : Bool) (Aa : Option Addr) (na ca : Nat) (xa : List Nat) (Ba : Option Addr) (ma da : Nat) (ya : List Nat) (sb : Bool) (Ab : Option Addr) (nb cb : Nat) (xb : List Nat) (Bb : Option Addr) (mb db : Nat) (yb : List Nat) (w : World) (ha : (Rd w Aa na ca xa ∧ na ≤ maxLen) ∧ (Rd w Ba ma da ya ∧ ma ≤ maxLen)) (hb : (Rd w Ab nb cb xb ∧ nb ≤ maxLen) ∧ (Rd w Bb mb db yb ∧ mb ≤ maxLen)) : Calls Tryz.prog 3 #[.agg #[.bool sa, .slice Aa na ca, .slice Ba ma da], .agg #[.bool sb, .slice Ab nb cb, .slice Bb mb db]] w fun e w' => e = .returned (.bool true) ∧ Below w.heap.size w w' :=
 ratTells_in sa Aa na ca xa Ba ma da ya sb Ab nb cb xb Bb mb db yb _ _ w (Lib.hid ha.1.1) (Lib.hid ha.1.2) (Lib.hid ha.2.1) (Lib.hid ha.2.2) (Lib.hid hb.1.1) (Lib.hid hb.1.2) (Lib.hid hb.2.1) (Lib.hid hb.2.2) (Lib.hid rfl) (Lib.hid rfl) 

end Go.Proofs.YtbhgbilhoonopaaGreat
