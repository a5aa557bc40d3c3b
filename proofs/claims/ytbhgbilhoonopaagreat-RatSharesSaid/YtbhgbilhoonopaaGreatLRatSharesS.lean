/- litmuslaw03.RatShares answers true at every input, and changes nothing that was there: its walk. -/
import Derived.Test.YtbhgbilhoonopaaGreatS4
namespace Go.Proofs.YtbhgbilhoonopaaGreat
open Go.RowKit
set_option linter.unusedVariables false
set_option maxRecDepth 100000

set_option maxHeartbeats 4000000 in
theorem ratShares_in (sa : Bool) (Aa : Option Addr) (na ca : Nat) (xa : List Nat) (Ba : Option Addr) (ma da : Nat) (ya : List Nat) (sb : Bool) (Ab : Option Addr) (nb cb : Nat) (xb : List Nat) (Bb : Option Addr) (mb db : Nat) (yb : List Nat) (qa qb : Rat) (w : World) (Ha : Hid (Rd w Aa na ca xa)) (Ia : Hid (na ≤ maxLen)) (Ja : Hid (Rd w Ba ma da ya)) (Ka : Hid (ma ≤ maxLen)) (Hb : Hid (Rd w Ab nb cb xb)) (Ib : Hid (nb ≤ maxLen)) (Jb : Hid (Rd w Bb mb db yb)) (Kb : Hid (mb ≤ maxLen)) (Za : Hid (qa = mkRat (zv sa (M.val (xa.take (min na 4)))) (dOf (M.val (ya.take (min ma 4)))))) (Zb : Hid (qb = mkRat (zv sb (M.val (xb.take (min nb 4)))) (dOf (M.val (yb.take (min mb 4)))))) : Calls Tryz.prog 10 #[.agg #[.bool sa, .slice Aa na ca, .slice Ba ma da], .agg #[.bool sb, .slice Ab nb cb, .slice Bb mb db]] w fun e w' => e = .returned (.bool true) ∧ Below w.heap.size w w' := by
 have BB := (bl_trans (bl_alloc w (.cells #[.bool sa, .slice Aa na ca, .slice Ba ma da] 26)) (bl_alloc _ (.cells #[.bool sb, .slice Ab nb cb, .slice Bb mb db] 26)))
 have Pa := (Bq.new w  sa Aa na ca Ba ma da).alloc (.cells #[.bool sb, .slice Ab nb cb, .slice Bb mb db] 26)
 have Pb := Bq.new2 w (.cells #[.bool sa, .slice Aa na ca, .slice Ba ma da] 26) sb Ab nb cb Bb mb db
 go_enter Tryz.func10, Tryz.ntmps10
 go_wp2_with fail
 refine (cWorks3 _).mono ?_
 rintro e w1 ⟨_, rfl, hb1, rfl⟩
 replace Pa := Pa.below hb1
 replace Pb := Pb.below hb1
 replace BB := bl_trans BB hb1
 clear hb1
 go_wp2_with fail
 refine wp_cut (by kernel_rfl) 4 ?_
 simp only [List.take_succ_cons, List.take_zero, List.drop_succ_cons, List.drop_zero]
 refine wp_cut_list (Ext := RB) (Rel := RBu) [fun v _ _ => v = .agg #[.bool sa, .slice Aa na ca, .slice Ba ma da], fun v _ _ => v = .agg #[.bool sa, .slice Aa (min na 4) ca, .slice Ba (min ma 4) da], fun v _ _ => v = .agg #[.bool sb, .slice Ab nb cb, .slice Bb mb db], fun v _ _ => v = .agg #[.bool sb, .slice Ab (min nb 4) cb, .slice Bb (min mb 4) db]] (n := 4) (by kernel_rfl) (by kernel_rfl) (by kernel_rfl) (by kernel_rfl) (by kernel_rfl) (by kernel_rfl) (by kernel_rfl) (by kernel_rfl) (by kernel_rfl) rb_refl rb_trans ⟨sC, ⟨sC, ⟨sC, ⟨sC, trivial⟩⟩⟩⟩ ?_ ?_
 ·refine ⟨⟨⟨⟨trivial, ?_⟩, ?_⟩, ?_⟩, ?_⟩
  ·refine rs_plain rfl rfl fun a wr S => ?_
   have X := undrew S.ext
   exact wp_qload (ev_of ((S.old 2 (by kernel_rfl)).trans rfl)) (Pa.below X) (done (by kernel_rfl) rbu_refl rfl)
  ·refine rs_plain rfl rfl fun a wr S => ?_
   have X := undrew S.ext
   obtain ⟨v0, e0, h0⟩ := S.got 0 (by kernel_rfl)
   exact st_call cf_law03_few (args2 ((ev_of (e0 15 (by kernel_rfl))).trans h0) rfl) (by kernel_rfl) rb (cFew3 Ha.out.cap Ja.out.cap Ia.out Ka.out 4 _ rfl (by omega)) (fun _ _ _ h => h)
  ·refine rs_plain rfl rfl fun a wr S => ?_
   have X := undrew S.ext
   exact wp_qload (ev_of ((S.old 3 (by kernel_rfl)).trans rfl)) (Pb.below X) (done (by kernel_rfl) rbu_refl rfl)
  ·refine rs_plain rfl rfl fun a wr S => ?_
   have X := undrew S.ext
   obtain ⟨v2, e2, h2⟩ := S.got 2 (by kernel_rfl)
   exact st_call cf_law03_few (args2 ((ev_of (e2 17 (by kernel_rfl))).trans h2) rfl) (by kernel_rfl) rb (cFew3 Hb.out.cap Jb.out.cap Ib.out Kb.out 4 _ rfl (by omega)) (fun _ _ _ h => h)
 ·intro fw2 w2 hR hv hap
  clear hap
  replace hR := undrew hR
  have f0 : fw2 0 = .agg #[.bool sa, .slice Aa na ca, .slice Ba ma da] := (hvc (hv 0 (by omega))).elim fun _ h => h
  have f1 : fw2 1 = .agg #[.bool sa, .slice Aa (min na 4) ca, .slice Ba (min ma 4) da] := (hvc (hv 1 (by omega))).elim fun _ h => h
  have f2 : fw2 2 = .agg #[.bool sb, .slice Ab nb cb, .slice Bb mb db] := (hvc (hv 2 (by omega))).elim fun _ h => h
  have f3 : fw2 3 = .agg #[.bool sb, .slice Ab (min nb 4) cb, .slice Bb (min mb 4) db] := (hvc (hv 3 (by omega))).elim fun _ h => h
  simp only [putFn, Act.put, List.setIfInBounds_toArray, List.set_cons_zero, List.set_cons_succ, f0, f1, f2, f3]
  replace Pa := Pa.below hR
  replace Pb := Pb.below hR
  replace BB := bl_trans BB hR
  clear hR hv
  have ra0 := Pa.c0
  have fa0 := Pa.f 0
  have ra1 := Pa.c1
  have fa1 := Pa.f 1
  have ra2 := Pa.c2
  have fa2 := Pa.f 2
  have rb0 := Pb.c0
  have fb0 := Pb.f 0
  have rb1 := Pb.c1
  have fb1 := Pb.f 1
  have rb2 := Pb.c2
  have fb2 := Pb.f 2
  go_wp2_with fail
  clear ra0 fa0 ra1 fa1 ra2 fa2 rb0 fb0 rb1 fb1 rb2 fb2
  have Xa := ((((Pa.set3 (b' := sa) (A' := Aa) (n' := min na 4) (c' := ca) (B' := Ba) (m' := min ma 4) (d' := da)).other (g' := w.heap.size + 1) (i := 0) (v := .bool sb) (by omega)).other (g' := w.heap.size + 1) (i := 1) (v := .slice Ab (min nb 4) cb) (by omega)).other (g' := w.heap.size + 1) (i := 2) (v := .slice Bb (min mb 4) db) (by omega))
  have Xb := ((((Pb.other (g' := w.heap.size) (i := 0) (v := .bool sa) (by omega)).other (g' := w.heap.size) (i := 1) (v := .slice Aa (min na 4) ca) (by omega)).other (g' := w.heap.size) (i := 2) (v := .slice Ba (min ma 4) da) (by omega)).set3 (b' := sb) (A' := Ab) (n' := min nb 4) (c' := cb) (B' := Bb) (m' := min mb 4) (d' := db))
  replace BB := ((((((BB.setCell (p := ⟨w.heap.size, 0, none⟩) (by show _ ≤ w.heap.size; omega) (.bool sa)).setCell (p := ⟨w.heap.size, 1, none⟩) (by show _ ≤ w.heap.size; omega) (.slice Aa (min na 4) ca)).setCell (p := ⟨w.heap.size, 2, none⟩) (by show _ ≤ w.heap.size; omega) (.slice Ba (min ma 4) da)).setCell (p := ⟨w.heap.size + 1, 0, none⟩) (by show _ ≤ w.heap.size + 1; omega) (.bool sb)).setCell (p := ⟨w.heap.size + 1, 1, none⟩) (by show _ ≤ w.heap.size + 1; omega) (.slice Ab (min nb 4) cb)).setCell (p := ⟨w.heap.size + 1, 2, none⟩) (by show _ ≤ w.heap.size + 1; omega) (.slice Bb (min mb 4) db))
  clear Pa Pb
  generalize ((((((w2.setCell ⟨w.heap.size, 0, none⟩ (.bool sa)).setCell ⟨w.heap.size, 1, none⟩ (.slice Aa (min na 4) ca)).setCell ⟨w.heap.size, 2, none⟩ (.slice Ba (min ma 4) da)).setCell ⟨w.heap.size + 1, 0, none⟩ (.bool sb)).setCell ⟨w.heap.size + 1, 1, none⟩ (.slice Ab (min nb 4) cb)).setCell ⟨w.heap.size + 1, 2, none⟩ (.slice Bb (min mb 4) db)) = wh at Xa Xb BB ⊢
  have Qa : IsQm wh (.agg #[.bool sa, .slice Aa (min na 4) ca, .slice Ba (min ma 4) da]) qa 4 := by rw [Za.out]; exact few_q (Ha.out.below BB) (Ja.out.below BB) 4
  have Qb : IsQm wh (.agg #[.bool sb, .slice Ab (min nb 4) cb, .slice Bb (min mb 4) db]) qb 4 := by rw [Zb.out]; exact few_q (Hb.out.below BB) (Jb.out.below BB) 4
  have Ra : IsR wh (.agg #[.bool sa, .slice Aa (min na 4) ca, .slice Ba (min ma 4) da]) sa (xa.take (min na 4)) (ya.take (min ma 4)) 4 := ⟨_, _, _, _, _, _, rfl, ⟨(Ha.out.below BB).take (by omega), by omega⟩, (Ja.out.below BB).take (by omega), by omega⟩
  have Na : IsM wh (.agg #[.bool sa, .slice Aa (min na 4) ca]) (zv sa (M.val (xa.take (min na 4)))) 4 := ⟨_, _, _, _, rfl, ⟨⟨_, ⟨⟨_, (Ha.out.below BB).take (by omega), rfl⟩, by omega⟩, rfl⟩⟩⟩
  have Rb : IsR wh (.agg #[.bool sb, .slice Ab (min nb 4) cb, .slice Bb (min mb 4) db]) sb (xb.take (min nb 4)) (yb.take (min mb 4)) 4 := ⟨_, _, _, _, _, _, rfl, ⟨(Hb.out.below BB).take (by omega), by omega⟩, (Jb.out.below BB).take (by omega), by omega⟩
  have Nb : IsM wh (.agg #[.bool sb, .slice Ab (min nb 4) cb]) (zv sb (M.val (xb.take (min nb 4)))) 4 := ⟨_, _, _, _, rfl, ⟨⟨_, ⟨⟨_, (Hb.out.below BB).take (by omega), rfl⟩, by omega⟩, rfl⟩⟩⟩
  clear Ha Ia Ja Ka Hb Ib Jb Kb
  clear Na Nb Qa Qb
  refine wp_cut (by kernel_rfl) 6 ?_
  simp only [List.take_succ_cons, List.take_zero, List.drop_succ_cons, List.drop_zero]
  refine wp_cut_list (Ext := RB) (Rel := RBu) [fun v _ _ => v = .agg #[.bool sa, .slice Aa (min na 4) ca, .slice Ba (min ma 4) da], fun v _ w => IsR w v sa (xa.take (min na 4)) (ya.take (min ma 4)) 4, fun v _ _ => v = .agg #[.bool sb, .slice Ab (min nb 4) cb, .slice Bb (min mb 4) db], fun v _ w => IsR w v sb (xb.take (min nb 4)) (yb.take (min mb 4)) 4, fun v _ w => IsPQ (wh).heap.size w v, fun v _ w => IsPQ (wh).heap.size w v] (n := 6) (by kernel_rfl) (by kernel_rfl) (by kernel_rfl) (by kernel_rfl) (by kernel_rfl) (by kernel_rfl) (by kernel_rfl) (by kernel_rfl) (by kernel_rfl) rb_refl rb_trans ⟨sC, ⟨sIR, ⟨sC, ⟨sIR, ⟨sPQ, ⟨sPQ, trivial⟩⟩⟩⟩⟩⟩ ?_ ?_
  ·refine ⟨⟨⟨⟨⟨⟨trivial, ?_⟩, ?_⟩, ?_⟩, ?_⟩, ?_⟩, ?_⟩
   ·refine rs_plain rfl rfl fun a wr S => ?_
    have X := undrew S.ext
    exact wp_qload (ev_of ((S.old 2 (by kernel_rfl)).trans rfl)) (Xa.below X) (done (by kernel_rfl) rbu_refl rfl)
   ·refine rs_plain rfl rfl fun a wr S => ?_
    have X := undrew S.ext
    obtain ⟨v0, e0, h0⟩ := S.got 0 (by kernel_rfl)
    exact st_call cf_law03_copied (args1 ((ev_of (e0 19 (by kernel_rfl))).trans h0)) (by kernel_rfl) rb (cCopied (Ra.below X) (by omega)) (fun _ _ _ h => h)
   ·refine rs_plain rfl rfl fun a wr S => ?_
    have X := undrew S.ext
    exact wp_qload (ev_of ((S.old 3 (by kernel_rfl)).trans rfl)) (Xb.below X) (done (by kernel_rfl) rbu_refl rfl)
   ·refine rs_plain rfl rfl fun a wr S => ?_
    have X := undrew S.ext
    obtain ⟨v2, e2, h2⟩ := S.got 2 (by kernel_rfl)
    exact st_call cf_law03_copied (args1 ((ev_of (e2 21 (by kernel_rfl))).trans h2)) (by kernel_rfl) rb (cCopied (Rb.below X) (by omega)) (fun _ _ _ h => h)
   ·refine rs_plain rfl rfl fun a wr S => ?_
    have X := undrew S.ext
    refine st_allocQ X.size (fun _ _ _ h => h) fun j vj u hj hs => ?_
    have hj' : j ∈ [4, 5] := alloc_cases (by kernel_rfl) j hj
    simp only [List.mem_cons, List.not_mem_nil, or_false] at hj'
    rcases hj' with rfl | rfl <;> exact IsPQ.lt hs
   ·refine rs_plain rfl rfl fun a wr S => ?_
    have X := undrew S.ext
    refine st_allocQ X.size (fun _ _ _ h => h) fun j vj u hj hs => ?_
    have hj' : j ∈ [4, 5] := alloc_cases (by kernel_rfl) j hj
    simp only [List.mem_cons, List.not_mem_nil, or_false] at hj'
    rcases hj' with rfl | rfl <;> exact IsPQ.lt hs
  ·intro fw3 w3 hR hv hap
   replace hR := undrew hR
   have f0 : fw3 0 = .agg #[.bool sa, .slice Aa (min na 4) ca, .slice Ba (min ma 4) da] := (hvc (hv 0 (by omega))).elim fun _ h => h
   have f2 : fw3 2 = .agg #[.bool sb, .slice Ab (min nb 4) cb, .slice Bb (min mb 4) db] := (hvc (hv 2 (by omega))).elim fun _ h => h
   obtain ⟨Ax, nx, cx, Bx, mx, dx, f1, Rx⟩ := (show IsR w3 _ sa (xa.take (min na 4)) (ya.take (min ma 4)) 4 from (hvc (hv 1 (by omega))).elim fun _ h => h)
   obtain ⟨Ay, ny, cy, By, my, dy, f3, Ry⟩ := (show IsR w3 _ sb (xb.take (min nb 4)) (yb.take (min mb 4)) 4 from (hvc (hv 3 (by omega))).elim fun _ h => h)
   obtain ⟨g5, f4, hg5, P5⟩ := (show IsPQ _ w3 _ from (hvc (hv 4 (by omega))).elim fun _ h => h)
   obtain ⟨g6, f5, hg6, P6⟩ := (show IsPQ _ w3 _ from (hvc (hv 5 (by omega))).elim fun _ h => h)
   have hne56 : g5 ≠ g6 := fun e => hap 4 5 5 6 (by omega) (by omega) (by omega) (by kernel_rfl) (by kernel_rfl) (by kernel_rfl) (by kernel_rfl) (by rw [f4, f5, e])
   simp only [putFn, Act.put, List.setIfInBounds_toArray, List.set_cons_zero, List.set_cons_succ, f0, f2, f1, f3, f4, f5]
   clear hap
   have Rx' : IsR w3 (.agg #[.bool sa, .slice Ax nx cx, .slice Bx mx dx]) sa (xa.take (min na 4)) (ya.take (min ma 4)) 4 := ⟨_, _, _, _, _, _, rfl, Rx⟩
   clear Rx
   have Rx := Rx'
   clear Rx'
   have Ry' : IsR w3 (.agg #[.bool sb, .slice Ay ny cy, .slice By my dy]) sb (xb.take (min nb 4)) (yb.take (min mb 4)) 4 := ⟨_, _, _, _, _, _, rfl, Ry⟩
   clear Ry
   have Ry := Ry'
   clear Ry'
   have r50 := P5.c0
   have t50 := P5.f 0
   have r51 := P5.c1
   have t51 := P5.f 1
   have r52 := P5.c2
   have t52 := P5.f 2
   have r60 := P6.c0
   have t60 := P6.f 0
   have r61 := P6.c1
   have t61 := P6.f 1
   have r62 := P6.c2
   have t62 := P6.f 2
   go_upto_region 5 with (fail)
   clear r50 t50 r51 t51 r52 t52 r60 t60 r61 t61 r62 t62
   have KR := kr_put3 (b' := sa) (A' := Ax) (n' := nx) (c' := cx) (B' := Bx) (m' := mx) (d' := dx) P5
   replace Rx := Rx.kr KR
   replace Ry := Ry.kr KR
   replace hR := Below.put3 hR hg5 (b' := sa) (A' := Ax) (n' := nx) (c' := cx) (B' := Bx) (m' := mx) (d' := dx)
   replace P6 := P6.put3 (t' := true) hne56.symm (b' := sa) (A' := Ax) (n' := nx) (c' := cx) (B' := Bx) (m' := mx) (d' := dx)
   replace P5 := P5.set3 (b' := sa) (A' := Ax) (n' := nx) (c' := cx) (B' := Bx) (m' := mx) (d' := dx)
   clear KR
   have KR := kr_put3 (b' := sb) (A' := Ay) (n' := ny) (c' := cy) (B' := By) (m' := my) (d' := dy) P6
   replace Rx := Rx.kr KR
   replace Ry := Ry.kr KR
   replace hR := Below.put3 hR hg6 (b' := sb) (A' := Ay) (n' := ny) (c' := cy) (B' := By) (m' := my) (d' := dy)
   replace P5 := P5.put3 (t' := true) hne56 (b' := sb) (A' := Ay) (n' := ny) (c' := cy) (B' := By) (m' := my) (d' := dy)
   replace P6 := P6.set3 (b' := sb) (A' := Ay) (n' := ny) (c' := cy) (B' := By) (m' := my) (d' := dy)
   clear KR
   clear hv
   generalize World.setCell _ ⟨g6, 2, none⟩ _ = w4 at Rx Ry P5 P6 hR ⊢
   replace Xa := Xa.below hR
   replace Xb := Xb.below hR
   replace Ra := Ra.below hR
   replace Rb := Rb.below hR
   replace BB := bl_trans BB hR
   clear hR hg5 hg6 hne56
   have Qx := Rx.m
   have Qy := Ry.m
   rw [← Za.out] at Qx
   rw [← Zb.out] at Qy
   clear Za Zb
   have Nx : IsM w4 (.agg #[.bool sa, .slice Ax nx cx]) (zv sa (M.val (xa.take (min na 4)))) 4 := by
    obtain ⟨_, _, _, _, _, _, e, h, _⟩ := Rx
    injection e with e; injection e with e; simp only [List.cons.injEq, Value.slice.injEq] at e
    obtain ⟨_, ⟨rfl, rfl, rfl⟩, _⟩ := e
    exact ⟨_, _, _, _, rfl, ⟨⟨_, ⟨⟨_, h.1, rfl⟩, h.2⟩, rfl⟩⟩⟩
   have FZ := Lib.hid (And.intro Xa (And.intro Xb (And.intro Ra (And.intro Rb (And.intro Rx (And.intro Ry (And.intro P5 (And.intro P6 BB))))))))
   have P5c0 := P5.c0
   have P5c1 := P5.c1
   have P5c2 := P5.c2
   have P6c0 := P6.c0
   have P6c1 := P6.c1
   have P6c2 := P6.c2
   go_wp2_with fail
   clear P5c0 P5c1 P5c2 P6c0 P6c1 P6c2
   refine (cQDiv Qx Qy (by omega) (by omega) (by omega) (by omega)).mono ?_
   rintro e w5 ⟨_, rfl, hb, b7, A7, n7, c7, B7, m7, d7, rfl, q7⟩
   have O7 := q7.w (Nat.le_refl _)
   have B4 : Sz w4 w5 := hb
   replace Xa := Xa.below hb
   replace Xb := Xb.below hb
   replace Ra := Ra.below hb
   replace Rb := Rb.below hb
   replace Rx := Rx.below hb
   replace Ry := Ry.below hb
   replace P5 := P5.below hb
   replace P6 := P6.below hb
   replace Qx := Qx.below hb
   replace Qy := Qy.below hb
   replace Nx := Nx.below hb
   replace BB := bl_trans BB hb
   clear hb
   replace q7 := q7.t
   have OO := bl_alloc w5 (.cells #[.bool b7, .slice A7 n7 c7, .slice B7 m7 d7] 26)
   have P7 := Bq.new w5 b7 A7 n7 c7 B7 m7 d7
   replace Xa := Xa.below OO
   replace Xb := Xb.below OO
   replace Ra := Ra.below OO
   replace Rb := Rb.below OO
   replace Rx := Rx.below OO
   replace Ry := Ry.below OO
   replace P5 := P5.below OO
   replace P6 := P6.below OO
   replace Qx := Qx.below OO
   replace Qy := Qy.below OO
   replace Nx := Nx.below OO
   replace O7 := O7.below OO
   replace B4 := B4.below OO
   replace q7 := q7.below OO
   replace BB := bl_trans BB OO
   clear OO
   go_upto_region 6 with (fail)
   generalize w5.alloc _ = w6 at Xa Xb Ra Rb Rx Ry P5 P6 Qx Qy Nx O7 B4 q7 P7 BB ⊢
   have HN0 := Lib.hid B4.size
   refine wp_region_list (Ext := RB) (Rel := RBu) [fun v _ _ => v = .agg #[.bool sa, .slice Ax nx cx, .slice Bx mx dx], fun v _ w => IsQ (w6).heap.size w v (-qa) 4, fun v _ _ => v = .agg #[.bool sa, .slice Ax nx cx, .slice Bx mx dx], fun v _ _ => v = .agg #[.bool sb, .slice Ay ny cy, .slice By my dy], fun v _ w => IsQ (w6).heap.size w v (qa + qb) 9, fun v _ _ => v = .agg #[.bool sa, .slice Ax nx cx, .slice Bx mx dx], fun v _ _ => v = .agg #[.bool sb, .slice Ay ny cy, .slice By my dy], fun v _ w => IsQ (w6).heap.size w v (qa * qb) 8, fun v _ _ => v = .agg #[.bool b7, .slice A7 n7 c7, .slice B7 m7 d7], fun v _ _ => v = .pointer (some ⟨g5, 0, none⟩), fun v _ _ => v = .agg #[.bool sa, .slice Ax nx cx], fun v _ w => IsQ (w6).heap.size w v (((zv sa (M.val (xa.take (min na 4))) : Int) : Rat)) 4, fun v _ _ => v = .agg #[.bool sa, .slice Ax nx cx, .slice Bx mx dx], fun v _ w => IsZ (w6).heap.size w v (qa.floor) 5, fun v _ w => IsW w4.heap.size w v, fun v _ w => IsA6W w4.heap.size w v, fun v _ _ => v = Value.int IntKind.i64 0] (n := 17) (by kernel_rfl) rfl (by kernel_rfl) (by kernel_rfl) (by kernel_rfl) (by kernel_rfl) (by kernel_rfl) rb_refl rb_trans ⟨sC, ⟨sQ, ⟨sC, ⟨sC, ⟨sQ, ⟨sC, ⟨sC, ⟨sQ, ⟨sC, ⟨sC, ⟨sC, ⟨sQ, ⟨sC, ⟨sZ, ⟨sW, ⟨sA6W, ⟨sC, trivial⟩⟩⟩⟩⟩⟩⟩⟩⟩⟩⟩⟩⟩⟩⟩⟩⟩ ?_ ?_
   ·refine ⟨⟨⟨⟨⟨⟨⟨⟨⟨⟨⟨⟨⟨⟨⟨⟨⟨trivial, ?_⟩, ?_⟩, ?_⟩, ?_⟩, ?_⟩, ?_⟩, ?_⟩, ?_⟩, ?_⟩, ?_⟩, ?_⟩, ?_⟩, ?_⟩, ?_⟩, ?_⟩, ?_⟩, ?_⟩
    ·refine rs_plain rfl rfl fun a wr S => ?_
     have X := undrew S.ext
     exact wp_qload (ev_of ((S.old 5 (by kernel_rfl)).trans rfl)) (P5.below X) (done (by kernel_rfl) rbu_refl rfl)
    ·refine rs_plain rfl rfl fun a wr S => ?_
     have X := undrew S.ext
     obtain ⟨v0, e0, h0⟩ := S.got 0 (by kernel_rfl)
     exact st_call cf_rat_Neg (args1 ((ev_of (e0 29 (by kernel_rfl))).trans h0)) (by kernel_rfl) rb ((cQNeg (show IsQm _ _ _ _ from (Qx.below X)) (by omega) (by omega)).mono (ansQ_base X.size)) (fun _ _ _ h => h)
    ·refine rs_plain rfl rfl fun a wr S => ?_
     have X := undrew S.ext
     exact wp_qload (ev_of ((S.old 5 (by kernel_rfl)).trans rfl)) (P5.below X) (done (by kernel_rfl) rbu_refl rfl)
    ·refine rs_plain rfl rfl fun a wr S => ?_
     have X := undrew S.ext
     exact wp_qload (ev_of ((S.old 6 (by kernel_rfl)).trans rfl)) (P6.below X) (done (by kernel_rfl) rbu_refl rfl)
    ·refine rs_plain rfl rfl fun a wr S => ?_
     have X := undrew S.ext
     obtain ⟨v2, e2, h2⟩ := S.got 2 (by kernel_rfl)
     obtain ⟨v3, e3, h3⟩ := S.got 3 (by kernel_rfl)
     exact st_call cf_rat_Add (args2 ((ev_of (e2 31 (by kernel_rfl))).trans h2) ((ev_of (e3 32 (by kernel_rfl))).trans h3)) (by kernel_rfl) rb ((cQAdd (show IsQm _ _ _ _ from (Qx.below X)) (show IsQm _ _ _ _ from (Qy.below X)) (by omega) (by omega) (by omega) (by omega)).mono (ansQ_base X.size)) (fun _ _ _ h => h)
    ·refine rs_plain rfl rfl fun a wr S => ?_
     have X := undrew S.ext
     exact wp_qload (ev_of ((S.old 5 (by kernel_rfl)).trans rfl)) (P5.below X) (done (by kernel_rfl) rbu_refl rfl)
    ·refine rs_plain rfl rfl fun a wr S => ?_
     have X := undrew S.ext
     exact wp_qload (ev_of ((S.old 6 (by kernel_rfl)).trans rfl)) (P6.below X) (done (by kernel_rfl) rbu_refl rfl)
    ·refine rs_plain rfl rfl fun a wr S => ?_
     have X := undrew S.ext
     obtain ⟨v5, e5, h5⟩ := S.got 5 (by kernel_rfl)
     obtain ⟨v6, e6, h6⟩ := S.got 6 (by kernel_rfl)
     exact st_call cf_rat_Mul (args2 ((ev_of (e5 34 (by kernel_rfl))).trans h5) ((ev_of (e6 35 (by kernel_rfl))).trans h6)) (by kernel_rfl) rb ((cQMul (show IsQm _ _ _ _ from (Qx.below X)) (show IsQm _ _ _ _ from (Qy.below X)) (by omega) (by omega) (by omega) (by omega)).mono (ansQ_base X.size)) (fun _ _ _ h => h)
    ·refine rs_plain rfl rfl fun a wr S => ?_
     have X := undrew S.ext
     exact wp_qload (ev_of ((S.old 7 (by kernel_rfl)).trans rfl)) (P7.below X) (done (by kernel_rfl) rbu_refl rfl)
    ·refine rs_plain rfl rfl fun a wr S => ?_
     have X := undrew S.ext
     exact wp_qf0 (ev_of ((S.old 5 (by kernel_rfl)).trans rfl)) (done (by kernel_rfl) rbu_refl rfl)
    ·refine rs_plain rfl rfl fun a wr S => ?_
     have X := undrew S.ext
     obtain ⟨v9, e9, h9⟩ := S.got 9 (by kernel_rfl)
     exact wp_qN ((ev_of (e9 38 (by kernel_rfl))).trans h9) (P5.below X) (done (by kernel_rfl) rbu_refl rfl)
    ·refine rs_plain rfl rfl fun a wr S => ?_
     have X := undrew S.ext
     obtain ⟨v10, e10, h10⟩ := S.got 10 (by kernel_rfl)
     exact st_call cf_rat_Int (args1 ((ev_of (e10 39 (by kernel_rfl))).trans h10)) (by kernel_rfl) rb ((cQInt (show IsM _ _ _ _ from (Nx.below X)) (by omega) (by omega)).mono (ansQ_base X.size)) (fun _ _ _ h => h)
    ·refine rs_plain rfl rfl fun a wr S => ?_
     have X := undrew S.ext
     exact wp_qload (ev_of ((S.old 5 (by kernel_rfl)).trans rfl)) (P5.below X) (done (by kernel_rfl) rbu_refl rfl)
    ·refine rs_plain rfl rfl fun a wr S => ?_
     have X := undrew S.ext
     obtain ⟨v12, e12, h12⟩ := S.got 12 (by kernel_rfl)
     exact st_call cf_rat_Floor (args1 ((ev_of (e12 41 (by kernel_rfl))).trans h12)) (by kernel_rfl) rb ((cQFloor (show IsQm _ _ _ _ from (Qx.below X)) (by omega) (by omega)).mono (ansZ_base X.size)) (fun _ _ _ h => h)
    ·refine rs_plain rfl rfl fun a wr S => ?_
     have X := undrew S.ext
     obtain ⟨v13, e13, h13⟩ := S.got 13 (by kernel_rfl)
     obtain ⟨bb, AA, nn, cc, hvv, ZZ⟩ := (show IsZ _ wr _ (qa.floor) 5 from h13)
     exact wp_bQ1s ((ev_of (e13 42 (by kernel_rfl))).trans hvv) (done (by kernel_rfl) rbu_refl (IsZ.w1 ZZ HN0.out))
    ·refine rs_plain rfl rfl fun a wr S => ?_
     have X := undrew S.ext
     obtain ⟨v1, e1, h1⟩ := S.got 1 (by kernel_rfl)
     obtain ⟨v4, e4, h4⟩ := S.got 4 (by kernel_rfl)
     obtain ⟨v7, e7, h7⟩ := S.got 7 (by kernel_rfl)
     obtain ⟨v8, e8, h8⟩ := S.got 8 (by kernel_rfl)
     obtain ⟨v11, e11, h11⟩ := S.got 11 (by kernel_rfl)
     obtain ⟨v14, e14, h14⟩ := S.got 14 (by kernel_rfl)
     obtain ⟨b0, A0, n0, c0, B0, m0, d0, hv0, P0, U0⟩ := (show IsW w4.heap.size wr _ from ((show IsQ _ wr _ (-qa) 4 from h1).w HN0.out))
     obtain ⟨b1, A1, n1, c1, B1, m1, d1, hv1, P1, U1⟩ := (show IsW w4.heap.size wr _ from ((show IsQ _ wr _ (qa + qb) 9 from h4).w HN0.out))
     obtain ⟨b2, A2, n2, c2, B2, m2, d2, hv2, P2, U2⟩ := (show IsW w4.heap.size wr _ from ((show IsQ _ wr _ (qa * qb) 8 from h7).w HN0.out))
     obtain ⟨b3, A3, n3, c3, B3, m3, d3, hv3, P3, U3⟩ := (show IsW w4.heap.size wr _ from (O7.below X))
     obtain ⟨b4, A4, n4, c4, B4, m4, d4, hv4, P4, U4⟩ := (show IsW w4.heap.size wr _ from ((show IsQ _ wr _ (((zv sa (M.val (xa.take (min na 4))) : Int) : Rat)) 4 from h11).w HN0.out))
     obtain ⟨b5, A5, n5, c5, B5, m5, d5, hv5, P5, U5⟩ := (show IsW w4.heap.size wr _ from h14)
     exact wp_bA6Q ((ev_of (e1 30 (by kernel_rfl))).trans hv0) ((ev_of (e4 33 (by kernel_rfl))).trans hv1) ((ev_of (e7 36 (by kernel_rfl))).trans hv2) (((ev_of (e8 37 (by kernel_rfl))).trans h8).trans hv3) ((ev_of (e11 40 (by kernel_rfl))).trans hv4) ((ev_of (e14 43 (by kernel_rfl))).trans hv5) (done (by kernel_rfl) rbu_refl ⟨_, _, _, _, _, _, _, _, _, _, _, _, _, _, _, _, _, _, _, _, _, _, _, _, _, _, _, _, _, _, _, _, _, _, _, _, _, _, _, _, _, _, rfl, ⟨P0, U0⟩, ⟨P1, U1⟩, ⟨P2, U2⟩, ⟨P3, U3⟩, ⟨P4, U4⟩, ⟨P5, U5⟩⟩)
    ·refine rs_plain rfl rfl fun a wr S => ?_
     have X := undrew S.ext
     exact wp_mv rfl (done (by kernel_rfl) rbu_refl rfl)
   ·intro fw7 w7 hR hv
    replace hR := undrew hR
    have f0 : fw7 0 = .agg #[.bool sa, .slice Ax nx cx, .slice Bx mx dx] := (hvc (hv 0 (by omega))).elim fun _ h => h
    have f2 : fw7 2 = .agg #[.bool sa, .slice Ax nx cx, .slice Bx mx dx] := (hvc (hv 2 (by omega))).elim fun _ h => h
    have f3 : fw7 3 = .agg #[.bool sb, .slice Ay ny cy, .slice By my dy] := (hvc (hv 3 (by omega))).elim fun _ h => h
    have f5 : fw7 5 = .agg #[.bool sa, .slice Ax nx cx, .slice Bx mx dx] := (hvc (hv 5 (by omega))).elim fun _ h => h
    have f6 : fw7 6 = .agg #[.bool sb, .slice Ay ny cy, .slice By my dy] := (hvc (hv 6 (by omega))).elim fun _ h => h
    have f8 : fw7 8 = .agg #[.bool b7, .slice A7 n7 c7, .slice B7 m7 d7] := (hvc (hv 8 (by omega))).elim fun _ h => h
    have f9 : fw7 9 = .pointer (some ⟨g5, 0, none⟩) := (hvc (hv 9 (by omega))).elim fun _ h => h
    have f10 : fw7 10 = .agg #[.bool sa, .slice Ax nx cx] := (hvc (hv 10 (by omega))).elim fun _ h => h
    have f12 : fw7 12 = .agg #[.bool sa, .slice Ax nx cx, .slice Bx mx dx] := (hvc (hv 12 (by omega))).elim fun _ h => h
    have f16 : fw7 16 = Value.int IntKind.i64 0 := (hvc (hv 16 (by omega))).elim fun _ h => h
    obtain ⟨bz0, Az0, nz0, cz0, Bz0, mz0, dz0, bz1, Az1, nz1, cz1, Bz1, mz1, dz1, bz2, Az2, nz2, cz2, Bz2, mz2, dz2, bz3, Az3, nz3, cz3, Bz3, mz3, dz3, bz4, Az4, nz4, cz4, Bz4, mz4, dz4, bz5, Az5, nz5, cz5, Bz5, mz5, dz5, f15, Oz0, Oz1, Oz2, Oz3, Oz4, Oz5⟩ := (show IsA6W w4.heap.size w7 _ from (hvc (hv 15 (by omega))).elim fun _ h => h)
    simp only [putFn, Act.put, List.setIfInBounds_toArray, List.set_cons_zero, List.set_cons_succ, f0, f2, f3, f5, f6, f8, f9, f10, f12, f16, f15]
    replace Xa := Xa.below hR
    replace Xb := Xb.below hR
    replace Ra := Ra.below hR
    replace Rb := Rb.below hR
    replace Rx := Rx.below hR
    replace Ry := Ry.below hR
    replace P5 := P5.below hR
    replace P6 := P6.below hR
    replace Qx := Qx.below hR
    replace Qy := Qy.below hR
    replace Nx := Nx.below hR
    replace O7 := O7.below hR
    replace B4 := B4.below hR
    replace q7 := q7.below hR
    replace P7 := P7.below hR
    replace BB := bl_trans BB hR
    clear hR hv
    obtain ⟨Uz0, Vz0⟩ := Oz0
    obtain ⟨Uz1, Vz1⟩ := Oz1
    obtain ⟨Uz2, Vz2⟩ := Oz2
    obtain ⟨Uz3, Vz3⟩ := Oz3
    obtain ⟨Uz4, Vz4⟩ := Oz4
    obtain ⟨Uz5, Vz5⟩ := Oz5
    have SP : Spl w4 w7 w4.heap.size w7.heap.size [⟨Az0, nz0, cz0⟩, ⟨Bz0, mz0, dz0⟩, ⟨Az1, nz1, cz1⟩, ⟨Bz1, mz1, dz1⟩, ⟨Az2, nz2, cz2⟩, ⟨Bz2, mz2, dz2⟩, ⟨Az3, nz3, cz3⟩, ⟨Bz3, mz3, dz3⟩, ⟨Az4, nz4, cz4⟩, ⟨Bz4, mz4, dz4⟩, ⟨Az5, nz5, cz5⟩, ⟨Bz5, mz5, dz5⟩] := by
     have own : ∀ s ∈ ([⟨Az0, nz0, cz0⟩, ⟨Bz0, mz0, dz0⟩, ⟨Az1, nz1, cz1⟩, ⟨Bz1, mz1, dz1⟩, ⟨Az2, nz2, cz2⟩, ⟨Bz2, mz2, dz2⟩, ⟨Az3, nz3, cz3⟩, ⟨Bz3, mz3, dz3⟩, ⟨Az4, nz4, cz4⟩, ⟨Bz4, mz4, dz4⟩, ⟨Az5, nz5, cz5⟩, ⟨Bz5, mz5, dz5⟩] : List R3), Ow w7 w4.heap.size s.A s.n s.c := by
      intro s hs
      simp only [List.mem_cons, List.not_mem_nil, or_false] at hs
      rcases hs with rfl | rfl | rfl | rfl | rfl | rfl | rfl | rfl | rfl | rfl | rfl | rfl <;> assumption
     exact ⟨B4, Nat.le_refl _, own, fun s hs p hp => ((own s hs).lt hp).2⟩
    have HIX := Lib.hid (show ∀ (w : World) (i : Nat), i < 6 → ∃ b A n c B m d, (Instr.index 56 (.agg #[.bool bz0, .slice Az0 nz0 cz0, .slice Bz0 mz0 dz0, .bool bz1, .slice Az1 nz1 cz1, .slice Bz1 mz1 dz1, .bool bz2, .slice Az2 nz2 cz2, .slice Bz2 mz2 dz2, .bool bz3, .slice Az3 nz3 cz3, .slice Bz3 mz3 dz3, .bool bz4, .slice Az4 nz4 cz4, .slice Bz4 mz4 dz4, .bool bz5, .slice Az5 nz5 cz5, .slice Bz5 mz5 dz5]) (.int .i64 (i : Int))).run Tryz.prog w = .ok (.agg #[.bool b, .slice A n c, .slice B m d]) w ∧ (⟨A, n, c⟩ : R3) ∈ ([⟨Az0, nz0, cz0⟩, ⟨Bz0, mz0, dz0⟩, ⟨Az1, nz1, cz1⟩, ⟨Bz1, mz1, dz1⟩, ⟨Az2, nz2, cz2⟩, ⟨Bz2, mz2, dz2⟩, ⟨Az3, nz3, cz3⟩, ⟨Bz3, mz3, dz3⟩, ⟨Az4, nz4, cz4⟩, ⟨Bz4, mz4, dz4⟩, ⟨Az5, nz5, cz5⟩, ⟨Bz5, mz5, dz5⟩] : List R3) ∧ (⟨B, m, d⟩ : R3) ∈ ([⟨Az0, nz0, cz0⟩, ⟨Bz0, mz0, dz0⟩, ⟨Az1, nz1, cz1⟩, ⟨Bz1, mz1, dz1⟩, ⟨Az2, nz2, cz2⟩, ⟨Bz2, mz2, dz2⟩, ⟨Az3, nz3, cz3⟩, ⟨Bz3, mz3, dz3⟩, ⟨Az4, nz4, cz4⟩, ⟨Bz4, mz4, dz4⟩, ⟨Az5, nz5, cz5⟩, ⟨Bz5, mz5, dz5⟩] : List R3) from fun w i hi => index6 w i hi (fun b A n c B m d => (⟨A, n, c⟩ : R3) ∈ ([⟨Az0, nz0, cz0⟩, ⟨Bz0, mz0, dz0⟩, ⟨Az1, nz1, cz1⟩, ⟨Bz1, mz1, dz1⟩, ⟨Az2, nz2, cz2⟩, ⟨Bz2, mz2, dz2⟩, ⟨Az3, nz3, cz3⟩, ⟨Bz3, mz3, dz3⟩, ⟨Az4, nz4, cz4⟩, ⟨Bz4, mz4, dz4⟩, ⟨Az5, nz5, cz5⟩, ⟨Bz5, mz5, dz5⟩] : List R3) ∧ (⟨B, m, d⟩ : R3) ∈ ([⟨Az0, nz0, cz0⟩, ⟨Bz0, mz0, dz0⟩, ⟨Az1, nz1, cz1⟩, ⟨Bz1, mz1, dz1⟩, ⟨Az2, nz2, cz2⟩, ⟨Bz2, mz2, dz2⟩, ⟨Az3, nz3, cz3⟩, ⟨Bz3, mz3, dz3⟩, ⟨Az4, nz4, cz4⟩, ⟨Bz4, mz4, dz4⟩, ⟨Az5, nz5, cz5⟩, ⟨Bz5, mz5, dz5⟩] : List R3)) ⟨by simp, by simp⟩ ⟨by simp, by simp⟩ ⟨by simp, by simp⟩ ⟨by simp, by simp⟩ ⟨by simp, by simp⟩ ⟨by simp, by simp⟩)
    have HN4 := Lib.hid B4.size
    have HSP := Lib.hid SP
    clear SP HN0 Uz0 Vz0 Uz1 Vz1 Uz2 Vz2 Uz3 Vz3 Uz4 Vz4 Uz5 Vz5 Xa Xb Ra Rb Rx Ry P5 P6 Qx Qy Nx O7 B4 q7 P7 BB
    generalize ([⟨Az0, nz0, cz0⟩, ⟨Bz0, mz0, dz0⟩, ⟨Az1, nz1, cz1⟩, ⟨Bz1, mz1, dz1⟩, ⟨Az2, nz2, cz2⟩, ⟨Bz2, mz2, dz2⟩, ⟨Az3, nz3, cz3⟩, ⟨Bz3, mz3, dz3⟩, ⟨Az4, nz4, cz4⟩, ⟨Bz4, mz4, dz4⟩, ⟨Az5, nz5, cz5⟩, ⟨Bz5, mz5, dz5⟩] : List R3) = rs at HIX HSP
    go_wp2
    go_loopg [45] 6 (fun g v wr => ∃ i : Nat, i ≤ 6 ∧ g = 6 - i ∧ v = .int .i64 (i : Int) ∧ Spl w4 wr w4.heap.size w7.heap.size rs)
    case atStart => exact ⟨0, by omega, rfl, rfl, HSP.out⟩
    case round =>
     obtain ⟨i, hi, hgi, rfl, sp⟩ := hrel
     by_cases h6 : i < 6
     ·rename World => wo
      obtain ⟨b, A, n, c, B, m, d, hidx, m1, m2⟩ := HIX.out wo i h6
      have hn : n ≤ 9223372036854775807 := (sp.own _ m1).le
      have hm : m ≤ 9223372036854775807 := (sp.own _ m2).le
      have HG := Lib.hid sp.size
      have HS1 := Lib.hid (sp.alloc HN4.out (.cells #[.bool b, .slice A n c, .slice B m d] 26))
      have HP1 := Lib.hid (Bq.new wo b A n c B m d)
      have HM1 := Lib.hid m1
      have HM2 := Lib.hid m2
      have HGI := Lib.hid hgi
      clear sp m1 m2 hgi HSP HIX
      go_wp2
      go_loopg [11] n (fun g v wr' => ∃ k : Nat, k ≤ n ∧ g = n - k ∧ v = .int .i64 (k : Int) ∧ Spl w4 wr' w4.heap.size w7.heap.size rs ∧ Bq wr' wo.heap.size b A n c B m d)
      case atStart => exact ⟨0, by omega, rfl, rfl, HS1.out, HP1.out⟩
      case round =>
       obtain ⟨k, hk, hgk, rfl, sp, P⟩ := hrel
       have HGK := Lib.hid hgk
       have hc2 := P.c1
       clear hgk HS1 HP1
       by_cases hkn : k < n
       ·obtain ⟨zs, ho⟩ := sp.own _ HM1.out
        have hlt := sp.lt _ HM1.out
        dsimp only at ho hlt
        obtain ⟨g, rfl, hg1, hg2⟩ := ho.head (by omega)
        have hne : wo.heap.size ≠ g := by
         have h1 := hlt _ rfl
         have h2 := HG.out
         dsimp only at h1
         omega
        obtain ⟨x, hx⟩ : ∃ x, zs[k]? = some x := ⟨zs[k]'(by rw [ho.len]; exact hkn), List.getElem?_eq_getElem _⟩
        have c1 := ho.cellAt hx
        have f1 := ho.frozenAt k
        simp only [kU32] at c1
        have hxl := ho.lim x (List.mem_of_getElem? hx)
        obtain ⟨z, hz⟩ : ∃ z : Nat, z = (x + 1) % 4294967296 := ⟨_, rfl⟩
        have hzl : z < M.R := by rw [hz, M.R_eq]; omega
        have hz2 : ((x : Int) + 1) % 4294967296 = z := by rw [hz]; omega
        have HST := Lib.hid (sp.step (k := k) HM1.out hzl)
        have HPO := Lib.hid (Bq.drew (P.other (g' := g) (i := k) (v := .int .u32 (z : Int)) hne))
        have hxl2 : x < 4294967296 := hxl
        clear sp ho hx hz hzl hxl hlt hne P
        go_wp2
        go_region
        go_wp2
        go_roundg (n - (k + 1))
        case measure => have := HGK.out; omega
        case rel => exact ⟨k + 1, by omega, rfl, by go_num, HST.out, HPO.out⟩
       ·have HS1 := Lib.hid sp
        have HP1 := Lib.hid P
        clear sp P
        go_wp2
        clear hc2 hkn hk HGK
        go_loopg [12] m (fun g v wr' => ∃ k : Nat, k ≤ m ∧ g = m - k ∧ v = .int .i64 (k : Int) ∧ Spl w4 wr' w4.heap.size w7.heap.size rs ∧ Bq wr' wo.heap.size b A n c B m d)
        case atStart => exact ⟨0, by omega, rfl, rfl, HS1.out, HP1.out⟩
        case round =>
         obtain ⟨k, hk, hgk, rfl, sp, P⟩ := hrel
         have HGK := Lib.hid hgk
         have hc2 := P.c2
         clear hgk HS1 HP1
         by_cases hkn : k < m
         ·obtain ⟨zs, ho⟩ := sp.own _ HM2.out
          have hlt := sp.lt _ HM2.out
          dsimp only at ho hlt
          obtain ⟨g, rfl, hg1, hg2⟩ := ho.head (by omega)
          have hne : wo.heap.size ≠ g := by
           have h1 := hlt _ rfl
           have h2 := HG.out
           dsimp only at h1
           omega
          obtain ⟨x, hx⟩ : ∃ x, zs[k]? = some x := ⟨zs[k]'(by rw [ho.len]; exact hkn), List.getElem?_eq_getElem _⟩
          have c1 := ho.cellAt hx
          have f1 := ho.frozenAt k
          simp only [kU32] at c1
          have hxl := ho.lim x (List.mem_of_getElem? hx)
          obtain ⟨z, hz⟩ : ∃ z : Nat, z = (x + 1) % 4294967296 := ⟨_, rfl⟩
          have hzl : z < M.R := by rw [hz, M.R_eq]; omega
          have hz2 : ((x : Int) + 1) % 4294967296 = z := by rw [hz]; omega
          have HST := Lib.hid (sp.step (k := k) HM2.out hzl)
          have HPO := Lib.hid (Bq.drew (P.other (g' := g) (i := k) (v := .int .u32 (z : Int)) hne))
          have hxl2 : x < 4294967296 := hxl
          clear sp ho hx hz hzl hxl hlt hne P
          go_wp2
          go_region
          go_wp2
          go_roundg (m - (k + 1))
          case measure => have := HGK.out; omega
          case rel => exact ⟨k + 1, by omega, rfl, by go_num, HST.out, HPO.out⟩
         ·have HS1 := Lib.hid sp
          have HP1 := Lib.hid P
          clear sp P
          clear HP1
          go_wp2
          go_roundg (6 - (i + 1))
          case measure => have := HGI.out; omega
          case rel => exact ⟨i + 1, by omega, rfl, by go_num, HS1.out⟩
     ·obtain rfl : i = 6 := by omega
      obtain ⟨Xa, Xb, Ra, Rb, Rx, Ry, P5, P6, BB⟩ := FZ.out
      have HB := sp.bel
      clear FZ sp hgi h6 hi HSP HIX HN4
      replace Xa := Xa.below HB
      replace Xb := Xb.below HB
      replace Ra := Ra.below HB
      replace Rb := Rb.below HB
      replace Rx := Rx.below HB
      replace Ry := Ry.below HB
      replace P5 := P5.below HB
      replace P6 := P6.below HB
      replace BB := bl_trans BB HB
      clear HB
      go_upto_region 18 with (fail)
      refine wp_seq 9 ?_
      simp only [List.take_succ_cons, List.take_zero, List.drop_succ_cons, List.drop_zero]
      refine wp_seq_list (Ext := RB) (Rel := RBu) [fun v _ _ => v = .agg #[.bool sa, .slice Ax nx cx, .slice Bx mx dx], fun v _ _ => v = .agg #[.bool sa, .slice Aa (min na 4) ca, .slice Ba (min ma 4) da], fun v _ _ => v = .bool true, fun v _ _ => v = .bool true, fun v _ _ => v = .agg #[.bool sb, .slice Ay ny cy, .slice By my dy], fun v _ _ => v = .agg #[.bool sb, .slice Ab (min nb 4) cb, .slice Bb (min mb 4) db], fun v _ _ => v = .bool true, fun v _ _ => v = .bool true, fun v _ _ => v = .bool true] (n := 9) (by kernel_rfl) (by kernel_rfl) (by kernel_rfl) (by kernel_rfl) (by kernel_rfl) (by kernel_rfl) (by kernel_rfl) rb_refl rb_trans ⟨sC, ⟨sC, ⟨sC, ⟨sC, ⟨sC, ⟨sC, ⟨sC, ⟨sC, ⟨sC, trivial⟩⟩⟩⟩⟩⟩⟩⟩⟩ ?_ ?_
      ·refine ⟨⟨⟨⟨⟨⟨⟨⟨⟨trivial, ?_⟩, ?_⟩, ?_⟩, ?_⟩, ?_⟩, ?_⟩, ?_⟩, ?_⟩, ?_⟩
       ·refine rs_plain rfl rfl fun a wr S => ?_
        have X := rbX S.ext
        exact wp_qload (ev_of ((S.old 5 (by kernel_rfl)).trans rfl)) (P5.below X) (done (by kernel_rfl) rbu_refl rfl)
       ·refine rs_plain rfl rfl fun a wr S => ?_
        have X := rbX S.ext
        exact wp_qload (ev_of ((S.old 2 (by kernel_rfl)).trans rfl)) (Xa.below X) (done (by kernel_rfl) rbu_refl rfl)
       ·refine rs_plain rfl rfl fun a wr S => ?_
        have X := rbX S.ext
        obtain ⟨v0, e0, h0⟩ := S.got 0 (by kernel_rfl)
        obtain ⟨v1, e1, h1⟩ := S.got 1 (by kernel_rfl)
        exact st_call cf_law03_same (args2 ((ev_of (e0 86 (by kernel_rfl))).trans h0) ((ev_of (e1 87 (by kernel_rfl))).trans h1)) (by kernel_rfl) rb (cSameR (Rx.below X) (Ra.below X) (by omega) (by omega) (r := true) ⟨fun _ => ⟨rfl, rfl, rfl⟩, fun _ => rfl⟩) (fun _ _ _ h => h)
       ·refine rs_plain rfl rfl fun a wr S => ?_
        have X := rbX S.ext
        obtain ⟨v2, e2, h2⟩ := S.got 2 (by kernel_rfl)
        exact wp_mv ((ev_of (e2 88 (by kernel_rfl))).trans h2) (done (by kernel_rfl) rbu_refl rfl)
       ·refine rs_yes rfl rfl (by kernel_rfl) (by kernel_rfl : _ = some 89) (fun _ _ _ h => h) fun a wr S => ?_
        have X := rbX S.ext
        exact wp_qload (ev_of ((S.old 6 (by kernel_rfl)).trans rfl)) (P6.below X) (done (by kernel_rfl) rbu_refl rfl)
       ·refine rs_yes rfl rfl (by kernel_rfl) (by kernel_rfl : _ = some 89) (fun _ _ _ h => h) fun a wr S => ?_
        have X := rbX S.ext
        exact wp_qload (ev_of ((S.old 3 (by kernel_rfl)).trans rfl)) (Xb.below X) (done (by kernel_rfl) rbu_refl rfl)
       ·refine rs_yes rfl rfl (by kernel_rfl) (by kernel_rfl : _ = some 89) (fun _ _ _ h => h) fun a wr S => ?_
        have X := rbX S.ext
        obtain ⟨v4, e4, h4⟩ := S.got 4 (by kernel_rfl)
        obtain ⟨v5, e5, h5⟩ := S.got 5 (by kernel_rfl)
        exact st_call cf_law03_same (args2 ((ev_of (e4 90 (by kernel_rfl))).trans h4) ((ev_of (e5 91 (by kernel_rfl))).trans h5)) (by kernel_rfl) rb (cSameR (Ry.below X) (Rb.below X) (by omega) (by omega) (r := true) ⟨fun _ => ⟨rfl, rfl, rfl⟩, fun _ => rfl⟩) (fun _ _ _ h => h)
       ·refine rs_plain rfl rfl fun a wr S => ?_
        have X := rbX S.ext
        obtain ⟨v3, e3, h3⟩ := S.got 3 (by kernel_rfl)
        obtain ⟨v6, e6, h6⟩ := S.got 6 (by kernel_rfl)
        exact wp_pickT ((ev_of (e3 89 (by kernel_rfl))).trans h3) ((ev_of (e6 92 (by kernel_rfl))).trans h6) (done (by kernel_rfl) rbu_refl rfl)
       ·refine rs_plain rfl rfl fun a wr S => ?_
        have X := rbX S.ext
        obtain ⟨v7, e7, h7⟩ := S.got 7 (by kernel_rfl)
        exact wp_as ((ev_of (e7 93 (by kernel_rfl))).trans h7) (done (by kernel_rfl) rbu_refl rfl)
      ·intro fw8 w8 hR hv hap
       clear hap
       replace hR := rbX hR
       have f0 : fw8 0 = .agg #[.bool sa, .slice Ax nx cx, .slice Bx mx dx] := (hvc (hv 0 (by omega))).elim fun _ h => h
       have f1 : fw8 1 = .agg #[.bool sa, .slice Aa (min na 4) ca, .slice Ba (min ma 4) da] := (hvc (hv 1 (by omega))).elim fun _ h => h
       have f2 : fw8 2 = .bool true := (hvc (hv 2 (by omega))).elim fun _ h => h
       have f3 : fw8 3 = .bool true := (hvc (hv 3 (by omega))).elim fun _ h => h
       have f4 : fw8 4 = .agg #[.bool sb, .slice Ay ny cy, .slice By my dy] := (hvc (hv 4 (by omega))).elim fun _ h => h
       have f5 : fw8 5 = .agg #[.bool sb, .slice Ab (min nb 4) cb, .slice Bb (min mb 4) db] := (hvc (hv 5 (by omega))).elim fun _ h => h
       have f6 : fw8 6 = .bool true := (hvc (hv 6 (by omega))).elim fun _ h => h
       have f7 : fw8 7 = .bool true := (hvc (hv 7 (by omega))).elim fun _ h => h
       have f8 : fw8 8 = .bool true := (hvc (hv 8 (by omega))).elim fun _ h => h
       simp only [putFn, Act.put, List.setIfInBounds_toArray, List.set_cons_zero, List.set_cons_succ, f0, f1, f2, f3, f4, f5, f6, f7, f8]
       replace Xa := Xa.below hR
       replace Xb := Xb.below hR
       replace Ra := Ra.below hR
       replace Rb := Rb.below hR
       replace Rx := Rx.below hR
       replace Ry := Ry.below hR
       replace P5 := P5.below hR
       replace P6 := P6.below hR
       replace BB := bl_trans BB hR
       clear hR hv
       go_wp2_with fail
       go_ret
       exact ⟨rfl, BB⟩
theorem ratShares_walk (sa : Bool) (Aa : Option Addr) (na ca : Nat) (xa : List Nat) (Ba : Option Addr) (ma da : Nat) (ya : List Nat) (sb : Bool) (Ab : Option Addr) (nb cb : Nat) (xb : List Nat) (Bb : Option Addr) (mb db : Nat) (yb : List Nat) (w : World) (ha : (Rd w Aa na ca xa ∧ na ≤ maxLen) ∧ (Rd w Ba ma da ya ∧ ma ≤ maxLen)) (hb : (Rd w Ab nb cb xb ∧ nb ≤ maxLen) ∧ (Rd w Bb mb db yb ∧ mb ≤ maxLen)) : Calls Tryz.prog 10 #[.agg #[.bool sa, .slice Aa na ca, .slice Ba ma da], .agg #[.bool sb, .slice Ab nb cb, .slice Bb mb db]] w fun e w' => e = .returned (.bool true) ∧ Below w.heap.size w w' :=
 ratShares_in sa Aa na ca xa Ba ma da ya sb Ab nb cb xb Bb mb db yb _ _ w (Lib.hid ha.1.1) (Lib.hid ha.1.2) (Lib.hid ha.2.1) (Lib.hid ha.2.2) (Lib.hid hb.1.1) (Lib.hid hb.1.2) (Lib.hid hb.2.1) (Lib.hid hb.2.2) (Lib.hid rfl) (Lib.hid rfl) 

end Go.Proofs.YtbhgbilhoonopaaGreat
