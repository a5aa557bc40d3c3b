/- litmuslaw03.RatWhole answers true at every input, and changes nothing that was there: its walk. -/
import Derived.Test.YtbhgbilhoonopaaGreatQAlloc
namespace Go.Proofs.YtbhgbilhoonopaaGreat
open Go.RowKit
set_option linter.unusedVariables false
set_option maxRecDepth 100000

theorem whole_lo (q : Rat) : ¬ 0 < cmpQ ((q.floor : Int) : Rat) q := by
  have := cmpQ_le.2 (Rat.floor_le q)
  omega
theorem whole_hi (q : Rat) : ¬ 0 < cmpQ q ((q.ceil : Int) : Rat) := by
  have := cmpQ_le.2 (Rat.le_ceil (x := q))
  omega
theorem one_cast : ((1 : Int) : Rat) = 1 := rfl
theorem whole_lo1 (q : Rat) : ¬ 0 ≤ cmpQ (q - ((q.floor : Int) : Rat)) ((1 : Int) : Rat) := by
  rw [cQlt]
  · omega
  · have h := Rat.lt_floor_add_one q
    rw [Rat.intCast_add, one_cast, Rat.add_comm] at h
    rw [one_cast, Rat.sub_lt_iff]
    exact h
theorem whole_hi1 (q : Rat) : ¬ 0 ≤ cmpQ (((q.ceil : Int) : Rat) - q) ((1 : Int) : Rat) := by
  rw [cQlt]
  · omega
  · rw [one_cast, Rat.sub_lt_iff, Rat.add_comm]
    exact Rat.ceil_lt
theorem int_inj {a b : Int} (h : (a : Rat) = (b : Rat)) : a = b := by simpa using congrArg Rat.num h
theorem whole_int (z : Int) : (((z : Rat).floor : Int) : Rat) = (z : Rat) := by rw [Rat.floor_intCast]
theorem whole_same (q : Rat) : ((q.floor : Int) : Rat) = ((q.ceil : Int) : Rat) ↔ q.den = 1 := by
  constructor
  · intro h
    have h1 := Rat.floor_le q
    have h2 := Rat.le_ceil (x := q)
    rw [← h] at h2
    have := Rat.le_antisymm h1 h2
    rw [← this]
    exact Rat.den_intCast _
  · intro h
    have e : q = (q.num : Rat) := Rat.ext rfl h
    rw [e, Rat.floor_intCast, Rat.ceil_intCast]
theorem whole_mono (a b : Rat) (h : cmpQ a b ≤ 0) : cmpQ ((a.floor : Int) : Rat) ((b.floor : Int) : Rat) ≤ 0 := by
  rw [cmpQ_le] at h ⊢
  rw [Rat.intCast_le_intCast]
  exact Rat.floor_monotone h
set_option maxHeartbeats 4000000 in
theorem ratWhole_in (sa : Bool) (Aa : Option Addr) (na ca : Nat) (xa : List Nat) (Ba : Option Addr) (ma da : Nat) (ya : List Nat) (sb : Bool) (Ab : Option Addr) (nb cb : Nat) (xb : List Nat) (Bb : Option Addr) (mb db : Nat) (yb : List Nat) (qa qb : Rat) (w : World) (Ha : Hid (Rd w Aa na ca xa)) (Ia : Hid (na ≤ maxLen)) (Ja : Hid (Rd w Ba ma da ya)) (Ka : Hid (ma ≤ maxLen)) (Hb : Hid (Rd w Ab nb cb xb)) (Ib : Hid (nb ≤ maxLen)) (Jb : Hid (Rd w Bb mb db yb)) (Kb : Hid (mb ≤ maxLen)) (Za : Hid (qa = mkRat (zv sa (M.val (xa.take (min na 4)))) (dOf (M.val (ya.take (min ma 4)))))) (Zb : Hid (qb = mkRat (zv sb (M.val (xb.take (min nb 4)))) (dOf (M.val (yb.take (min mb 4)))))) : Calls Tryz.prog 8 #[.agg #[.bool sa, .slice Aa na ca, .slice Ba ma da], .agg #[.bool sb, .slice Ab nb cb, .slice Bb mb db]] w fun e w' => e = .returned (.bool true) ∧ Below w.heap.size w w' := by
  have BB := (bl_trans (bl_alloc w (.cells #[.bool sa, .slice Aa na ca, .slice Ba ma da] 26)) (bl_alloc _ (.cells #[.bool sb, .slice Ab nb cb, .slice Bb mb db] 26)))
  have Pa := (Bq.new w  sa Aa na ca Ba ma da).alloc (.cells #[.bool sb, .slice Ab nb cb, .slice Bb mb db] 26)
  have Pb := Bq.new2 w (.cells #[.bool sa, .slice Aa na ca, .slice Ba ma da] 26) sb Ab nb cb Bb mb db
  go_enter Tryz.func8, Tryz.ntmps8
  go_wp2_with fail
  refine (cWorks3 _).mono ?_
  rintro e w1 ⟨_, rfl, hb1, rfl⟩
  replace Pa := Pa.below hb1
  replace Pb := Pb.below hb1
  replace BB := bl_trans BB hb1
  clear hb1
  go_wp2_with fail
  refine wp_cut (by kernel_rfl) 4 ?_
  simp only [List.take_succ_cons, List.take_zero, List.drop_succ_cons, List.drop_zero]
  refine wp_cut_list (Ext := RB) (Rel := RBu) [fun v _ _ => v = .agg #[.bool sa, .slice Aa na ca, .slice Ba ma da], fun v _ _ => v = .agg #[.bool sa, .slice Aa (min na 4) ca, .slice Ba (min ma 4) da], fun v _ _ => v = .agg #[.bool sb, .slice Ab nb cb, .slice Bb mb db], fun v _ _ => v = .agg #[.bool sb, .slice Ab (min nb 4) cb, .slice Bb (min mb 4) db]] (n := 4) (by kernel_rfl) (by kernel_rfl) (by kernel_rfl) (by kernel_rfl) (by kernel_rfl) (by kernel_rfl) (by kernel_rfl) (by kernel_rfl) (by kernel_rfl) rb_refl rb_trans ⟨sC, ⟨sC, ⟨sC, ⟨sC, trivial⟩⟩⟩⟩ ?_ ?_
  · refine ⟨⟨⟨⟨trivial, ?_⟩, ?_⟩, ?_⟩, ?_⟩
    · refine rs_plain rfl rfl fun a wr S => ?_
      have X := undrew S.ext
      exact wp_qload (ev_of ((S.old 2 (by kernel_rfl)).trans rfl)) (Pa.below X) (done (by kernel_rfl) rbu_refl rfl)
    · refine rs_plain rfl rfl fun a wr S => ?_
      have X := undrew S.ext
      obtain ⟨v0, e0, h0⟩ := S.got 0 (by kernel_rfl)
      exact st_call cf_law03_few (args2 ((ev_of (e0 9 (by kernel_rfl))).trans h0) rfl) (by kernel_rfl) rb (cFew3 Ha.out.cap Ja.out.cap Ia.out Ka.out 4 _ rfl (by omega)) (fun _ _ _ h => h)
    · refine rs_plain rfl rfl fun a wr S => ?_
      have X := undrew S.ext
      exact wp_qload (ev_of ((S.old 3 (by kernel_rfl)).trans rfl)) (Pb.below X) (done (by kernel_rfl) rbu_refl rfl)
    · refine rs_plain rfl rfl fun a wr S => ?_
      have X := undrew S.ext
      obtain ⟨v2, e2, h2⟩ := S.got 2 (by kernel_rfl)
      exact st_call cf_law03_few (args2 ((ev_of (e2 11 (by kernel_rfl))).trans h2) rfl) (by kernel_rfl) rb (cFew3 Hb.out.cap Jb.out.cap Ib.out Kb.out 4 _ rfl (by omega)) (fun _ _ _ h => h)
  · intro fw2 w2 hR hv hap
    clear hap
    replace hR := undrew hR
    have f0 : fw2 0 = .agg #[.bool sa, .slice Aa na ca, .slice Ba ma da] := (hvc (hv 0 (by omega))).elim fun _ h => h
    have f1 : fw2 1 = .agg #[.bool sa, .slice Aa (min na 4) ca, .slice Ba (min ma 4) da] := (hvc (hv 1 (by omega))).elim fun _ h => h
    have f2 : fw2 2 = .agg #[.bool sb, .slice Ab nb cb, .slice Bb mb db] := (hvc (hv 2 (by omega))).elim fun _ h => h
    have f3 : fw2 3 = .agg #[.bool sb, .slice Ab (min nb 4) cb, .slice Bb (min mb 4) db] := (hvc (hv 3 (by omega))).elim fun _ h => h
    simp only [putFn, Act.put, List.setIfInBounds_toArray, List.set_cons_zero, List.set_cons_succ, f0, f1, f2, f3]
    replace Pa := Pa.below hR
    replace Pb := Pb.below hR
    replace BB := bl_trans BB hR
    clear hR hv
    have ra0 := Pa.c0
    have fa0 := Pa.f 0
    have ra1 := Pa.c1
    have fa1 := Pa.f 1
    have ra2 := Pa.c2
    have fa2 := Pa.f 2
    have rb0 := Pb.c0
    have fb0 := Pb.f 0
    have rb1 := Pb.c1
    have fb1 := Pb.f 1
    have rb2 := Pb.c2
    have fb2 := Pb.f 2
    go_wp2_with fail
    clear ra0 fa0 ra1 fa1 ra2 fa2 rb0 fb0 rb1 fb1 rb2 fb2
    have Xa := ((((Pa.set3 (b' := sa) (A' := Aa) (n' := min na 4) (c' := ca) (B' := Ba) (m' := min ma 4) (d' := da)).other (g' := w.heap.size + 1) (i := 0) (v := .bool sb) (by omega)).other (g' := w.heap.size + 1) (i := 1) (v := .slice Ab (min nb 4) cb) (by omega)).other (g' := w.heap.size + 1) (i := 2) (v := .slice Bb (min mb 4) db) (by omega))
    have Xb := ((((Pb.other (g' := w.heap.size) (i := 0) (v := .bool sa) (by omega)).other (g' := w.heap.size) (i := 1) (v := .slice Aa (min na 4) ca) (by omega)).other (g' := w.heap.size) (i := 2) (v := .slice Ba (min ma 4) da) (by omega)).set3 (b' := sb) (A' := Ab) (n' := min nb 4) (c' := cb) (B' := Bb) (m' := min mb 4) (d' := db))
    replace BB := ((((((BB.setCell (p := ⟨w.heap.size, 0, none⟩) (by show _ ≤ w.heap.size; omega) (.bool sa)).setCell (p := ⟨w.heap.size, 1, none⟩) (by show _ ≤ w.heap.size; omega) (.slice Aa (min na 4) ca)).setCell (p := ⟨w.heap.size, 2, none⟩) (by show _ ≤ w.heap.size; omega) (.slice Ba (min ma 4) da)).setCell (p := ⟨w.heap.size + 1, 0, none⟩) (by show _ ≤ w.heap.size + 1; omega) (.bool sb)).setCell (p := ⟨w.heap.size + 1, 1, none⟩) (by show _ ≤ w.heap.size + 1; omega) (.slice Ab (min nb 4) cb)).setCell (p := ⟨w.heap.size + 1, 2, none⟩) (by show _ ≤ w.heap.size + 1; omega) (.slice Bb (min mb 4) db))
    clear Pa Pb
    generalize ((((((w2.setCell ⟨w.heap.size, 0, none⟩ (.bool sa)).setCell ⟨w.heap.size, 1, none⟩ (.slice Aa (min na 4) ca)).setCell ⟨w.heap.size, 2, none⟩ (.slice Ba (min ma 4) da)).setCell ⟨w.heap.size + 1, 0, none⟩ (.bool sb)).setCell ⟨w.heap.size + 1, 1, none⟩ (.slice Ab (min nb 4) cb)).setCell ⟨w.heap.size + 1, 2, none⟩ (.slice Bb (min mb 4) db)) = wh at Xa Xb BB ⊢
    have Qa : IsQm wh (.agg #[.bool sa, .slice Aa (min na 4) ca, .slice Ba (min ma 4) da]) qa 4 := by rw [Za.out]; exact few_q (Ha.out.below BB) (Ja.out.below BB) 4
    have Qb : IsQm wh (.agg #[.bool sb, .slice Ab (min nb 4) cb, .slice Bb (min mb 4) db]) qb 4 := by rw [Zb.out]; exact few_q (Hb.out.below BB) (Jb.out.below BB) 4
    clear Ha Ia Ja Ka Za Hb Ib Jb Kb Zb
    refine wp_cut (by kernel_rfl) 8 ?_
    simp only [List.take_succ_cons, List.take_zero, List.drop_succ_cons, List.drop_zero]
    refine wp_cut_list (Ext := RB) (Rel := RBu) [fun v _ _ => v = .agg #[.bool sa, .slice Aa (min na 4) ca, .slice Ba (min ma 4) da], fun v _ w => IsZ (wh).heap.size w v (qa.floor) 5, fun v _ w => IsQ (wh).heap.size w v (((qa.floor : Int) : Rat)) 5, fun v _ _ => v = .agg #[.bool sa, .slice Aa (min na 4) ca, .slice Ba (min ma 4) da], fun v _ w => IsZ (wh).heap.size w v (qa.ceil) 5, fun v _ w => IsQ (wh).heap.size w v (((qa.ceil : Int) : Rat)) 5, fun v _ w => IsPQ (wh).heap.size w v, fun v _ w => IsPQ (wh).heap.size w v] (n := 8) (by kernel_rfl) (by kernel_rfl) (by kernel_rfl) (by kernel_rfl) (by kernel_rfl) (by kernel_rfl) (by kernel_rfl) (by kernel_rfl) (by kernel_rfl) rb_refl rb_trans ⟨sC, ⟨sZ, ⟨sQ, ⟨sC, ⟨sZ, ⟨sQ, ⟨sPQ, ⟨sPQ, trivial⟩⟩⟩⟩⟩⟩⟩⟩ ?_ ?_
    · refine ⟨⟨⟨⟨⟨⟨⟨⟨trivial, ?_⟩, ?_⟩, ?_⟩, ?_⟩, ?_⟩, ?_⟩, ?_⟩, ?_⟩
      · refine rs_plain rfl rfl fun a wr S => ?_
        have X := undrew S.ext
        exact wp_qload (ev_of ((S.old 2 (by kernel_rfl)).trans rfl)) (Xa.below X) (done (by kernel_rfl) rbu_refl rfl)
      · refine rs_plain rfl rfl fun a wr S => ?_
        have X := undrew S.ext
        obtain ⟨v0, e0, h0⟩ := S.got 0 (by kernel_rfl)
        exact st_call cf_rat_Floor (args1 ((ev_of (e0 13 (by kernel_rfl))).trans h0)) (by kernel_rfl) rb ((cQFloor (show IsQm _ _ _ _ from (Qa.below X)) (by omega) (by omega)).mono (ansZ_base X.size)) (fun _ _ _ h => h)
      · refine rs_plain rfl rfl fun a wr S => ?_
        have X := undrew S.ext
        obtain ⟨v1, e1, h1⟩ := S.got 1 (by kernel_rfl)
        exact st_call cf_rat_Int (args1 (ev_of (e1 14 (by kernel_rfl)))) (by kernel_rfl) rb ((cQInt (show IsM _ _ _ _ from h1.m) (by omega) (by omega)).mono (ansQ_base X.size)) (fun _ _ _ h => h)
      · refine rs_plain rfl rfl fun a wr S => ?_
        have X := undrew S.ext
        exact wp_qload (ev_of ((S.old 2 (by kernel_rfl)).trans rfl)) (Xa.below X) (done (by kernel_rfl) rbu_refl rfl)
      · refine rs_plain rfl rfl fun a wr S => ?_
        have X := undrew S.ext
        obtain ⟨v3, e3, h3⟩ := S.got 3 (by kernel_rfl)
        exact st_call cf_rat_Ceil (args1 ((ev_of (e3 16 (by kernel_rfl))).trans h3)) (by kernel_rfl) rb ((cQCeil (show IsQm _ _ _ _ from (Qa.below X)) (by omega) (by omega)).mono (ansZ_base X.size)) (fun _ _ _ h => h)
      · refine rs_plain rfl rfl fun a wr S => ?_
        have X := undrew S.ext
        obtain ⟨v4, e4, h4⟩ := S.got 4 (by kernel_rfl)
        exact st_call cf_rat_Int (args1 (ev_of (e4 17 (by kernel_rfl)))) (by kernel_rfl) rb ((cQInt (show IsM _ _ _ _ from h4.m) (by omega) (by omega)).mono (ansQ_base X.size)) (fun _ _ _ h => h)
      · refine rs_plain rfl rfl fun a wr S => ?_
        have X := undrew S.ext
        refine st_allocQ X.size (fun _ _ _ h => h) fun j vj u hj hs => ?_
        have hj' : j ∈ [6, 7] := alloc_cases (by kernel_rfl) j hj
        simp only [List.mem_cons, List.not_mem_nil, or_false] at hj'
        rcases hj' with rfl | rfl <;> exact IsPQ.lt hs
      · refine rs_plain rfl rfl fun a wr S => ?_
        have X := undrew S.ext
        refine st_allocQ X.size (fun _ _ _ h => h) fun j vj u hj hs => ?_
        have hj' : j ∈ [6, 7] := alloc_cases (by kernel_rfl) j hj
        simp only [List.mem_cons, List.not_mem_nil, or_false] at hj'
        rcases hj' with rfl | rfl <;> exact IsPQ.lt hs
    · intro fw3 w3 hR hv hap
      replace hR := undrew hR
      have f0 : fw3 0 = .agg #[.bool sa, .slice Aa (min na 4) ca, .slice Ba (min ma 4) da] := (hvc (hv 0 (by omega))).elim fun _ h => h
      have f3 : fw3 3 = .agg #[.bool sa, .slice Aa (min na 4) ca, .slice Ba (min ma 4) da] := (hvc (hv 3 (by omega))).elim fun _ h => h
      obtain ⟨bd, Ad, nd, cd, Bd, md, dd, f2, Zd, Od, ld⟩ := (show IsQ _ w3 _ (((qa.floor : Int) : Rat)) 5 from (hvc (hv 2 (by omega))).elim fun _ h => h)
      obtain ⟨bu, Au, nu, cu, Bu, mu, du, f5, Zu, Ou, lu⟩ := (show IsQ _ w3 _ (((qa.ceil : Int) : Rat)) 5 from (hvc (hv 5 (by omega))).elim fun _ h => h)
      obtain ⟨g5, f6, hg5, P5⟩ := (show IsPQ _ w3 _ from (hvc (hv 6 (by omega))).elim fun _ h => h)
      obtain ⟨g6, f7, hg6, P6⟩ := (show IsPQ _ w3 _ from (hvc (hv 7 (by omega))).elim fun _ h => h)
      have hne56 : g5 ≠ g6 := fun e => hap 6 7 5 6 (by omega) (by omega) (by omega) (by kernel_rfl) (by kernel_rfl) (by kernel_rfl) (by kernel_rfl) (by rw [f6, f7, e])
      simp only [putFn, Act.put, List.setIfInBounds_toArray, List.set_cons_zero, List.set_cons_succ, f0, f3, f2, f5, f6, f7]
      clear hap
      have Qd : IsQt w3 (.agg #[.bool bd, .slice Ad nd cd, .slice Bd md dd]) (((qa.floor : Int) : Rat)) 5 := IsQ.t ⟨_, _, _, _, _, _, _, rfl, Zd, Od, ld⟩
      clear Zd Od ld
      have Qu : IsQt w3 (.agg #[.bool bu, .slice Au nu cu, .slice Bu mu du]) (((qa.ceil : Int) : Rat)) 5 := IsQ.t ⟨_, _, _, _, _, _, _, rfl, Zu, Ou, lu⟩
      clear Zu Ou lu
      have r50 := P5.c0
      have t50 := P5.f 0
      have r51 := P5.c1
      have t51 := P5.f 1
      have r52 := P5.c2
      have t52 := P5.f 2
      have r60 := P6.c0
      have t60 := P6.f 0
      have r61 := P6.c1
      have t61 := P6.f 1
      have r62 := P6.c2
      have t62 := P6.f 2
      go_upto_region 5 with (fail)
      clear r50 t50 r51 t51 r52 t52 r60 t60 r61 t61 r62 t62
      replace hR := Below.put3 hR hg5 (b' := bd) (A' := Ad) (n' := nd) (c' := cd) (B' := Bd) (m' := md) (d' := dd)
      replace Qd := Qd.put3 P5 (b' := bd) (A' := Ad) (n' := nd) (c' := cd) (B' := Bd) (m' := md) (d' := dd)
      replace Qu := Qu.put3 P5 (b' := bd) (A' := Ad) (n' := nd) (c' := cd) (B' := Bd) (m' := md) (d' := dd)
      replace P6 := P6.put3 (t' := true) hne56.symm (b' := bd) (A' := Ad) (n' := nd) (c' := cd) (B' := Bd) (m' := md) (d' := dd)
      replace P5 := P5.set3 (b' := bd) (A' := Ad) (n' := nd) (c' := cd) (B' := Bd) (m' := md) (d' := dd)
      replace hR := Below.put3 hR hg6 (b' := bu) (A' := Au) (n' := nu) (c' := cu) (B' := Bu) (m' := mu) (d' := du)
      replace Qd := Qd.put3 P6 (b' := bu) (A' := Au) (n' := nu) (c' := cu) (B' := Bu) (m' := mu) (d' := du)
      replace Qu := Qu.put3 P6 (b' := bu) (A' := Au) (n' := nu) (c' := cu) (B' := Bu) (m' := mu) (d' := du)
      replace P5 := P5.put3 (t' := true) hne56 (b' := bu) (A' := Au) (n' := nu) (c' := cu) (B' := Bu) (m' := mu) (d' := du)
      replace P6 := P6.set3 (b' := bu) (A' := Au) (n' := nu) (c' := cu) (B' := Bu) (m' := mu) (d' := du)
      clear hv
      generalize World.setCell _ ⟨g6, 2, none⟩ _ = w4 at Qd Qu P5 P6 hR ⊢
      replace Xa := Xa.below hR
      replace Xb := Xb.below hR
      replace Qa := Qa.below hR
      replace Qb := Qb.below hR
      replace BB := bl_trans BB hR
      clear hR
      obtain ⟨s, hs⟩ : ∃ s, cmpQ ((qa.floor : Int) : Rat) qa = s := ⟨_, rfl⟩
      obtain ⟨t, ht⟩ : ∃ t, cmpQ qa ((qa.ceil : Int) : Rat) = t := ⟨_, rfl⟩
      obtain ⟨r, hr⟩ : ∃ r, cmpQ (qa - ((qa.floor : Int) : Rat)) ((1 : Int) : Rat) = r := ⟨_, rfl⟩
      obtain ⟨o, ho⟩ : ∃ o, cmpQ (((qa.ceil : Int) : Rat) - qa) ((1 : Int) : Rat) = o := ⟨_, rfl⟩
      have s0 : ¬ 0 < s := by rw [← hs]; exact whole_lo qa
      have t0 : ¬ 0 < t := by rw [← ht]; exact whole_hi qa
      have r0 : ¬ 0 ≤ r := by rw [← hr]; exact whole_lo1 qa
      have o0 : ¬ 0 ≤ o := by rw [← ho]; exact whole_hi1 qa
      have HS := Lib.hid hs
      have HT := Lib.hid ht
      have HR := Lib.hid hr
      have HO := Lib.hid ho
      clear hs ht hr ho
      refine wp_seq 26 ?_
      simp only [List.take_succ_cons, List.take_zero, List.drop_succ_cons, List.drop_zero]
      refine wp_seq_list (Ext := RB) (Rel := RBu) [fun v _ _ => v = .agg #[.bool bd, .slice Ad nd cd, .slice Bd md dd], fun v _ _ => v = .agg #[.bool sa, .slice Aa (min na 4) ca, .slice Ba (min ma 4) da], fun v _ _ => v = .int .i64 s, fun v _ _ => v = .bool false, fun v _ _ => v = .bool false, fun v _ _ => v = .agg #[.bool sa, .slice Aa (min na 4) ca, .slice Ba (min ma 4) da], fun v _ _ => v = .agg #[.bool bu, .slice Au nu cu, .slice Bu mu du], fun v _ _ => v = .int .i64 t, fun v _ _ => v = .bool false, fun v _ _ => v = .bool false, fun v _ _ => v = .bool false, fun v _ _ => v = .agg #[.bool sa, .slice Aa (min na 4) ca, .slice Ba (min ma 4) da], fun v _ _ => v = .agg #[.bool bd, .slice Ad nd cd, .slice Bd md dd], fun v _ w => IsQ (w4).heap.size w v (qa - (((qa.floor : Int) : Rat))) 10, fun v _ w => IsQ (w4).heap.size w v (((1 : Int) : Rat)) 2, fun v _ _ => v = .int .i64 r, fun v _ _ => v = .bool false, fun v _ _ => v = .bool false, fun v _ _ => v = .bool false, fun v _ _ => v = .agg #[.bool bu, .slice Au nu cu, .slice Bu mu du], fun v _ _ => v = .agg #[.bool sa, .slice Aa (min na 4) ca, .slice Ba (min ma 4) da], fun v _ w => IsQ (w4).heap.size w v ((((qa.ceil : Int) : Rat)) - qa) 10, fun v _ w => IsQ (w4).heap.size w v (((1 : Int) : Rat)) 2, fun v _ _ => v = .int .i64 o, fun v _ _ => v = .bool false, fun v _ _ => v = .bool false] (n := 26) (by kernel_rfl) (by kernel_rfl) (by kernel_rfl) (by kernel_rfl) (by kernel_rfl) (by kernel_rfl) (by kernel_rfl) rb_refl rb_trans ⟨sC, ⟨sC, ⟨sC, ⟨sC, ⟨sC, ⟨sC, ⟨sC, ⟨sC, ⟨sC, ⟨sC, ⟨sC, ⟨sC, ⟨sC, ⟨sQ, ⟨sQ, ⟨sC, ⟨sC, ⟨sC, ⟨sC, ⟨sC, ⟨sC, ⟨sQ, ⟨sQ, ⟨sC, ⟨sC, ⟨sC, trivial⟩⟩⟩⟩⟩⟩⟩⟩⟩⟩⟩⟩⟩⟩⟩⟩⟩⟩⟩⟩⟩⟩⟩⟩⟩⟩ ?_ ?_
      · refine ⟨⟨⟨⟨⟨⟨⟨⟨⟨⟨⟨⟨⟨⟨⟨⟨⟨⟨⟨⟨⟨⟨⟨⟨⟨⟨trivial, ?_⟩, ?_⟩, ?_⟩, ?_⟩, ?_⟩, ?_⟩, ?_⟩, ?_⟩, ?_⟩, ?_⟩, ?_⟩, ?_⟩, ?_⟩, ?_⟩, ?_⟩, ?_⟩, ?_⟩, ?_⟩, ?_⟩, ?_⟩, ?_⟩, ?_⟩, ?_⟩, ?_⟩, ?_⟩, ?_⟩
        · refine rs_plain rfl rfl fun a wr S => ?_
          have X := rbX S.ext
          exact wp_qload (ev_of ((S.old 5 (by kernel_rfl)).trans rfl)) (P5.below X) (done (by kernel_rfl) rbu_refl rfl)
        · refine rs_plain rfl rfl fun a wr S => ?_
          have X := rbX S.ext
          exact wp_qload (ev_of ((S.old 2 (by kernel_rfl)).trans rfl)) (Xa.below X) (done (by kernel_rfl) rbu_refl rfl)
        · refine rs_plain rfl rfl fun a wr S => ?_
          have X := rbX S.ext
          obtain ⟨v0, e0, h0⟩ := S.got 0 (by kernel_rfl)
          obtain ⟨v1, e1, h1⟩ := S.got 1 (by kernel_rfl)
          exact st_call cf_rat_Cmp (args2 ((ev_of (e0 19 (by kernel_rfl))).trans h0) ((ev_of (e1 20 (by kernel_rfl))).trans h1)) (by kernel_rfl) rb ((cQCmp (show IsQm _ _ _ _ from (Qd.below X).m) (show IsQm _ _ _ _ from (Qa.below X)) (by omega) (by omega) (by omega) (by omega)).mono (ans_intW HS.out)) (fun _ _ _ h => h)
        · refine rs_plain rfl rfl fun a wr S => ?_
          have X := rbX S.ext
          obtain ⟨v2, e2, h2⟩ := S.got 2 (by kernel_rfl)
          exact wp_gtI ((ev_of (e2 21 (by kernel_rfl))).trans h2) rfl (done (by kernel_rfl) rbu_refl (congrArg Value.bool (decide_eq_false s0)))
        · refine rs_plain rfl rfl fun a wr S => ?_
          have X := rbX S.ext
          obtain ⟨v3, e3, h3⟩ := S.got 3 (by kernel_rfl)
          exact wp_mv ((ev_of (e3 22 (by kernel_rfl))).trans h3) (done (by kernel_rfl) rbu_refl rfl)
        · refine rs_yes rfl rfl (by kernel_rfl) (by kernel_rfl : _ = some 23) (fun _ _ _ h => h) fun a wr S => ?_
          have X := rbX S.ext
          exact wp_qload (ev_of ((S.old 2 (by kernel_rfl)).trans rfl)) (Xa.below X) (done (by kernel_rfl) rbu_refl rfl)
        · refine rs_yes rfl rfl (by kernel_rfl) (by kernel_rfl : _ = some 23) (fun _ _ _ h => h) fun a wr S => ?_
          have X := rbX S.ext
          exact wp_qload (ev_of ((S.old 6 (by kernel_rfl)).trans rfl)) (P6.below X) (done (by kernel_rfl) rbu_refl rfl)
        · refine rs_yes rfl rfl (by kernel_rfl) (by kernel_rfl : _ = some 23) (fun _ _ _ h => h) fun a wr S => ?_
          have X := rbX S.ext
          obtain ⟨v5, e5, h5⟩ := S.got 5 (by kernel_rfl)
          obtain ⟨v6, e6, h6⟩ := S.got 6 (by kernel_rfl)
          exact st_call cf_rat_Cmp (args2 ((ev_of (e5 24 (by kernel_rfl))).trans h5) ((ev_of (e6 25 (by kernel_rfl))).trans h6)) (by kernel_rfl) rb ((cQCmp (show IsQm _ _ _ _ from (Qa.below X)) (show IsQm _ _ _ _ from (Qu.below X).m) (by omega) (by omega) (by omega) (by omega)).mono (ans_intW HT.out)) (fun _ _ _ h => h)
        · refine rs_yes rfl rfl (by kernel_rfl) (by kernel_rfl : _ = some 23) (fun _ _ _ h => h) fun a wr S => ?_
          have X := rbX S.ext
          obtain ⟨v7, e7, h7⟩ := S.got 7 (by kernel_rfl)
          exact wp_gtI ((ev_of (e7 26 (by kernel_rfl))).trans h7) rfl (done (by kernel_rfl) rbu_refl (congrArg Value.bool (decide_eq_false t0)))
        · refine rs_plain rfl rfl fun a wr S => ?_
          have X := rbX S.ext
          obtain ⟨v4, e4, h4⟩ := S.got 4 (by kernel_rfl)
          obtain ⟨v8, e8, h8⟩ := S.got 8 (by kernel_rfl)
          exact wp_pickF ((ev_of (e4 23 (by kernel_rfl))).trans h4) ((ev_of (e8 27 (by kernel_rfl))).trans h8) (done (by kernel_rfl) rbu_refl rfl)
        · refine rs_plain rfl rfl fun a wr S => ?_
          have X := rbX S.ext
          obtain ⟨v9, e9, h9⟩ := S.got 9 (by kernel_rfl)
          exact wp_mv ((ev_of (e9 28 (by kernel_rfl))).trans h9) (done (by kernel_rfl) rbu_refl rfl)
        · refine rs_yes rfl rfl (by kernel_rfl) (by kernel_rfl : _ = some 29) (fun _ _ _ h => h) fun a wr S => ?_
          have X := rbX S.ext
          exact wp_qload (ev_of ((S.old 2 (by kernel_rfl)).trans rfl)) (Xa.below X) (done (by kernel_rfl) rbu_refl rfl)
        · refine rs_yes rfl rfl (by kernel_rfl) (by kernel_rfl : _ = some 29) (fun _ _ _ h => h) fun a wr S => ?_
          have X := rbX S.ext
          exact wp_qload (ev_of ((S.old 5 (by kernel_rfl)).trans rfl)) (P5.below X) (done (by kernel_rfl) rbu_refl rfl)
        · refine rs_yes rfl rfl (by kernel_rfl) (by kernel_rfl : _ = some 29) (fun _ _ _ h => h) fun a wr S => ?_
          have X := rbX S.ext
          obtain ⟨v11, e11, h11⟩ := S.got 11 (by kernel_rfl)
          obtain ⟨v12, e12, h12⟩ := S.got 12 (by kernel_rfl)
          exact st_call cf_rat_Sub (args2 ((ev_of (e11 30 (by kernel_rfl))).trans h11) ((ev_of (e12 31 (by kernel_rfl))).trans h12)) (by kernel_rfl) rb ((cQSub (show IsQm _ _ _ _ from (Qa.below X)) (show IsQm _ _ _ _ from (Qd.below X).m) (by omega) (by omega) (by omega) (by omega)).mono (ansQ_base X.size)) (fun _ _ _ h => h)
        · refine rs_yes rfl rfl (by kernel_rfl) (by kernel_rfl : _ = some 29) (fun _ _ _ h => h) fun a wr S => ?_
          have X := rbX S.ext
          exact st_call cf_rat_From (args1 rfl) (by kernel_rfl) rb ((cQFrom 1 (by omega) (by omega)).mono (ansQ_base X.size)) (fun _ _ _ h => h)
        · refine rs_yes rfl rfl (by kernel_rfl) (by kernel_rfl : _ = some 29) (fun _ _ _ h => h) fun a wr S => ?_
          have X := rbX S.ext
          obtain ⟨v13, e13, h13⟩ := S.got 13 (by kernel_rfl)
          obtain ⟨v14, e14, h14⟩ := S.got 14 (by kernel_rfl)
          exact st_call cf_rat_Cmp (args2 (ev_of (e13 32 (by kernel_rfl))) (ev_of (e14 33 (by kernel_rfl)))) (by kernel_rfl) rb ((cQCmp (show IsQm _ _ _ _ from h13.m) (show IsQm _ _ _ _ from h14.m) (by omega) (by omega) (by omega) (by omega)).mono (ans_intW HR.out)) (fun _ _ _ h => h)
        · refine rs_yes rfl rfl (by kernel_rfl) (by kernel_rfl : _ = some 29) (fun _ _ _ h => h) fun a wr S => ?_
          have X := rbX S.ext
          obtain ⟨v15, e15, h15⟩ := S.got 15 (by kernel_rfl)
          exact wp_geI ((ev_of (e15 34 (by kernel_rfl))).trans h15) rfl (done (by kernel_rfl) rbu_refl (congrArg Value.bool (decide_eq_false r0)))
        · refine rs_plain rfl rfl fun a wr S => ?_
          have X := rbX S.ext
          obtain ⟨v10, e10, h10⟩ := S.got 10 (by kernel_rfl)
          obtain ⟨v16, e16, h16⟩ := S.got 16 (by kernel_rfl)
          exact wp_pickF ((ev_of (e10 29 (by kernel_rfl))).trans h10) ((ev_of (e16 35 (by kernel_rfl))).trans h16) (done (by kernel_rfl) rbu_refl rfl)
        · refine rs_plain rfl rfl fun a wr S => ?_
          have X := rbX S.ext
          obtain ⟨v17, e17, h17⟩ := S.got 17 (by kernel_rfl)
          exact wp_mv ((ev_of (e17 36 (by kernel_rfl))).trans h17) (done (by kernel_rfl) rbu_refl rfl)
        · refine rs_yes rfl rfl (by kernel_rfl) (by kernel_rfl : _ = some 37) (fun _ _ _ h => h) fun a wr S => ?_
          have X := rbX S.ext
          exact wp_qload (ev_of ((S.old 6 (by kernel_rfl)).trans rfl)) (P6.below X) (done (by kernel_rfl) rbu_refl rfl)
        · refine rs_yes rfl rfl (by kernel_rfl) (by kernel_rfl : _ = some 37) (fun _ _ _ h => h) fun a wr S => ?_
          have X := rbX S.ext
          exact wp_qload (ev_of ((S.old 2 (by kernel_rfl)).trans rfl)) (Xa.below X) (done (by kernel_rfl) rbu_refl rfl)
        · refine rs_yes rfl rfl (by kernel_rfl) (by kernel_rfl : _ = some 37) (fun _ _ _ h => h) fun a wr S => ?_
          have X := rbX S.ext
          obtain ⟨v19, e19, h19⟩ := S.got 19 (by kernel_rfl)
          obtain ⟨v20, e20, h20⟩ := S.got 20 (by kernel_rfl)
          exact st_call cf_rat_Sub (args2 ((ev_of (e19 38 (by kernel_rfl))).trans h19) ((ev_of (e20 39 (by kernel_rfl))).trans h20)) (by kernel_rfl) rb ((cQSub (show IsQm _ _ _ _ from (Qu.below X).m) (show IsQm _ _ _ _ from (Qa.below X)) (by omega) (by omega) (by omega) (by omega)).mono (ansQ_base X.size)) (fun _ _ _ h => h)
        · refine rs_yes rfl rfl (by kernel_rfl) (by kernel_rfl : _ = some 37) (fun _ _ _ h => h) fun a wr S => ?_
          have X := rbX S.ext
          exact st_call cf_rat_From (args1 rfl) (by kernel_rfl) rb ((cQFrom 1 (by omega) (by omega)).mono (ansQ_base X.size)) (fun _ _ _ h => h)
        · refine rs_yes rfl rfl (by kernel_rfl) (by kernel_rfl : _ = some 37) (fun _ _ _ h => h) fun a wr S => ?_
          have X := rbX S.ext
          obtain ⟨v21, e21, h21⟩ := S.got 21 (by kernel_rfl)
          obtain ⟨v22, e22, h22⟩ := S.got 22 (by kernel_rfl)
          exact st_call cf_rat_Cmp (args2 (ev_of (e21 40 (by kernel_rfl))) (ev_of (e22 41 (by kernel_rfl)))) (by kernel_rfl) rb ((cQCmp (show IsQm _ _ _ _ from h21.m) (show IsQm _ _ _ _ from h22.m) (by omega) (by omega) (by omega) (by omega)).mono (ans_intW HO.out)) (fun _ _ _ h => h)
        · refine rs_yes rfl rfl (by kernel_rfl) (by kernel_rfl : _ = some 37) (fun _ _ _ h => h) fun a wr S => ?_
          have X := rbX S.ext
          obtain ⟨v23, e23, h23⟩ := S.got 23 (by kernel_rfl)
          exact wp_geI ((ev_of (e23 42 (by kernel_rfl))).trans h23) rfl (done (by kernel_rfl) rbu_refl (congrArg Value.bool (decide_eq_false o0)))
        · refine rs_plain rfl rfl fun a wr S => ?_
          have X := rbX S.ext
          obtain ⟨v18, e18, h18⟩ := S.got 18 (by kernel_rfl)
          obtain ⟨v24, e24, h24⟩ := S.got 24 (by kernel_rfl)
          exact wp_pickF ((ev_of (e18 37 (by kernel_rfl))).trans h18) ((ev_of (e24 43 (by kernel_rfl))).trans h24) (done (by kernel_rfl) rbu_refl rfl)
      · intro fw5 w5 hR hv hap
        clear hap
        replace hR := rbX hR
        have f0 : fw5 0 = .agg #[.bool bd, .slice Ad nd cd, .slice Bd md dd] := (hvc (hv 0 (by omega))).elim fun _ h => h
        have f1 : fw5 1 = .agg #[.bool sa, .slice Aa (min na 4) ca, .slice Ba (min ma 4) da] := (hvc (hv 1 (by omega))).elim fun _ h => h
        have f2 : fw5 2 = .int .i64 s := (hvc (hv 2 (by omega))).elim fun _ h => h
        have f3 : fw5 3 = .bool false := (hvc (hv 3 (by omega))).elim fun _ h => h
        have f4 : fw5 4 = .bool false := (hvc (hv 4 (by omega))).elim fun _ h => h
        have f5 : fw5 5 = .agg #[.bool sa, .slice Aa (min na 4) ca, .slice Ba (min ma 4) da] := (hvc (hv 5 (by omega))).elim fun _ h => h
        have f6 : fw5 6 = .agg #[.bool bu, .slice Au nu cu, .slice Bu mu du] := (hvc (hv 6 (by omega))).elim fun _ h => h
        have f7 : fw5 7 = .int .i64 t := (hvc (hv 7 (by omega))).elim fun _ h => h
        have f8 : fw5 8 = .bool false := (hvc (hv 8 (by omega))).elim fun _ h => h
        have f9 : fw5 9 = .bool false := (hvc (hv 9 (by omega))).elim fun _ h => h
        have f10 : fw5 10 = .bool false := (hvc (hv 10 (by omega))).elim fun _ h => h
        have f11 : fw5 11 = .agg #[.bool sa, .slice Aa (min na 4) ca, .slice Ba (min ma 4) da] := (hvc (hv 11 (by omega))).elim fun _ h => h
        have f12 : fw5 12 = .agg #[.bool bd, .slice Ad nd cd, .slice Bd md dd] := (hvc (hv 12 (by omega))).elim fun _ h => h
        have f15 : fw5 15 = .int .i64 r := (hvc (hv 15 (by omega))).elim fun _ h => h
        have f16 : fw5 16 = .bool false := (hvc (hv 16 (by omega))).elim fun _ h => h
        have f17 : fw5 17 = .bool false := (hvc (hv 17 (by omega))).elim fun _ h => h
        have f18 : fw5 18 = .bool false := (hvc (hv 18 (by omega))).elim fun _ h => h
        have f19 : fw5 19 = .agg #[.bool bu, .slice Au nu cu, .slice Bu mu du] := (hvc (hv 19 (by omega))).elim fun _ h => h
        have f20 : fw5 20 = .agg #[.bool sa, .slice Aa (min na 4) ca, .slice Ba (min ma 4) da] := (hvc (hv 20 (by omega))).elim fun _ h => h
        have f23 : fw5 23 = .int .i64 o := (hvc (hv 23 (by omega))).elim fun _ h => h
        have f24 : fw5 24 = .bool false := (hvc (hv 24 (by omega))).elim fun _ h => h
        have f25 : fw5 25 = .bool false := (hvc (hv 25 (by omega))).elim fun _ h => h
        simp only [putFn, Act.put, List.setIfInBounds_toArray, List.set_cons_zero, List.set_cons_succ, f0, f1, f2, f3, f4, f5, f6, f7, f8, f9, f10, f11, f12, f15, f16, f17, f18, f19, f20, f23, f24, f25]
        replace Xa := Xa.below hR
        replace Xb := Xb.below hR
        replace Qa := Qa.below hR
        replace Qb := Qb.below hR
        replace Qd := Qd.below hR
        replace Qu := Qu.below hR
        replace P5 := P5.below hR
        replace P6 := P6.below hR
        replace BB := bl_trans BB hR
        clear hR hv
        clear HS HT HR HO s0 t0 r0 o0
        go_upto_region 7 with (fail)
        by_cases hw : qa.den = 1
        · skip
          have HW := Lib.hid (show decide (qa.den = 1) = true from decide_eq_true hw)
          clear hw
          have HF := Lib.hid (whole_same qa)
          refine wp_region_list (Ext := RB) (Rel := RBu) [fun v _ _ => v = .agg #[.bool bd, .slice Ad nd cd, .slice Bd md dd], fun v _ _ => v = .agg #[.bool bu, .slice Au nu cu, .slice Bu mu du], fun v _ _ => v = .bool true, fun v _ _ => v = .agg #[.bool sa, .slice Aa (min na 4) ca, .slice Ba (min ma 4) da], fun v _ _ => v = .bool true, fun v _ _ => v = .bool false, fun v _ _ => v = .bool false, fun v _ _ => v = .agg #[.bool bd, .slice Ad nd cd, .slice Bd md dd], fun v _ _ => v = .bool true, fun v _ _ => v = .bool false, fun v _ _ => v = .bool false, fun v _ _ => v = .bool false, fun v _ _ => v = .agg #[.bool bu, .slice Au nu cu, .slice Bu mu du], fun v _ w => IsZ (w5).heap.size w v ((((qa.ceil : Int) : Rat)).floor) 6, fun v _ w => IsQ (w5).heap.size w v ((((((qa.ceil : Int) : Rat)).floor : Int) : Rat)) 6, fun v _ _ => v = .agg #[.bool bu, .slice Au nu cu, .slice Bu mu du], fun v _ _ => v = .bool true, fun v _ _ => v = .bool false, fun v _ _ => v = .bool false] (n := 19) (by kernel_rfl) rfl (by kernel_rfl) (by kernel_rfl) (by kernel_rfl) (by kernel_rfl) (by kernel_rfl) rb_refl rb_trans ⟨sC, ⟨sC, ⟨sC, ⟨sC, ⟨sC, ⟨sC, ⟨sC, ⟨sC, ⟨sC, ⟨sC, ⟨sC, ⟨sC, ⟨sC, ⟨sZ, ⟨sQ, ⟨sC, ⟨sC, ⟨sC, ⟨sC, trivial⟩⟩⟩⟩⟩⟩⟩⟩⟩⟩⟩⟩⟩⟩⟩⟩⟩⟩⟩ ?_ ?_
          · refine ⟨⟨⟨⟨⟨⟨⟨⟨⟨⟨⟨⟨⟨⟨⟨⟨⟨⟨⟨trivial, ?_⟩, ?_⟩, ?_⟩, ?_⟩, ?_⟩, ?_⟩, ?_⟩, ?_⟩, ?_⟩, ?_⟩, ?_⟩, ?_⟩, ?_⟩, ?_⟩, ?_⟩, ?_⟩, ?_⟩, ?_⟩, ?_⟩
            · refine rs_plain rfl rfl fun a wr S => ?_
              have X := undrew S.ext
              exact wp_qload (ev_of ((S.old 5 (by kernel_rfl)).trans rfl)) (P5.below X) (done (by kernel_rfl) rbu_refl rfl)
            · refine rs_plain rfl rfl fun a wr S => ?_
              have X := undrew S.ext
              exact wp_qload (ev_of ((S.old 6 (by kernel_rfl)).trans rfl)) (P6.below X) (done (by kernel_rfl) rbu_refl rfl)
            · refine rs_plain rfl rfl fun a wr S => ?_
              have X := undrew S.ext
              obtain ⟨v0, e0, h0⟩ := S.got 0 (by kernel_rfl)
              obtain ⟨v1, e1, h1⟩ := S.got 1 (by kernel_rfl)
              exact st_call cf_law03_same (args2 ((ev_of (e0 45 (by kernel_rfl))).trans h0) ((ev_of (e1 46 (by kernel_rfl))).trans h1)) (by kernel_rfl) rb (cSame3 (show IsQt _ _ _ _ from (Qd.below X)) (show IsQt _ _ _ _ from (Qu.below X)) (by omega) (by omega) (r := true) ⟨fun _ => HF.out.2 (of_decide_eq_true HW.out), fun _ => rfl⟩) (fun _ _ _ h => h)
            · refine rs_plain rfl rfl fun a wr S => ?_
              have X := undrew S.ext
              exact wp_qload (ev_of ((S.old 2 (by kernel_rfl)).trans rfl)) (Xa.below X) (done (by kernel_rfl) rbu_refl rfl)
            · refine rs_plain rfl rfl fun a wr S => ?_
              have X := undrew S.ext
              obtain ⟨v3, e3, h3⟩ := S.got 3 (by kernel_rfl)
              exact st_call cf_rat_Whole (args1 ((ev_of (e3 48 (by kernel_rfl))).trans h3)) (by kernel_rfl) rb ((cQWhole (show IsQm _ _ _ _ from (Qa.below X)) (by omega) (by omega)).mono (ansB HW.out)) (fun _ _ _ h => h)
            · refine rs_plain rfl rfl fun a wr S => ?_
              have X := undrew S.ext
              obtain ⟨v2, e2, h2⟩ := S.got 2 (by kernel_rfl)
              obtain ⟨v4, e4, h4⟩ := S.got 4 (by kernel_rfl)
              exact wp_neB ((ev_of (e2 47 (by kernel_rfl))).trans h2) ((ev_of (e4 49 (by kernel_rfl))).trans h4) (done (by kernel_rfl) rbu_refl (congrArg Value.bool (by decide)))
            · refine rs_plain rfl rfl fun a wr S => ?_
              have X := undrew S.ext
              obtain ⟨v5, e5, h5⟩ := S.got 5 (by kernel_rfl)
              exact wp_mv ((ev_of (e5 50 (by kernel_rfl))).trans h5) (done (by kernel_rfl) rbu_refl rfl)
            · refine rs_yes rfl rfl (by kernel_rfl) (by kernel_rfl : _ = some 51) (fun _ _ _ h => h) fun a wr S => ?_
              have X := undrew S.ext
              exact wp_qload (ev_of ((S.old 5 (by kernel_rfl)).trans rfl)) (P5.below X) (done (by kernel_rfl) rbu_refl rfl)
            · refine rs_yes rfl rfl (by kernel_rfl) (by kernel_rfl : _ = some 51) (fun _ _ _ h => h) fun a wr S => ?_
              have X := undrew S.ext
              obtain ⟨v7, e7, h7⟩ := S.got 7 (by kernel_rfl)
              exact st_call cf_rat_Whole (args1 ((ev_of (e7 52 (by kernel_rfl))).trans h7)) (by kernel_rfl) rb ((cQWhole (show IsQm _ _ _ _ from (Qd.below X).m) (by omega) (by omega)).mono (ansB (decide_eq_true (Rat.den_intCast _)))) (fun _ _ _ h => h)
            · refine rs_yes rfl rfl (by kernel_rfl) (by kernel_rfl : _ = some 51) (fun _ _ _ h => h) fun a wr S => ?_
              have X := undrew S.ext
              obtain ⟨v8, e8, h8⟩ := S.got 8 (by kernel_rfl)
              exact wp_not ((ev_of (e8 53 (by kernel_rfl))).trans h8) (done (by kernel_rfl) rbu_refl rfl)
            · refine rs_plain rfl rfl fun a wr S => ?_
              have X := undrew S.ext
              obtain ⟨v6, e6, h6⟩ := S.got 6 (by kernel_rfl)
              obtain ⟨v9, e9, h9⟩ := S.got 9 (by kernel_rfl)
              exact wp_pickF ((ev_of (e6 51 (by kernel_rfl))).trans h6) ((ev_of (e9 54 (by kernel_rfl))).trans h9) (done (by kernel_rfl) rbu_refl rfl)
            · refine rs_plain rfl rfl fun a wr S => ?_
              have X := undrew S.ext
              obtain ⟨v10, e10, h10⟩ := S.got 10 (by kernel_rfl)
              exact wp_mv ((ev_of (e10 55 (by kernel_rfl))).trans h10) (done (by kernel_rfl) rbu_refl rfl)
            · refine rs_yes rfl rfl (by kernel_rfl) (by kernel_rfl : _ = some 56) (fun _ _ _ h => h) fun a wr S => ?_
              have X := undrew S.ext
              exact wp_qload (ev_of ((S.old 6 (by kernel_rfl)).trans rfl)) (P6.below X) (done (by kernel_rfl) rbu_refl rfl)
            · refine rs_yes rfl rfl (by kernel_rfl) (by kernel_rfl : _ = some 56) (fun _ _ _ h => h) fun a wr S => ?_
              have X := undrew S.ext
              obtain ⟨v12, e12, h12⟩ := S.got 12 (by kernel_rfl)
              exact st_call cf_rat_Floor (args1 ((ev_of (e12 57 (by kernel_rfl))).trans h12)) (by kernel_rfl) rb ((cQFloor (show IsQm _ _ _ _ from (Qu.below X).m) (by omega) (by omega)).mono (ansZ_base X.size)) (fun _ _ _ h => h)
            · refine rs_yes rfl rfl (by kernel_rfl) (by kernel_rfl : _ = some 56) (fun _ _ _ h => h) fun a wr S => ?_
              have X := undrew S.ext
              obtain ⟨v13, e13, h13⟩ := S.got 13 (by kernel_rfl)
              exact st_call cf_rat_Int (args1 (ev_of (e13 58 (by kernel_rfl)))) (by kernel_rfl) rb ((cQInt (show IsM _ _ _ _ from h13.m) (by omega) (by omega)).mono (ansQ_base X.size)) (fun _ _ _ h => h)
            · refine rs_yes rfl rfl (by kernel_rfl) (by kernel_rfl : _ = some 56) (fun _ _ _ h => h) fun a wr S => ?_
              have X := undrew S.ext
              exact wp_qload (ev_of ((S.old 6 (by kernel_rfl)).trans rfl)) (P6.below X) (done (by kernel_rfl) rbu_refl rfl)
            · refine rs_yes rfl rfl (by kernel_rfl) (by kernel_rfl : _ = some 56) (fun _ _ _ h => h) fun a wr S => ?_
              have X := undrew S.ext
              obtain ⟨v14, e14, h14⟩ := S.got 14 (by kernel_rfl)
              obtain ⟨v15, e15, h15⟩ := S.got 15 (by kernel_rfl)
              exact st_call cf_law03_same (args2 (ev_of (e14 59 (by kernel_rfl))) ((ev_of (e15 60 (by kernel_rfl))).trans h15)) (by kernel_rfl) rb (cSame3 (show IsQt _ _ _ _ from h14.t) (show IsQt _ _ _ _ from (Qu.below X)) (by omega) (by omega) (r := true) ⟨fun _ => whole_int _, fun _ => rfl⟩) (fun _ _ _ h => h)
            · refine rs_yes rfl rfl (by kernel_rfl) (by kernel_rfl : _ = some 56) (fun _ _ _ h => h) fun a wr S => ?_
              have X := undrew S.ext
              obtain ⟨v16, e16, h16⟩ := S.got 16 (by kernel_rfl)
              exact wp_not ((ev_of (e16 61 (by kernel_rfl))).trans h16) (done (by kernel_rfl) rbu_refl rfl)
            · refine rs_plain rfl rfl fun a wr S => ?_
              have X := undrew S.ext
              obtain ⟨v11, e11, h11⟩ := S.got 11 (by kernel_rfl)
              obtain ⟨v17, e17, h17⟩ := S.got 17 (by kernel_rfl)
              exact wp_pickF ((ev_of (e11 56 (by kernel_rfl))).trans h11) ((ev_of (e17 62 (by kernel_rfl))).trans h17) (done (by kernel_rfl) rbu_refl rfl)
          · intro fw6 w6 hR hv
            replace hR := undrew hR
            have f0 : fw6 0 = .agg #[.bool bd, .slice Ad nd cd, .slice Bd md dd] := (hvc (hv 0 (by omega))).elim fun _ h => h
            have f1 : fw6 1 = .agg #[.bool bu, .slice Au nu cu, .slice Bu mu du] := (hvc (hv 1 (by omega))).elim fun _ h => h
            have f2 : fw6 2 = .bool true := (hvc (hv 2 (by omega))).elim fun _ h => h
            have f3 : fw6 3 = .agg #[.bool sa, .slice Aa (min na 4) ca, .slice Ba (min ma 4) da] := (hvc (hv 3 (by omega))).elim fun _ h => h
            have f4 : fw6 4 = .bool true := (hvc (hv 4 (by omega))).elim fun _ h => h
            have f5 : fw6 5 = .bool false := (hvc (hv 5 (by omega))).elim fun _ h => h
            have f6 : fw6 6 = .bool false := (hvc (hv 6 (by omega))).elim fun _ h => h
            have f7 : fw6 7 = .agg #[.bool bd, .slice Ad nd cd, .slice Bd md dd] := (hvc (hv 7 (by omega))).elim fun _ h => h
            have f8 : fw6 8 = .bool true := (hvc (hv 8 (by omega))).elim fun _ h => h
            have f9 : fw6 9 = .bool false := (hvc (hv 9 (by omega))).elim fun _ h => h
            have f10 : fw6 10 = .bool false := (hvc (hv 10 (by omega))).elim fun _ h => h
            have f11 : fw6 11 = .bool false := (hvc (hv 11 (by omega))).elim fun _ h => h
            have f12 : fw6 12 = .agg #[.bool bu, .slice Au nu cu, .slice Bu mu du] := (hvc (hv 12 (by omega))).elim fun _ h => h
            have f15 : fw6 15 = .agg #[.bool bu, .slice Au nu cu, .slice Bu mu du] := (hvc (hv 15 (by omega))).elim fun _ h => h
            have f16 : fw6 16 = .bool true := (hvc (hv 16 (by omega))).elim fun _ h => h
            have f17 : fw6 17 = .bool false := (hvc (hv 17 (by omega))).elim fun _ h => h
            have f18 : fw6 18 = .bool false := (hvc (hv 18 (by omega))).elim fun _ h => h
            simp only [putFn, Act.put, List.setIfInBounds_toArray, List.set_cons_zero, List.set_cons_succ, f0, f1, f2, f3, f4, f5, f6, f7, f8, f9, f10, f11, f12, f15, f16, f17, f18]
            replace Xa := Xa.below hR
            replace Xb := Xb.below hR
            replace Qa := Qa.below hR
            replace Qb := Qb.below hR
            replace Qd := Qd.below hR
            replace Qu := Qu.below hR
            replace P5 := P5.below hR
            replace P6 := P6.below hR
            replace BB := bl_trans BB hR
            clear hR hv
            go_upto_region 9 with (fail)
            obtain ⟨s, hs⟩ : ∃ s, cmpQ qa qb = s := ⟨_, rfl⟩
            obtain ⟨t, ht⟩ : ∃ t, cmpQ ((qa.floor : Int) : Rat) ((qb.floor : Int) : Rat) = t := ⟨_, rfl⟩
            have hst : s ≤ 0 → t ≤ 0 := by rw [← hs, ← ht]; exact whole_mono qa qb
            have HS := Lib.hid hs
            have HT := Lib.hid ht
            clear hs ht
            by_cases hp : 0 < s
            · clear hst HT
              refine wp_region_list (Ext := RB) (Rel := RBu) [fun v _ _ => v = .agg #[.bool sa, .slice Aa (min na 4) ca, .slice Ba (min ma 4) da], fun v _ _ => v = .agg #[.bool sb, .slice Ab (min nb 4) cb, .slice Bb (min mb 4) db], fun v _ _ => v = .int .i64 s, fun v _ _ => v = .bool true, fun v _ _ => v = .bool true, fun v _ _ => v = undef, fun v _ _ => v = undef, fun v _ _ => v = undef, fun v _ _ => v = undef, fun v _ _ => v = undef, fun v _ _ => v = undef, fun v _ _ => v = Value.bool true, fun v _ _ => v = Value.bool true] (n := 13) (by kernel_rfl) rfl (by kernel_rfl) (by kernel_rfl) (by kernel_rfl) (by kernel_rfl) (by kernel_rfl) rb_refl rb_trans ⟨sC, ⟨sC, ⟨sC, ⟨sC, ⟨sC, ⟨sC, ⟨sC, ⟨sC, ⟨sC, ⟨sC, ⟨sC, ⟨sC, ⟨sC, trivial⟩⟩⟩⟩⟩⟩⟩⟩⟩⟩⟩⟩⟩ ?_ ?_
              · refine ⟨⟨⟨⟨⟨⟨⟨⟨⟨⟨⟨⟨⟨trivial, ?_⟩, ?_⟩, ?_⟩, ?_⟩, ?_⟩, ?_⟩, ?_⟩, ?_⟩, ?_⟩, ?_⟩, ?_⟩, ?_⟩, ?_⟩
                · refine rs_plain rfl rfl fun a wr S => ?_
                  have X := undrew S.ext
                  exact wp_qload (ev_of ((S.old 2 (by kernel_rfl)).trans rfl)) (Xa.below X) (done (by kernel_rfl) rbu_refl rfl)
                · refine rs_plain rfl rfl fun a wr S => ?_
                  have X := undrew S.ext
                  exact wp_qload (ev_of ((S.old 3 (by kernel_rfl)).trans rfl)) (Xb.below X) (done (by kernel_rfl) rbu_refl rfl)
                · refine rs_plain rfl rfl fun a wr S => ?_
                  have X := undrew S.ext
                  obtain ⟨v0, e0, h0⟩ := S.got 0 (by kernel_rfl)
                  obtain ⟨v1, e1, h1⟩ := S.got 1 (by kernel_rfl)
                  exact st_call cf_rat_Cmp (args2 ((ev_of (e0 64 (by kernel_rfl))).trans h0) ((ev_of (e1 65 (by kernel_rfl))).trans h1)) (by kernel_rfl) rb ((cQCmp (show IsQm _ _ _ _ from (Qa.below X)) (show IsQm _ _ _ _ from (Qb.below X)) (by omega) (by omega) (by omega) (by omega)).mono (ans_intW HS.out)) (fun _ _ _ h => h)
                · refine rs_plain rfl rfl fun a wr S => ?_
                  have X := undrew S.ext
                  obtain ⟨v2, e2, h2⟩ := S.got 2 (by kernel_rfl)
                  exact wp_gtI ((ev_of (e2 66 (by kernel_rfl))).trans h2) rfl (done (by kernel_rfl) rbu_refl (congrArg Value.bool (decide_eq_true hp)))
                · refine rs_plain rfl rfl fun a wr S => ?_
                  have X := undrew S.ext
                  obtain ⟨v3, e3, h3⟩ := S.got 3 (by kernel_rfl)
                  exact wp_mv ((ev_of (e3 67 (by kernel_rfl))).trans h3) (done (by kernel_rfl) rbu_refl rfl)
                · exact rs_no rfl rfl (by kernel_rfl) (by kernel_rfl : _ = some 68) (fun _ _ _ h => h) (by kernel_rfl) rbu_refl (fun _ _ => rfl)
                · exact rs_no rfl rfl (by kernel_rfl) (by kernel_rfl : _ = some 68) (fun _ _ _ h => h) (by kernel_rfl) rbu_refl (fun _ _ => rfl)
                · exact rs_no rfl rfl (by kernel_rfl) (by kernel_rfl : _ = some 68) (fun _ _ _ h => h) (by kernel_rfl) rbu_refl (fun _ _ => rfl)
                · exact rs_no rfl rfl (by kernel_rfl) (by kernel_rfl : _ = some 68) (fun _ _ _ h => h) (by kernel_rfl) rbu_refl (fun _ _ => rfl)
                · exact rs_no rfl rfl (by kernel_rfl) (by kernel_rfl : _ = some 68) (fun _ _ _ h => h) (by kernel_rfl) rbu_refl (fun _ _ => rfl)
                · exact rs_no rfl rfl (by kernel_rfl) (by kernel_rfl : _ = some 68) (fun _ _ _ h => h) (by kernel_rfl) rbu_refl (fun _ _ => rfl)
                · refine rs_plain rfl rfl fun a wr S => ?_
                  have X := undrew S.ext
                  obtain ⟨v4, e4, h4⟩ := S.got 4 (by kernel_rfl)
                  exact wp_pickT ((ev_of (e4 68 (by kernel_rfl))).trans h4) rfl (done (by kernel_rfl) rbu_refl rfl)
                · refine rs_plain rfl rfl fun a wr S => ?_
                  have X := undrew S.ext
                  obtain ⟨v11, e11, h11⟩ := S.got 11 (by kernel_rfl)
                  exact wp_as ((ev_of (e11 75 (by kernel_rfl))).trans h11) (done (by kernel_rfl) rbu_refl rfl)
              · intro fw7 w7 hR hv
                replace hR := undrew hR
                have f0 : fw7 0 = .agg #[.bool sa, .slice Aa (min na 4) ca, .slice Ba (min ma 4) da] := (hvc (hv 0 (by omega))).elim fun _ h => h
                have f1 : fw7 1 = .agg #[.bool sb, .slice Ab (min nb 4) cb, .slice Bb (min mb 4) db] := (hvc (hv 1 (by omega))).elim fun _ h => h
                have f2 : fw7 2 = .int .i64 s := (hvc (hv 2 (by omega))).elim fun _ h => h
                have f3 : fw7 3 = .bool true := (hvc (hv 3 (by omega))).elim fun _ h => h
                have f4 : fw7 4 = .bool true := (hvc (hv 4 (by omega))).elim fun _ h => h
                have f5 : fw7 5 = undef := (hvc (hv 5 (by omega))).elim fun _ h => h
                have f6 : fw7 6 = undef := (hvc (hv 6 (by omega))).elim fun _ h => h
                have f7 : fw7 7 = undef := (hvc (hv 7 (by omega))).elim fun _ h => h
                have f8 : fw7 8 = undef := (hvc (hv 8 (by omega))).elim fun _ h => h
                have f9 : fw7 9 = undef := (hvc (hv 9 (by omega))).elim fun _ h => h
                have f10 : fw7 10 = undef := (hvc (hv 10 (by omega))).elim fun _ h => h
                have f11 : fw7 11 = Value.bool true := (hvc (hv 11 (by omega))).elim fun _ h => h
                have f12 : fw7 12 = Value.bool true := (hvc (hv 12 (by omega))).elim fun _ h => h
                simp only [putFn, Act.put, List.setIfInBounds_toArray, List.set_cons_zero, List.set_cons_succ, f0, f1, f2, f3, f4, f5, f6, f7, f8, f9, f10, f11, f12]
                replace Xa := Xa.below hR
                replace Xb := Xb.below hR
                replace Qa := Qa.below hR
                replace Qb := Qb.below hR
                replace Qd := Qd.below hR
                replace Qu := Qu.below hR
                replace P5 := P5.below hR
                replace P6 := P6.below hR
                replace BB := bl_trans BB hR
                clear hR hv
                go_wp2_with fail
                go_ret
                exact ⟨rfl, BB⟩
            · have ht : t ≤ 0 := hst (by omega)
              clear hst
              refine wp_region_list (Ext := RB) (Rel := RBu) [fun v _ _ => v = .agg #[.bool sa, .slice Aa (min na 4) ca, .slice Ba (min ma 4) da], fun v _ _ => v = .agg #[.bool sb, .slice Ab (min nb 4) cb, .slice Bb (min mb 4) db], fun v _ _ => v = .int .i64 s, fun v _ _ => v = .bool false, fun v _ _ => v = .bool false, fun v _ _ => v = .agg #[.bool bd, .slice Ad nd cd, .slice Bd md dd], fun v _ _ => v = .agg #[.bool sb, .slice Ab (min nb 4) cb, .slice Bb (min mb 4) db], fun v _ w => IsZ (w6).heap.size w v (qb.floor) 5, fun v _ w => IsQ (w6).heap.size w v (((qb.floor : Int) : Rat)) 5, fun v _ _ => v = .int .i64 t, fun v _ _ => v = .bool true, fun v _ _ => v = .bool true, fun v _ _ => v = .bool true] (n := 13) (by kernel_rfl) rfl (by kernel_rfl) (by kernel_rfl) (by kernel_rfl) (by kernel_rfl) (by kernel_rfl) rb_refl rb_trans ⟨sC, ⟨sC, ⟨sC, ⟨sC, ⟨sC, ⟨sC, ⟨sC, ⟨sZ, ⟨sQ, ⟨sC, ⟨sC, ⟨sC, ⟨sC, trivial⟩⟩⟩⟩⟩⟩⟩⟩⟩⟩⟩⟩⟩ ?_ ?_
              · refine ⟨⟨⟨⟨⟨⟨⟨⟨⟨⟨⟨⟨⟨trivial, ?_⟩, ?_⟩, ?_⟩, ?_⟩, ?_⟩, ?_⟩, ?_⟩, ?_⟩, ?_⟩, ?_⟩, ?_⟩, ?_⟩, ?_⟩
                · refine rs_plain rfl rfl fun a wr S => ?_
                  have X := undrew S.ext
                  exact wp_qload (ev_of ((S.old 2 (by kernel_rfl)).trans rfl)) (Xa.below X) (done (by kernel_rfl) rbu_refl rfl)
                · refine rs_plain rfl rfl fun a wr S => ?_
                  have X := undrew S.ext
                  exact wp_qload (ev_of ((S.old 3 (by kernel_rfl)).trans rfl)) (Xb.below X) (done (by kernel_rfl) rbu_refl rfl)
                · refine rs_plain rfl rfl fun a wr S => ?_
                  have X := undrew S.ext
                  obtain ⟨v0, e0, h0⟩ := S.got 0 (by kernel_rfl)
                  obtain ⟨v1, e1, h1⟩ := S.got 1 (by kernel_rfl)
                  exact st_call cf_rat_Cmp (args2 ((ev_of (e0 64 (by kernel_rfl))).trans h0) ((ev_of (e1 65 (by kernel_rfl))).trans h1)) (by kernel_rfl) rb ((cQCmp (show IsQm _ _ _ _ from (Qa.below X)) (show IsQm _ _ _ _ from (Qb.below X)) (by omega) (by omega) (by omega) (by omega)).mono (ans_intW HS.out)) (fun _ _ _ h => h)
                · refine rs_plain rfl rfl fun a wr S => ?_
                  have X := undrew S.ext
                  obtain ⟨v2, e2, h2⟩ := S.got 2 (by kernel_rfl)
                  exact wp_gtI ((ev_of (e2 66 (by kernel_rfl))).trans h2) rfl (done (by kernel_rfl) rbu_refl (congrArg Value.bool (decide_eq_false hp)))
                · refine rs_plain rfl rfl fun a wr S => ?_
                  have X := undrew S.ext
                  obtain ⟨v3, e3, h3⟩ := S.got 3 (by kernel_rfl)
                  exact wp_mv ((ev_of (e3 67 (by kernel_rfl))).trans h3) (done (by kernel_rfl) rbu_refl rfl)
                · refine rs_yes rfl rfl (by kernel_rfl) (by kernel_rfl : _ = some 68) (fun _ _ _ h => h) fun a wr S => ?_
                  have X := undrew S.ext
                  exact wp_qload (ev_of ((S.old 5 (by kernel_rfl)).trans rfl)) (P5.below X) (done (by kernel_rfl) rbu_refl rfl)
                · refine rs_yes rfl rfl (by kernel_rfl) (by kernel_rfl : _ = some 68) (fun _ _ _ h => h) fun a wr S => ?_
                  have X := undrew S.ext
                  exact wp_qload (ev_of ((S.old 3 (by kernel_rfl)).trans rfl)) (Xb.below X) (done (by kernel_rfl) rbu_refl rfl)
                · refine rs_yes rfl rfl (by kernel_rfl) (by kernel_rfl : _ = some 68) (fun _ _ _ h => h) fun a wr S => ?_
                  have X := undrew S.ext
                  obtain ⟨v6, e6, h6⟩ := S.got 6 (by kernel_rfl)
                  exact st_call cf_rat_Floor (args1 ((ev_of (e6 70 (by kernel_rfl))).trans h6)) (by kernel_rfl) rb ((cQFloor (show IsQm _ _ _ _ from (Qb.below X)) (by omega) (by omega)).mono (ansZ_base X.size)) (fun _ _ _ h => h)
                · refine rs_yes rfl rfl (by kernel_rfl) (by kernel_rfl : _ = some 68) (fun _ _ _ h => h) fun a wr S => ?_
                  have X := undrew S.ext
                  obtain ⟨v7, e7, h7⟩ := S.got 7 (by kernel_rfl)
                  exact st_call cf_rat_Int (args1 (ev_of (e7 71 (by kernel_rfl)))) (by kernel_rfl) rb ((cQInt (show IsM _ _ _ _ from h7.m) (by omega) (by omega)).mono (ansQ_base X.size)) (fun _ _ _ h => h)
                · refine rs_yes rfl rfl (by kernel_rfl) (by kernel_rfl : _ = some 68) (fun _ _ _ h => h) fun a wr S => ?_
                  have X := undrew S.ext
                  obtain ⟨v5, e5, h5⟩ := S.got 5 (by kernel_rfl)
                  obtain ⟨v8, e8, h8⟩ := S.got 8 (by kernel_rfl)
                  exact st_call cf_rat_Cmp (args2 ((ev_of (e5 69 (by kernel_rfl))).trans h5) (ev_of (e8 72 (by kernel_rfl)))) (by kernel_rfl) rb ((cQCmp (show IsQm _ _ _ _ from (Qd.below X).m) (show IsQm _ _ _ _ from h8.m) (by omega) (by omega) (by omega) (by omega)).mono (ans_intW HT.out)) (fun _ _ _ h => h)
                · refine rs_yes rfl rfl (by kernel_rfl) (by kernel_rfl : _ = some 68) (fun _ _ _ h => h) fun a wr S => ?_
                  have X := undrew S.ext
                  obtain ⟨v9, e9, h9⟩ := S.got 9 (by kernel_rfl)
                  exact wp_leI ((ev_of (e9 73 (by kernel_rfl))).trans h9) rfl (done (by kernel_rfl) rbu_refl (congrArg Value.bool (decide_eq_true ht)))
                · refine rs_plain rfl rfl fun a wr S => ?_
                  have X := undrew S.ext
                  obtain ⟨v4, e4, h4⟩ := S.got 4 (by kernel_rfl)
                  obtain ⟨v10, e10, h10⟩ := S.got 10 (by kernel_rfl)
                  exact wp_pickF ((ev_of (e4 68 (by kernel_rfl))).trans h4) ((ev_of (e10 74 (by kernel_rfl))).trans h10) (done (by kernel_rfl) rbu_refl rfl)
                · refine rs_plain rfl rfl fun a wr S => ?_
                  have X := undrew S.ext
                  obtain ⟨v11, e11, h11⟩ := S.got 11 (by kernel_rfl)
                  exact wp_as ((ev_of (e11 75 (by kernel_rfl))).trans h11) (done (by kernel_rfl) rbu_refl rfl)
              · intro fw8 w8 hR hv
                replace hR := undrew hR
                have f0 : fw8 0 = .agg #[.bool sa, .slice Aa (min na 4) ca, .slice Ba (min ma 4) da] := (hvc (hv 0 (by omega))).elim fun _ h => h
                have f1 : fw8 1 = .agg #[.bool sb, .slice Ab (min nb 4) cb, .slice Bb (min mb 4) db] := (hvc (hv 1 (by omega))).elim fun _ h => h
                have f2 : fw8 2 = .int .i64 s := (hvc (hv 2 (by omega))).elim fun _ h => h
                have f3 : fw8 3 = .bool false := (hvc (hv 3 (by omega))).elim fun _ h => h
                have f4 : fw8 4 = .bool false := (hvc (hv 4 (by omega))).elim fun _ h => h
                have f5 : fw8 5 = .agg #[.bool bd, .slice Ad nd cd, .slice Bd md dd] := (hvc (hv 5 (by omega))).elim fun _ h => h
                have f6 : fw8 6 = .agg #[.bool sb, .slice Ab (min nb 4) cb, .slice Bb (min mb 4) db] := (hvc (hv 6 (by omega))).elim fun _ h => h
                have f9 : fw8 9 = .int .i64 t := (hvc (hv 9 (by omega))).elim fun _ h => h
                have f10 : fw8 10 = .bool true := (hvc (hv 10 (by omega))).elim fun _ h => h
                have f11 : fw8 11 = .bool true := (hvc (hv 11 (by omega))).elim fun _ h => h
                have f12 : fw8 12 = .bool true := (hvc (hv 12 (by omega))).elim fun _ h => h
                simp only [putFn, Act.put, List.setIfInBounds_toArray, List.set_cons_zero, List.set_cons_succ, f0, f1, f2, f3, f4, f5, f6, f9, f10, f11, f12]
                replace Xa := Xa.below hR
                replace Xb := Xb.below hR
                replace Qa := Qa.below hR
                replace Qb := Qb.below hR
                replace Qd := Qd.below hR
                replace Qu := Qu.below hR
                replace P5 := P5.below hR
                replace P6 := P6.below hR
                replace BB := bl_trans BB hR
                clear hR hv
                go_wp2_with fail
                go_ret
                exact ⟨rfl, BB⟩
        · skip
          have HW := Lib.hid (show decide (qa.den = 1) = false from decide_eq_false hw)
          clear hw
          have HF := Lib.hid (whole_same qa)
          refine wp_region_list (Ext := RB) (Rel := RBu) [fun v _ _ => v = .agg #[.bool bd, .slice Ad nd cd, .slice Bd md dd], fun v _ _ => v = .agg #[.bool bu, .slice Au nu cu, .slice Bu mu du], fun v _ _ => v = .bool false, fun v _ _ => v = .agg #[.bool sa, .slice Aa (min na 4) ca, .slice Ba (min ma 4) da], fun v _ _ => v = .bool false, fun v _ _ => v = .bool false, fun v _ _ => v = .bool false, fun v _ _ => v = .agg #[.bool bd, .slice Ad nd cd, .slice Bd md dd], fun v _ _ => v = .bool true, fun v _ _ => v = .bool false, fun v _ _ => v = .bool false, fun v _ _ => v = .bool false, fun v _ _ => v = .agg #[.bool bu, .slice Au nu cu, .slice Bu mu du], fun v _ w => IsZ (w5).heap.size w v ((((qa.ceil : Int) : Rat)).floor) 6, fun v _ w => IsQ (w5).heap.size w v ((((((qa.ceil : Int) : Rat)).floor : Int) : Rat)) 6, fun v _ _ => v = .agg #[.bool bu, .slice Au nu cu, .slice Bu mu du], fun v _ _ => v = .bool true, fun v _ _ => v = .bool false, fun v _ _ => v = .bool false] (n := 19) (by kernel_rfl) rfl (by kernel_rfl) (by kernel_rfl) (by kernel_rfl) (by kernel_rfl) (by kernel_rfl) rb_refl rb_trans ⟨sC, ⟨sC, ⟨sC, ⟨sC, ⟨sC, ⟨sC, ⟨sC, ⟨sC, ⟨sC, ⟨sC, ⟨sC, ⟨sC, ⟨sC, ⟨sZ, ⟨sQ, ⟨sC, ⟨sC, ⟨sC, ⟨sC, trivial⟩⟩⟩⟩⟩⟩⟩⟩⟩⟩⟩⟩⟩⟩⟩⟩⟩⟩⟩ ?_ ?_
          · refine ⟨⟨⟨⟨⟨⟨⟨⟨⟨⟨⟨⟨⟨⟨⟨⟨⟨⟨⟨trivial, ?_⟩, ?_⟩, ?_⟩, ?_⟩, ?_⟩, ?_⟩, ?_⟩, ?_⟩, ?_⟩, ?_⟩, ?_⟩, ?_⟩, ?_⟩, ?_⟩, ?_⟩, ?_⟩, ?_⟩, ?_⟩, ?_⟩
            · refine rs_plain rfl rfl fun a wr S => ?_
              have X := undrew S.ext
              exact wp_qload (ev_of ((S.old 5 (by kernel_rfl)).trans rfl)) (P5.below X) (done (by kernel_rfl) rbu_refl rfl)
            · refine rs_plain rfl rfl fun a wr S => ?_
              have X := undrew S.ext
              exact wp_qload (ev_of ((S.old 6 (by kernel_rfl)).trans rfl)) (P6.below X) (done (by kernel_rfl) rbu_refl rfl)
            · refine rs_plain rfl rfl fun a wr S => ?_
              have X := undrew S.ext
              obtain ⟨v0, e0, h0⟩ := S.got 0 (by kernel_rfl)
              obtain ⟨v1, e1, h1⟩ := S.got 1 (by kernel_rfl)
              exact st_call cf_law03_same (args2 ((ev_of (e0 45 (by kernel_rfl))).trans h0) ((ev_of (e1 46 (by kernel_rfl))).trans h1)) (by kernel_rfl) rb (cSame3 (show IsQt _ _ _ _ from (Qd.below X)) (show IsQt _ _ _ _ from (Qu.below X)) (by omega) (by omega) (r := false) ⟨fun h => (by cases h), fun h => absurd (HF.out.1 h) (of_decide_eq_false HW.out)⟩) (fun _ _ _ h => h)
            · refine rs_plain rfl rfl fun a wr S => ?_
              have X := undrew S.ext
              exact wp_qload (ev_of ((S.old 2 (by kernel_rfl)).trans rfl)) (Xa.below X) (done (by kernel_rfl) rbu_refl rfl)
            · refine rs_plain rfl rfl fun a wr S => ?_
              have X := undrew S.ext
              obtain ⟨v3, e3, h3⟩ := S.got 3 (by kernel_rfl)
              exact st_call cf_rat_Whole (args1 ((ev_of (e3 48 (by kernel_rfl))).trans h3)) (by kernel_rfl) rb ((cQWhole (show IsQm _ _ _ _ from (Qa.below X)) (by omega) (by omega)).mono (ansB HW.out)) (fun _ _ _ h => h)
            · refine rs_plain rfl rfl fun a wr S => ?_
              have X := undrew S.ext
              obtain ⟨v2, e2, h2⟩ := S.got 2 (by kernel_rfl)
              obtain ⟨v4, e4, h4⟩ := S.got 4 (by kernel_rfl)
              exact wp_neB ((ev_of (e2 47 (by kernel_rfl))).trans h2) ((ev_of (e4 49 (by kernel_rfl))).trans h4) (done (by kernel_rfl) rbu_refl (congrArg Value.bool (by decide)))
            · refine rs_plain rfl rfl fun a wr S => ?_
              have X := undrew S.ext
              obtain ⟨v5, e5, h5⟩ := S.got 5 (by kernel_rfl)
              exact wp_mv ((ev_of (e5 50 (by kernel_rfl))).trans h5) (done (by kernel_rfl) rbu_refl rfl)
            · refine rs_yes rfl rfl (by kernel_rfl) (by kernel_rfl : _ = some 51) (fun _ _ _ h => h) fun a wr S => ?_
              have X := undrew S.ext
              exact wp_qload (ev_of ((S.old 5 (by kernel_rfl)).trans rfl)) (P5.below X) (done (by kernel_rfl) rbu_refl rfl)
            · refine rs_yes rfl rfl (by kernel_rfl) (by kernel_rfl : _ = some 51) (fun _ _ _ h => h) fun a wr S => ?_
              have X := undrew S.ext
              obtain ⟨v7, e7, h7⟩ := S.got 7 (by kernel_rfl)
              exact st_call cf_rat_Whole (args1 ((ev_of (e7 52 (by kernel_rfl))).trans h7)) (by kernel_rfl) rb ((cQWhole (show IsQm _ _ _ _ from (Qd.below X).m) (by omega) (by omega)).mono (ansB (decide_eq_true (Rat.den_intCast _)))) (fun _ _ _ h => h)
            · refine rs_yes rfl rfl (by kernel_rfl) (by kernel_rfl : _ = some 51) (fun _ _ _ h => h) fun a wr S => ?_
              have X := undrew S.ext
              obtain ⟨v8, e8, h8⟩ := S.got 8 (by kernel_rfl)
              exact wp_not ((ev_of (e8 53 (by kernel_rfl))).trans h8) (done (by kernel_rfl) rbu_refl rfl)
            · refine rs_plain rfl rfl fun a wr S => ?_
              have X := undrew S.ext
              obtain ⟨v6, e6, h6⟩ := S.got 6 (by kernel_rfl)
              obtain ⟨v9, e9, h9⟩ := S.got 9 (by kernel_rfl)
              exact wp_pickF ((ev_of (e6 51 (by kernel_rfl))).trans h6) ((ev_of (e9 54 (by kernel_rfl))).trans h9) (done (by kernel_rfl) rbu_refl rfl)
            · refine rs_plain rfl rfl fun a wr S => ?_
              have X := undrew S.ext
              obtain ⟨v10, e10, h10⟩ := S.got 10 (by kernel_rfl)
              exact wp_mv ((ev_of (e10 55 (by kernel_rfl))).trans h10) (done (by kernel_rfl) rbu_refl rfl)
            · refine rs_yes rfl rfl (by kernel_rfl) (by kernel_rfl : _ = some 56) (fun _ _ _ h => h) fun a wr S => ?_
              have X := undrew S.ext
              exact wp_qload (ev_of ((S.old 6 (by kernel_rfl)).trans rfl)) (P6.below X) (done (by kernel_rfl) rbu_refl rfl)
            · refine rs_yes rfl rfl (by kernel_rfl) (by kernel_rfl : _ = some 56) (fun _ _ _ h => h) fun a wr S => ?_
              have X := undrew S.ext
              obtain ⟨v12, e12, h12⟩ := S.got 12 (by kernel_rfl)
              exact st_call cf_rat_Floor (args1 ((ev_of (e12 57 (by kernel_rfl))).trans h12)) (by kernel_rfl) rb ((cQFloor (show IsQm _ _ _ _ from (Qu.below X).m) (by omega) (by omega)).mono (ansZ_base X.size)) (fun _ _ _ h => h)
            · refine rs_yes rfl rfl (by kernel_rfl) (by kernel_rfl : _ = some 56) (fun _ _ _ h => h) fun a wr S => ?_
              have X := undrew S.ext
              obtain ⟨v13, e13, h13⟩ := S.got 13 (by kernel_rfl)
              exact st_call cf_rat_Int (args1 (ev_of (e13 58 (by kernel_rfl)))) (by kernel_rfl) rb ((cQInt (show IsM _ _ _ _ from h13.m) (by omega) (by omega)).mono (ansQ_base X.size)) (fun _ _ _ h => h)
            · refine rs_yes rfl rfl (by kernel_rfl) (by kernel_rfl : _ = some 56) (fun _ _ _ h => h) fun a wr S => ?_
              have X := undrew S.ext
              exact wp_qload (ev_of ((S.old 6 (by kernel_rfl)).trans rfl)) (P6.below X) (done (by kernel_rfl) rbu_refl rfl)
            · refine rs_yes rfl rfl (by kernel_rfl) (by kernel_rfl : _ = some 56) (fun _ _ _ h => h) fun a wr S => ?_
              have X := undrew S.ext
              obtain ⟨v14, e14, h14⟩ := S.got 14 (by kernel_rfl)
              obtain ⟨v15, e15, h15⟩ := S.got 15 (by kernel_rfl)
              exact st_call cf_law03_same (args2 (ev_of (e14 59 (by kernel_rfl))) ((ev_of (e15 60 (by kernel_rfl))).trans h15)) (by kernel_rfl) rb (cSame3 (show IsQt _ _ _ _ from h14.t) (show IsQt _ _ _ _ from (Qu.below X)) (by omega) (by omega) (r := true) ⟨fun _ => whole_int _, fun _ => rfl⟩) (fun _ _ _ h => h)
            · refine rs_yes rfl rfl (by kernel_rfl) (by kernel_rfl : _ = some 56) (fun _ _ _ h => h) fun a wr S => ?_
              have X := undrew S.ext
              obtain ⟨v16, e16, h16⟩ := S.got 16 (by kernel_rfl)
              exact wp_not ((ev_of (e16 61 (by kernel_rfl))).trans h16) (done (by kernel_rfl) rbu_refl rfl)
            · refine rs_plain rfl rfl fun a wr S => ?_
              have X := undrew S.ext
              obtain ⟨v11, e11, h11⟩ := S.got 11 (by kernel_rfl)
              obtain ⟨v17, e17, h17⟩ := S.got 17 (by kernel_rfl)
              exact wp_pickF ((ev_of (e11 56 (by kernel_rfl))).trans h11) ((ev_of (e17 62 (by kernel_rfl))).trans h17) (done (by kernel_rfl) rbu_refl rfl)
          · intro fw9 w9 hR hv
            replace hR := undrew hR
            have f0 : fw9 0 = .agg #[.bool bd, .slice Ad nd cd, .slice Bd md dd] := (hvc (hv 0 (by omega))).elim fun _ h => h
            have f1 : fw9 1 = .agg #[.bool bu, .slice Au nu cu, .slice Bu mu du] := (hvc (hv 1 (by omega))).elim fun _ h => h
            have f2 : fw9 2 = .bool false := (hvc (hv 2 (by omega))).elim fun _ h => h
            have f3 : fw9 3 = .agg #[.bool sa, .slice Aa (min na 4) ca, .slice Ba (min ma 4) da] := (hvc (hv 3 (by omega))).elim fun _ h => h
            have f4 : fw9 4 = .bool false := (hvc (hv 4 (by omega))).elim fun _ h => h
            have f5 : fw9 5 = .bool false := (hvc (hv 5 (by omega))).elim fun _ h => h
            have f6 : fw9 6 = .bool false := (hvc (hv 6 (by omega))).elim fun _ h => h
            have f7 : fw9 7 = .agg #[.bool bd, .slice Ad nd cd, .slice Bd md dd] := (hvc (hv 7 (by omega))).elim fun _ h => h
            have f8 : fw9 8 = .bool true := (hvc (hv 8 (by omega))).elim fun _ h => h
            have f9 : fw9 9 = .bool false := (hvc (hv 9 (by omega))).elim fun _ h => h
            have f10 : fw9 10 = .bool false := (hvc (hv 10 (by omega))).elim fun _ h => h
            have f11 : fw9 11 = .bool false := (hvc (hv 11 (by omega))).elim fun _ h => h
            have f12 : fw9 12 = .agg #[.bool bu, .slice Au nu cu, .slice Bu mu du] := (hvc (hv 12 (by omega))).elim fun _ h => h
            have f15 : fw9 15 = .agg #[.bool bu, .slice Au nu cu, .slice Bu mu du] := (hvc (hv 15 (by omega))).elim fun _ h => h
            have f16 : fw9 16 = .bool true := (hvc (hv 16 (by omega))).elim fun _ h => h
            have f17 : fw9 17 = .bool false := (hvc (hv 17 (by omega))).elim fun _ h => h
            have f18 : fw9 18 = .bool false := (hvc (hv 18 (by omega))).elim fun _ h => h
            simp only [putFn, Act.put, List.setIfInBounds_toArray, List.set_cons_zero, List.set_cons_succ, f0, f1, f2, f3, f4, f5, f6, f7, f8, f9, f10, f11, f12, f15, f16, f17, f18]
            replace Xa := Xa.below hR
            replace Xb := Xb.below hR
            replace Qa := Qa.below hR
            replace Qb := Qb.below hR
            replace Qd := Qd.below hR
            replace Qu := Qu.below hR
            replace P5 := P5.below hR
            replace P6 := P6.below hR
            replace BB := bl_trans BB hR
            clear hR hv
            go_upto_region 9 with (fail)
            obtain ⟨s, hs⟩ : ∃ s, cmpQ qa qb = s := ⟨_, rfl⟩
            obtain ⟨t, ht⟩ : ∃ t, cmpQ ((qa.floor : Int) : Rat) ((qb.floor : Int) : Rat) = t := ⟨_, rfl⟩
            have hst : s ≤ 0 → t ≤ 0 := by rw [← hs, ← ht]; exact whole_mono qa qb
            have HS := Lib.hid hs
            have HT := Lib.hid ht
            clear hs ht
            by_cases hp : 0 < s
            · clear hst HT
              refine wp_region_list (Ext := RB) (Rel := RBu) [fun v _ _ => v = .agg #[.bool sa, .slice Aa (min na 4) ca, .slice Ba (min ma 4) da], fun v _ _ => v = .agg #[.bool sb, .slice Ab (min nb 4) cb, .slice Bb (min mb 4) db], fun v _ _ => v = .int .i64 s, fun v _ _ => v = .bool true, fun v _ _ => v = .bool true, fun v _ _ => v = undef, fun v _ _ => v = undef, fun v _ _ => v = undef, fun v _ _ => v = undef, fun v _ _ => v = undef, fun v _ _ => v = undef, fun v _ _ => v = Value.bool true, fun v _ _ => v = Value.bool true] (n := 13) (by kernel_rfl) rfl (by kernel_rfl) (by kernel_rfl) (by kernel_rfl) (by kernel_rfl) (by kernel_rfl) rb_refl rb_trans ⟨sC, ⟨sC, ⟨sC, ⟨sC, ⟨sC, ⟨sC, ⟨sC, ⟨sC, ⟨sC, ⟨sC, ⟨sC, ⟨sC, ⟨sC, trivial⟩⟩⟩⟩⟩⟩⟩⟩⟩⟩⟩⟩⟩ ?_ ?_
              · refine ⟨⟨⟨⟨⟨⟨⟨⟨⟨⟨⟨⟨⟨trivial, ?_⟩, ?_⟩, ?_⟩, ?_⟩, ?_⟩, ?_⟩, ?_⟩, ?_⟩, ?_⟩, ?_⟩, ?_⟩, ?_⟩, ?_⟩
                · refine rs_plain rfl rfl fun a wr S => ?_
                  have X := undrew S.ext
                  exact wp_qload (ev_of ((S.old 2 (by kernel_rfl)).trans rfl)) (Xa.below X) (done (by kernel_rfl) rbu_refl rfl)
                · refine rs_plain rfl rfl fun a wr S => ?_
                  have X := undrew S.ext
                  exact wp_qload (ev_of ((S.old 3 (by kernel_rfl)).trans rfl)) (Xb.below X) (done (by kernel_rfl) rbu_refl rfl)
                · refine rs_plain rfl rfl fun a wr S => ?_
                  have X := undrew S.ext
                  obtain ⟨v0, e0, h0⟩ := S.got 0 (by kernel_rfl)
                  obtain ⟨v1, e1, h1⟩ := S.got 1 (by kernel_rfl)
                  exact st_call cf_rat_Cmp (args2 ((ev_of (e0 64 (by kernel_rfl))).trans h0) ((ev_of (e1 65 (by kernel_rfl))).trans h1)) (by kernel_rfl) rb ((cQCmp (show IsQm _ _ _ _ from (Qa.below X)) (show IsQm _ _ _ _ from (Qb.below X)) (by omega) (by omega) (by omega) (by omega)).mono (ans_intW HS.out)) (fun _ _ _ h => h)
                · refine rs_plain rfl rfl fun a wr S => ?_
                  have X := undrew S.ext
                  obtain ⟨v2, e2, h2⟩ := S.got 2 (by kernel_rfl)
                  exact wp_gtI ((ev_of (e2 66 (by kernel_rfl))).trans h2) rfl (done (by kernel_rfl) rbu_refl (congrArg Value.bool (decide_eq_true hp)))
                · refine rs_plain rfl rfl fun a wr S => ?_
                  have X := undrew S.ext
                  obtain ⟨v3, e3, h3⟩ := S.got 3 (by kernel_rfl)
                  exact wp_mv ((ev_of (e3 67 (by kernel_rfl))).trans h3) (done (by kernel_rfl) rbu_refl rfl)
                · exact rs_no rfl rfl (by kernel_rfl) (by kernel_rfl : _ = some 68) (fun _ _ _ h => h) (by kernel_rfl) rbu_refl (fun _ _ => rfl)
                · exact rs_no rfl rfl (by kernel_rfl) (by kernel_rfl : _ = some 68) (fun _ _ _ h => h) (by kernel_rfl) rbu_refl (fun _ _ => rfl)
                · exact rs_no rfl rfl (by kernel_rfl) (by kernel_rfl : _ = some 68) (fun _ _ _ h => h) (by kernel_rfl) rbu_refl (fun _ _ => rfl)
                · exact rs_no rfl rfl (by kernel_rfl) (by kernel_rfl : _ = some 68) (fun _ _ _ h => h) (by kernel_rfl) rbu_refl (fun _ _ => rfl)
                · exact rs_no rfl rfl (by kernel_rfl) (by kernel_rfl : _ = some 68) (fun _ _ _ h => h) (by kernel_rfl) rbu_refl (fun _ _ => rfl)
                · exact rs_no rfl rfl (by kernel_rfl) (by kernel_rfl : _ = some 68) (fun _ _ _ h => h) (by kernel_rfl) rbu_refl (fun _ _ => rfl)
                · refine rs_plain rfl rfl fun a wr S => ?_
                  have X := undrew S.ext
                  obtain ⟨v4, e4, h4⟩ := S.got 4 (by kernel_rfl)
                  exact wp_pickT ((ev_of (e4 68 (by kernel_rfl))).trans h4) rfl (done (by kernel_rfl) rbu_refl rfl)
                · refine rs_plain rfl rfl fun a wr S => ?_
                  have X := undrew S.ext
                  obtain ⟨v11, e11, h11⟩ := S.got 11 (by kernel_rfl)
                  exact wp_as ((ev_of (e11 75 (by kernel_rfl))).trans h11) (done (by kernel_rfl) rbu_refl rfl)
              · intro fw10 w10 hR hv
                replace hR := undrew hR
                have f0 : fw10 0 = .agg #[.bool sa, .slice Aa (min na 4) ca, .slice Ba (min ma 4) da] := (hvc (hv 0 (by omega))).elim fun _ h => h
                have f1 : fw10 1 = .agg #[.bool sb, .slice Ab (min nb 4) cb, .slice Bb (min mb 4) db] := (hvc (hv 1 (by omega))).elim fun _ h => h
                have f2 : fw10 2 = .int .i64 s := (hvc (hv 2 (by omega))).elim fun _ h => h
                have f3 : fw10 3 = .bool true := (hvc (hv 3 (by omega))).elim fun _ h => h
                have f4 : fw10 4 = .bool true := (hvc (hv 4 (by omega))).elim fun _ h => h
                have f5 : fw10 5 = undef := (hvc (hv 5 (by omega))).elim fun _ h => h
                have f6 : fw10 6 = undef := (hvc (hv 6 (by omega))).elim fun _ h => h
                have f7 : fw10 7 = undef := (hvc (hv 7 (by omega))).elim fun _ h => h
                have f8 : fw10 8 = undef := (hvc (hv 8 (by omega))).elim fun _ h => h
                have f9 : fw10 9 = undef := (hvc (hv 9 (by omega))).elim fun _ h => h
                have f10 : fw10 10 = undef := (hvc (hv 10 (by omega))).elim fun _ h => h
                have f11 : fw10 11 = Value.bool true := (hvc (hv 11 (by omega))).elim fun _ h => h
                have f12 : fw10 12 = Value.bool true := (hvc (hv 12 (by omega))).elim fun _ h => h
                simp only [putFn, Act.put, List.setIfInBounds_toArray, List.set_cons_zero, List.set_cons_succ, f0, f1, f2, f3, f4, f5, f6, f7, f8, f9, f10, f11, f12]
                replace Xa := Xa.below hR
                replace Xb := Xb.below hR
                replace Qa := Qa.below hR
                replace Qb := Qb.below hR
                replace Qd := Qd.below hR
                replace Qu := Qu.below hR
                replace P5 := P5.below hR
                replace P6 := P6.below hR
                replace BB := bl_trans BB hR
                clear hR hv
                go_wp2_with fail
                go_ret
                exact ⟨rfl, BB⟩
            · have ht : t ≤ 0 := hst (by omega)
              clear hst
              refine wp_region_list (Ext := RB) (Rel := RBu) [fun v _ _ => v = .agg #[.bool sa, .slice Aa (min na 4) ca, .slice Ba (min ma 4) da], fun v _ _ => v = .agg #[.bool sb, .slice Ab (min nb 4) cb, .slice Bb (min mb 4) db], fun v _ _ => v = .int .i64 s, fun v _ _ => v = .bool false, fun v _ _ => v = .bool false, fun v _ _ => v = .agg #[.bool bd, .slice Ad nd cd, .slice Bd md dd], fun v _ _ => v = .agg #[.bool sb, .slice Ab (min nb 4) cb, .slice Bb (min mb 4) db], fun v _ w => IsZ (w9).heap.size w v (qb.floor) 5, fun v _ w => IsQ (w9).heap.size w v (((qb.floor : Int) : Rat)) 5, fun v _ _ => v = .int .i64 t, fun v _ _ => v = .bool true, fun v _ _ => v = .bool true, fun v _ _ => v = .bool true] (n := 13) (by kernel_rfl) rfl (by kernel_rfl) (by kernel_rfl) (by kernel_rfl) (by kernel_rfl) (by kernel_rfl) rb_refl rb_trans ⟨sC, ⟨sC, ⟨sC, ⟨sC, ⟨sC, ⟨sC, ⟨sC, ⟨sZ, ⟨sQ, ⟨sC, ⟨sC, ⟨sC, ⟨sC, trivial⟩⟩⟩⟩⟩⟩⟩⟩⟩⟩⟩⟩⟩ ?_ ?_
              · refine ⟨⟨⟨⟨⟨⟨⟨⟨⟨⟨⟨⟨⟨trivial, ?_⟩, ?_⟩, ?_⟩, ?_⟩, ?_⟩, ?_⟩, ?_⟩, ?_⟩, ?_⟩, ?_⟩, ?_⟩, ?_⟩, ?_⟩
                · refine rs_plain rfl rfl fun a wr S => ?_
                  have X := undrew S.ext
                  exact wp_qload (ev_of ((S.old 2 (by kernel_rfl)).trans rfl)) (Xa.below X) (done (by kernel_rfl) rbu_refl rfl)
                · refine rs_plain rfl rfl fun a wr S => ?_
                  have X := undrew S.ext
                  exact wp_qload (ev_of ((S.old 3 (by kernel_rfl)).trans rfl)) (Xb.below X) (done (by kernel_rfl) rbu_refl rfl)
                · refine rs_plain rfl rfl fun a wr S => ?_
                  have X := undrew S.ext
                  obtain ⟨v0, e0, h0⟩ := S.got 0 (by kernel_rfl)
                  obtain ⟨v1, e1, h1⟩ := S.got 1 (by kernel_rfl)
                  exact st_call cf_rat_Cmp (args2 ((ev_of (e0 64 (by kernel_rfl))).trans h0) ((ev_of (e1 65 (by kernel_rfl))).trans h1)) (by kernel_rfl) rb ((cQCmp (show IsQm _ _ _ _ from (Qa.below X)) (show IsQm _ _ _ _ from (Qb.below X)) (by omega) (by omega) (by omega) (by omega)).mono (ans_intW HS.out)) (fun _ _ _ h => h)
                · refine rs_plain rfl rfl fun a wr S => ?_
                  have X := undrew S.ext
                  obtain ⟨v2, e2, h2⟩ := S.got 2 (by kernel_rfl)
                  exact wp_gtI ((ev_of (e2 66 (by kernel_rfl))).trans h2) rfl (done (by kernel_rfl) rbu_refl (congrArg Value.bool (decide_eq_false hp)))
                · refine rs_plain rfl rfl fun a wr S => ?_
                  have X := undrew S.ext
                  obtain ⟨v3, e3, h3⟩ := S.got 3 (by kernel_rfl)
                  exact wp_mv ((ev_of (e3 67 (by kernel_rfl))).trans h3) (done (by kernel_rfl) rbu_refl rfl)
                · refine rs_yes rfl rfl (by kernel_rfl) (by kernel_rfl : _ = some 68) (fun _ _ _ h => h) fun a wr S => ?_
                  have X := undrew S.ext
                  exact wp_qload (ev_of ((S.old 5 (by kernel_rfl)).trans rfl)) (P5.below X) (done (by kernel_rfl) rbu_refl rfl)
                · refine rs_yes rfl rfl (by kernel_rfl) (by kernel_rfl : _ = some 68) (fun _ _ _ h => h) fun a wr S => ?_
                  have X := undrew S.ext
                  exact wp_qload (ev_of ((S.old 3 (by kernel_rfl)).trans rfl)) (Xb.below X) (done (by kernel_rfl) rbu_refl rfl)
                · refine rs_yes rfl rfl (by kernel_rfl) (by kernel_rfl : _ = some 68) (fun _ _ _ h => h) fun a wr S => ?_
                  have X := undrew S.ext
                  obtain ⟨v6, e6, h6⟩ := S.got 6 (by kernel_rfl)
                  exact st_call cf_rat_Floor (args1 ((ev_of (e6 70 (by kernel_rfl))).trans h6)) (by kernel_rfl) rb ((cQFloor (show IsQm _ _ _ _ from (Qb.below X)) (by omega) (by omega)).mono (ansZ_base X.size)) (fun _ _ _ h => h)
                · refine rs_yes rfl rfl (by kernel_rfl) (by kernel_rfl : _ = some 68) (fun _ _ _ h => h) fun a wr S => ?_
                  have X := undrew S.ext
                  obtain ⟨v7, e7, h7⟩ := S.got 7 (by kernel_rfl)
                  exact st_call cf_rat_Int (args1 (ev_of (e7 71 (by kernel_rfl)))) (by kernel_rfl) rb ((cQInt (show IsM _ _ _ _ from h7.m) (by omega) (by omega)).mono (ansQ_base X.size)) (fun _ _ _ h => h)
                · refine rs_yes rfl rfl (by kernel_rfl) (by kernel_rfl : _ = some 68) (fun _ _ _ h => h) fun a wr S => ?_
                  have X := undrew S.ext
                  obtain ⟨v5, e5, h5⟩ := S.got 5 (by kernel_rfl)
                  obtain ⟨v8, e8, h8⟩ := S.got 8 (by kernel_rfl)
                  exact st_call cf_rat_Cmp (args2 ((ev_of (e5 69 (by kernel_rfl))).trans h5) (ev_of (e8 72 (by kernel_rfl)))) (by kernel_rfl) rb ((cQCmp (show IsQm _ _ _ _ from (Qd.below X).m) (show IsQm _ _ _ _ from h8.m) (by omega) (by omega) (by omega) (by omega)).mono (ans_intW HT.out)) (fun _ _ _ h => h)
                · refine rs_yes rfl rfl (by kernel_rfl) (by kernel_rfl : _ = some 68) (fun _ _ _ h => h) fun a wr S => ?_
                  have X := undrew S.ext
                  obtain ⟨v9, e9, h9⟩ := S.got 9 (by kernel_rfl)
                  exact wp_leI ((ev_of (e9 73 (by kernel_rfl))).trans h9) rfl (done (by kernel_rfl) rbu_refl (congrArg Value.bool (decide_eq_true ht)))
                · refine rs_plain rfl rfl fun a wr S => ?_
                  have X := undrew S.ext
                  obtain ⟨v4, e4, h4⟩ := S.got 4 (by kernel_rfl)
                  obtain ⟨v10, e10, h10⟩ := S.got 10 (by kernel_rfl)
                  exact wp_pickF ((ev_of (e4 68 (by kernel_rfl))).trans h4) ((ev_of (e10 74 (by kernel_rfl))).trans h10) (done (by kernel_rfl) rbu_refl rfl)
                · refine rs_plain rfl rfl fun a wr S => ?_
                  have X := undrew S.ext
                  obtain ⟨v11, e11, h11⟩ := S.got 11 (by kernel_rfl)
                  exact wp_as ((ev_of (e11 75 (by kernel_rfl))).trans h11) (done (by kernel_rfl) rbu_refl rfl)
              · intro fw11 w11 hR hv
                replace hR := undrew hR
                have f0 : fw11 0 = .agg #[.bool sa, .slice Aa (min na 4) ca, .slice Ba (min ma 4) da] := (hvc (hv 0 (by omega))).elim fun _ h => h
                have f1 : fw11 1 = .agg #[.bool sb, .slice Ab (min nb 4) cb, .slice Bb (min mb 4) db] := (hvc (hv 1 (by omega))).elim fun _ h => h
                have f2 : fw11 2 = .int .i64 s := (hvc (hv 2 (by omega))).elim fun _ h => h
                have f3 : fw11 3 = .bool false := (hvc (hv 3 (by omega))).elim fun _ h => h
                have f4 : fw11 4 = .bool false := (hvc (hv 4 (by omega))).elim fun _ h => h
                have f5 : fw11 5 = .agg #[.bool bd, .slice Ad nd cd, .slice Bd md dd] := (hvc (hv 5 (by omega))).elim fun _ h => h
                have f6 : fw11 6 = .agg #[.bool sb, .slice Ab (min nb 4) cb, .slice Bb (min mb 4) db] := (hvc (hv 6 (by omega))).elim fun _ h => h
                have f9 : fw11 9 = .int .i64 t := (hvc (hv 9 (by omega))).elim fun _ h => h
                have f10 : fw11 10 = .bool true := (hvc (hv 10 (by omega))).elim fun _ h => h
                have f11 : fw11 11 = .bool true := (hvc (hv 11 (by omega))).elim fun _ h => h
                have f12 : fw11 12 = .bool true := (hvc (hv 12 (by omega))).elim fun _ h => h
                simp only [putFn, Act.put, List.setIfInBounds_toArray, List.set_cons_zero, List.set_cons_succ, f0, f1, f2, f3, f4, f5, f6, f9, f10, f11, f12]
                replace Xa := Xa.below hR
                replace Xb := Xb.below hR
                replace Qa := Qa.below hR
                replace Qb := Qb.below hR
                replace Qd := Qd.below hR
                replace Qu := Qu.below hR
                replace P5 := P5.below hR
                replace P6 := P6.below hR
                replace BB := bl_trans BB hR
                clear hR hv
                go_wp2_with fail
                go_ret
                exact ⟨rfl, BB⟩
theorem ratWhole_walk (sa : Bool) (Aa : Option Addr) (na ca : Nat) (xa : List Nat) (Ba : Option Addr) (ma da : Nat) (ya : List Nat) (sb : Bool) (Ab : Option Addr) (nb cb : Nat) (xb : List Nat) (Bb : Option Addr) (mb db : Nat) (yb : List Nat) (w : World) (ha : (Rd w Aa na ca xa ∧ na ≤ maxLen) ∧ (Rd w Ba ma da ya ∧ ma ≤ maxLen)) (hb : (Rd w Ab nb cb xb ∧ nb ≤ maxLen) ∧ (Rd w Bb mb db yb ∧ mb ≤ maxLen)) : Calls Tryz.prog 8 #[.agg #[.bool sa, .slice Aa na ca, .slice Ba ma da], .agg #[.bool sb, .slice Ab nb cb, .slice Bb mb db]] w fun e w' => e = .returned (.bool true) ∧ Below w.heap.size w w' :=
  ratWhole_in sa Aa na ca xa Ba ma da ya sb Ab nb cb xb Bb mb db yb _ _ w (Lib.hid ha.1.1) (Lib.hid ha.1.2) (Lib.hid ha.2.1) (Lib.hid ha.2.2) (Lib.hid hb.1.1) (Lib.hid hb.1.2) (Lib.hid hb.2.1) (Lib.hid hb.2.2) (Lib.hid rfl) (Lib.hid rfl) 

end Go.Proofs.YtbhgbilhoonopaaGreat
