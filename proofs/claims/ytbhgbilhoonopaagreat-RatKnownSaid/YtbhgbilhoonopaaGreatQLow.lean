/- rat.lowest: a number divided by another one, made right. -/
import Derived.Test.YtbhgbilhoonopaaGreatQOps
namespace Go.Proofs.YtbhgbilhoonopaaGreat
open Go.RowKit
set_option linter.unusedVariables false
set_option maxRecDepth 100000

set_option maxHeartbeats 2000000 in
theorem cLowest {w : World} {v v' : Value} {z : Int} {y k j : Nat} (h : IsM w v z k) (g : IsN w v' y j) (hk : k ≤ 1000) (hj : j ≤ 1000) (hy : y ≠ 0) : Calls Tryz.prog 66 #[v, v'] w (Ans w fun w' v => IsQ w.heap.size w' v (mkRat z y) (max k j)) := by
  obtain ⟨b, A, n, c, rfl, h⟩ := h
  obtain ⟨B, m, d, rfl, g⟩ := g
  obtain ⟨x, hx, rfl⟩ := h.row
  have HN := Lib.hid (low_num b x hy)
  have HD := Lib.hid (low_den b x hy)
  have HG := Lib.hid (show x.gcd y ≠ 0 from fun e => hy (Nat.eq_zero_of_gcd_eq_zero_right e))
  have PA := (Bz.new w b A n c).alloc (.cells #[.bool false, .slice none 0 0, .slice none 0 0] 26)
  have PR := Bq.new2 w (.cells #[.bool b, .slice A n c] 24) false none 0 0 none 0 0
  have BB := bl_trans (bl_alloc w (.cells #[.bool b, .slice A n c] 24)) (bl_alloc _ (.cells #[.bool false, .slice none 0 0, .slice none 0 0] 26))
  have NX := hx.below BB
  have NY := g.below BB
  clear h hx g hy
  have P0 := PA.c1
  go_enter Tryz.func66, Tryz.ntmps66
  go_wp2_with fail
  refine (cGcd (N := 0) ⟨_, _, _, rfl, NX⟩ ⟨_, _, _, rfl, NY⟩ (by omega) (by omega) (Nat.zero_le _)).mono ?_
  rintro e w1 ⟨_, rfl, hb1, G, gn, gc, rfl, og, lg⟩
  have NG : Nm w1 G gn gc (x.gcd y) (max k j) := ⟨⟨_, og.rd, M.val_lims _⟩, lg⟩
  have hs1 := hb1.size
  simp only [hs_alloc] at hs1
  replace NX := NX.below hb1
  replace NY := NY.below hb1
  replace PA := PA.below hb1
  replace PR := PR.below hb1
  replace BB := bl_trans BB hb1
  clear P0 hb1 og lg
  go_wp2_with fail
  refine wp_cut (by kernel_rfl) 11 ?_
  simp only [List.take_succ_cons, List.take_zero, List.drop_succ_cons, List.drop_zero]
  refine wp_cut_list (Ext := RB) (Rel := RBu) [fun v _ _ => v = .pointer (some ⟨w.heap.size, 0, none⟩), fun v _ _ => v = .bool b, fun v _ _ => v = .pointer (some ⟨w.heap.size, 1, none⟩), fun v _ _ => v = .slice A n c, fun v _ _ => v = .slice G gn gc, fun v _ w => IsD (w1).heap.size w v (x / (x.gcd y)) k, fun v _ w => IsZ (w1).heap.size w v (zv b (x / (x.gcd y))) k, fun v _ _ => v = .slice B m d, fun v _ _ => v = .slice G gn gc, fun v _ w => IsD (w1).heap.size w v (y / (x.gcd y)) j, fun v _ w => IsQ (w1).heap.size w v (mkRat (zv b x) y) (max k j)] (n := 11) (by kernel_rfl) (by kernel_rfl) (by kernel_rfl) (by kernel_rfl) (by kernel_rfl) (by kernel_rfl) (by kernel_rfl) (by kernel_rfl) (by kernel_rfl) rb_refl rb_trans ⟨sC, ⟨sC, ⟨sC, ⟨sC, ⟨sC, ⟨sD, ⟨sZ, ⟨sC, ⟨sC, ⟨sD, ⟨sQ, trivial⟩⟩⟩⟩⟩⟩⟩⟩⟩⟩⟩ ?_ ?_
  · refine ⟨⟨⟨⟨⟨⟨⟨⟨⟨⟨⟨trivial, ?_⟩, ?_⟩, ?_⟩, ?_⟩, ?_⟩, ?_⟩, ?_⟩, ?_⟩, ?_⟩, ?_⟩, ?_⟩
    · refine rs_plain rfl rfl fun a wr S => ?_
      have X := undrew S.ext
      exact wp_field0 (ev_of ((S.old 2 (by kernel_rfl)).trans rfl)) (done (by kernel_rfl) rbu_refl rfl)
    · refine rs_plain rfl rfl fun a wr S => ?_
      have X := undrew S.ext
      obtain ⟨v0, e0, h0⟩ := S.got 0 (by kernel_rfl)
      exact wp_loadB ((ev_of (e0 10 (by kernel_rfl))).trans h0) (PA.below X) (done (by kernel_rfl) rbu_refl rfl)
    · refine rs_plain rfl rfl fun a wr S => ?_
      have X := undrew S.ext
      exact wp_field1 (ev_of ((S.old 2 (by kernel_rfl)).trans rfl)) (done (by kernel_rfl) rbu_refl rfl)
    · refine rs_plain rfl rfl fun a wr S => ?_
      have X := undrew S.ext
      obtain ⟨v2, e2, h2⟩ := S.got 2 (by kernel_rfl)
      exact wp_loadM ((ev_of (e2 12 (by kernel_rfl))).trans h2) (PA.below X) (done (by kernel_rfl) rbu_refl rfl)
    · refine rs_plain rfl rfl fun a wr S => ?_
      have X := undrew S.ext
      exact wp_mv (ev_of ((S.old 5 (by kernel_rfl)).trans rfl)) (done (by kernel_rfl) rbu_refl rfl)
    · refine rs_plain rfl rfl fun a wr S => ?_
      have X := undrew S.ext
      obtain ⟨v3, e3, h3⟩ := S.got 3 (by kernel_rfl)
      obtain ⟨v4, e4, h4⟩ := S.got 4 (by kernel_rfl)
      exact st_call cf_rat_without (args2 ((ev_of (e3 13 (by kernel_rfl))).trans h3) ((ev_of (e4 14 (by kernel_rfl))).trans h4)) (by kernel_rfl) rb (cWithout ⟨_, _, _, rfl, NX.below X⟩ ⟨_, _, _, rfl, NG.below X⟩ (by omega) (by omega) HG.out X.size) (fun _ _ _ h => h)
    · refine rs_plain rfl rfl fun a wr S => ?_
      have X := undrew S.ext
      obtain ⟨v1, e1, h1⟩ := S.got 1 (by kernel_rfl)
      obtain ⟨v5, e5, h5⟩ := S.got 5 (by kernel_rfl)
      exact st_call cf_big_Of (args2 ((ev_of (e1 11 (by kernel_rfl))).trans h1) (ev_of (e5 15 (by kernel_rfl)))) (by kernel_rfl) rb (cOfN b (show IsD _ _ _ _ _ from h5).n (by omega) X.size) (fun _ _ _ h => h)
    · refine rs_plain rfl rfl fun a wr S => ?_
      have X := undrew S.ext
      exact wp_mv (ev_of ((S.old 1 (by kernel_rfl)).trans rfl)) (done (by kernel_rfl) rbu_refl rfl)
    · refine rs_plain rfl rfl fun a wr S => ?_
      have X := undrew S.ext
      exact wp_mv (ev_of ((S.old 5 (by kernel_rfl)).trans rfl)) (done (by kernel_rfl) rbu_refl rfl)
    · refine rs_plain rfl rfl fun a wr S => ?_
      have X := undrew S.ext
      obtain ⟨v7, e7, h7⟩ := S.got 7 (by kernel_rfl)
      obtain ⟨v8, e8, h8⟩ := S.got 8 (by kernel_rfl)
      exact st_call cf_rat_without (args2 ((ev_of (e7 17 (by kernel_rfl))).trans h7) ((ev_of (e8 18 (by kernel_rfl))).trans h8)) (by kernel_rfl) rb (cWithout ⟨_, _, _, rfl, NY.below X⟩ ⟨_, _, _, rfl, NG.below X⟩ (by omega) (by omega) HG.out X.size) (fun _ _ _ h => h)
    · refine rs_plain rfl rfl fun a wr S => ?_
      have X := undrew S.ext
      obtain ⟨v6, e6, h6⟩ := S.got 6 (by kernel_rfl)
      obtain ⟨v9, e9, h9⟩ := S.got 9 (by kernel_rfl)
      obtain ⟨bb, AA, nn, cc, hvv, ZZ⟩ := (show IsZ _ wr _ (zv b (x / (x.gcd y))) k from h6)
      obtain ⟨BB, mm, dd, hvd, OO, ll⟩ := (show IsD _ wr _ (y / (x.gcd y)) j from h9)
      exact wp_bQ ((ev_of (e6 16 (by kernel_rfl))).trans hvv) ((ev_of (e9 19 (by kernel_rfl))).trans hvd) (done (by kernel_rfl) rbu_refl (isQ_mk (by rw [← HN.out]; exact ZZ.monoK (by omega)) (by rw [← HD.out]; exact OO) (by omega)))
  · intro fa w2 hR hv hap
    clear hap
    replace hR := undrew hR
    have f0 : fa 0 = .pointer (some ⟨w.heap.size, 0, none⟩) := (hvc (hv 0 (by omega))).elim fun _ h => h
    have f1 : fa 1 = .bool b := (hvc (hv 1 (by omega))).elim fun _ h => h
    have f2 : fa 2 = .pointer (some ⟨w.heap.size, 1, none⟩) := (hvc (hv 2 (by omega))).elim fun _ h => h
    have f3 : fa 3 = .slice A n c := (hvc (hv 3 (by omega))).elim fun _ h => h
    have f4 : fa 4 = .slice G gn gc := (hvc (hv 4 (by omega))).elim fun _ h => h
    have f7 : fa 7 = .slice B m d := (hvc (hv 7 (by omega))).elim fun _ h => h
    have f8 : fa 8 = .slice G gn gc := (hvc (hv 8 (by omega))).elim fun _ h => h
    obtain ⟨bq, Aq, nq, cq, Bq, mq, dq, f10, Zq, Oq, lq⟩ := (show IsQ _ w2 _ (mkRat (zv b x) y) (max k j) from (hvc (hv 10 (by omega))).elim fun _ h => h)
    simp only [putFn, Act.put, List.setIfInBounds_toArray, List.set_cons_zero, List.set_cons_succ, f0, f1, f2, f3, f4, f7, f8, f10]
    have IQ : IsQ w1.heap.size w2 (.agg #[.bool bq, .slice Aq nq cq, .slice Bq mq dq]) (mkRat (zv b x) y) (max k j) := ⟨_, _, _, _, _, _, _, rfl, Zq, Oq, lq⟩
    replace PR := PR.below hR
    replace BB := bl_trans BB hR
    have r0 := PR.c0
    have r1 := PR.c1
    have r2 := PR.c2
    have f0 := PR.f 0
    have f1 := PR.f 1
    have f2 := PR.f 2
    clear hR hv Zq Oq lq NX NY NG PA
    go_wp2_with fail
    exact bodyPost_ret (v := .agg #[.bool bq, .slice Aq nq cq, .slice Bq mq dq]) (by simp [results, Tryz.results66, go_sem, *]) rfl (fin_q IQ BB (by omega) (by omega) _ _ _)

end Go.Proofs.YtbhgbilhoonopaaGreat
