/- Contracts of the program's functions, as far as the claims ask for them (6 of 6). -/
import Derived.Test.YtbhgbilhoonopaaGreatK5
namespace Go.Proofs.YtbhgbilhoonopaaGreat
open Go.RowKit
set_option linter.unusedVariables false
set_option maxRecDepth 100000

theorem litTr1 (w : World) : IsTr (w.alloc (.cells #[.int .u32 1] 44)) (.slice (some ⟨w.heap.size, 0, none⟩) 1 1) 1 1 := ⟨_, _, _, rfl, litT1 w 1 1 (by rw [M.R_eq]; omega) (by omega) rfl⟩
theorem isT_nat {w : World} {A : Option Addr} {n c x k : Nat} (h : Tm w A n c x k) : IsT w (.agg #[.bool false, .slice A n c]) ((x : Nat) : Int) k := ⟨_, _, _, _, rfl, by rw [Int.natAbs_natCast]; exact h, by rw [decide_eq_false (by omega)]⟩
theorem dOf_int (y : Nat) : ((dOf y : Nat) : Int) ≠ 0 := by have := dOf_pos y; omega
section
variable {p q : Rat} {z u : Int} {y x t : Nat} {b : Bool}
theorem made_q (hq : q = mkRat z (dOf y)) : Rat.divInt z ((dOf y : Nat) : Int) = q := by rw [hq, Rat.divInt_ofNat]
theorem neg_q (hq : q = mkRat z (dOf y)) : Rat.divInt (-z) ((dOf y : Nat) : Int) = -q := by rw [← made_q hq, Rat.neg_divInt]
theorem add_q (hp : p = mkRat z (dOf y)) (hq : q = mkRat u (dOf t)) : Rat.divInt (z * ((dOf t : Nat) : Int) + u * ((dOf y : Nat) : Int)) (((dOf y : Nat) : Int) * ((dOf t : Nat) : Int)) = p + q := by
 rw [← made_q hp, ← made_q hq, Rat.divInt_add_divInt _ _ (dOf_int y) (dOf_int t)]
theorem mul_q (hp : p = mkRat z (dOf y)) (hq : q = mkRat u (dOf t)) : Rat.divInt (z * u) (((dOf y : Nat) : Int) * ((dOf t : Nat) : Int)) = p * q := by
 rw [← made_q hp, ← made_q hq, Rat.divInt_mul_divInt]
theorem div_q (hp : p = mkRat z (dOf y)) (hq : q = mkRat u (dOf t)) : Rat.divInt (z * ((dOf t : Nat) : Int)) (((dOf y : Nat) : Int) * u) = p / q := by
 rw [← made_q hp, ← made_q hq, Rat.div_def, Rat.inv_divInt, Rat.divInt_mul_divInt]
theorem q_zero (hq : q = mkRat z (dOf y)) : q = 0 ↔ z = 0 := by rw [hq, Rat.mkRat_eq_zero (dOf_pos y)]
theorem x_zero (hq : q = mkRat z (dOf y)) (hz : zv b x = z) : decide (x = 0) = decide (q = 0) := by
 refine decide_eq_decide.2 (Iff.trans ?_ (q_zero hq).symm)
 rw [← hz]
 cases b
 ·rw [zv_false]; omega
 ·rw [zv_true]; omega
theorem z_ne (hq : q = mkRat z (dOf y)) (h : q ≠ 0) : z ≠ 0 := fun e => h ((q_zero hq).2 e)
theorem sgn_b (hq : q = mkRat z (dOf y)) (hz : zv b x = z) (h : q ≠ 0) : sgn q.num = if b then -1 else 1 := by
 have h0 := z_ne hq h
 rw [hq, sgn_mkRat z (dOf_pos y)]
 cases b
 ·rw [zv_false] at hz; rw [sgn_pos (by omega)]; rfl
 ·rw [zv_true] at hz; rw [sgn_neg (by omega)]; rfl
theorem sgn_0 (h : q = 0) : sgn q.num = 0 := by rw [h]; rfl
theorem fl_pos (hb : false = decide (q.num < 0)) : zv false (q.num.natAbs / q.den) = q.floor := by
 have := of_decide_eq_false hb.symm
 rw [zv_false, Rat.floor_def, Int.natCast_ediv, Int.natAbs_of_nonneg (by omega)]
theorem fl_dvd (hb : true = decide (q.num < 0)) (hr : q.num.natAbs % q.den = 0) : zv true (q.num.natAbs / q.den) = q.floor := by
 have := of_decide_eq_true hb.symm
 rw [zv_true, Rat.floor_def, Int.natCast_ediv, ← Int.neg_ediv_of_dvd (Int.natCast_dvd_natCast.2 (Nat.dvd_of_mod_eq_zero hr)), Int.ofNat_natAbs_of_nonpos (by omega), Int.neg_neg]
theorem fl_neg (hb : true = decide (q.num < 0)) (hr : q.num.natAbs % q.den ≠ 0) : zv true (q.num.natAbs / q.den + 1) = q.floor := by
 have := of_decide_eq_true hb.symm
 have hd := q.den_pos
 have e : q.num = -((q.num.natAbs : Nat) : Int) := by omega
 rw [zv_true, Rat.floor_def]
 conv => rhs; rw [e, Int.neg_ediv]
 rw [if_neg (fun h => hr (Nat.mod_eq_zero_of_dvd (Int.natCast_dvd_natCast.1 h))), Int.sign_eq_one_of_pos (by omega), Int.natCast_add, Int.natCast_ediv]
 omega
end
section
variable {w : World} {A B : Option Addr} {n c m d k : Nat} {q : Rat} {b : Bool}
theorem IsQt.pn (h : IsQt w (.agg #[.bool b, .slice A n c, .slice B m d]) q k) : Tm w A n c q.num.natAbs k := by
 obtain ⟨_, _, _, _, _, _, _, e, h, _⟩ := h
 injection e with e; injection e with e; simp only [List.cons.injEq, Value.bool.injEq, Value.slice.injEq] at e
 obtain ⟨rfl, ⟨rfl, rfl, rfl⟩, ⟨rfl, rfl, rfl⟩, _⟩ := e
 exact h
theorem IsQt.pd (h : IsQt w (.agg #[.bool b, .slice A n c, .slice B m d]) q k) : Tm w B m d q.den k := by
 obtain ⟨_, _, _, _, _, _, _, e, _, _, h⟩ := h
 injection e with e; injection e with e; simp only [List.cons.injEq, Value.bool.injEq, Value.slice.injEq] at e
 obtain ⟨rfl, ⟨rfl, rfl, rfl⟩, ⟨rfl, rfl, rfl⟩, _⟩ := e
 exact h
theorem IsQt.pb (h : IsQt w (.agg #[.bool b, .slice A n c, .slice B m d]) q k) : b = decide (q.num < 0) := by
 obtain ⟨_, _, _, _, _, _, _, e, _, h, _⟩ := h
 injection e with e; injection e with e; simp only [List.cons.injEq, Value.bool.injEq, Value.slice.injEq] at e
 obtain ⟨rfl, _⟩ := e
 exact h
end
section
variable {w : World} {v v2 v3 v1 : Value} {q1 q2 q3 : Rat} {k k1 k2 k3 : Nat}
set_option maxHeartbeats 2000000
theorem cDown3 {b1 : Bool} {A1 B1 : Option Addr} {n1 c1 m1 d1 y1 : Nat} (D1 : Nm w B1 m1 d1 y1 k1) (hk1 : k1 ≤ 900) (g1 : 1 ≤ k1) : Calls Tryz.prog 52 #[.agg #[.bool b1, .slice A1 n1 c1, .slice B1 m1 d1]] w (Ans w fun w' v => IsT w' v ((dOf y1 : Nat) : Int) k1) := by
 have BB := (bl_trans (bl_alloc w (.cells #[.bool b1, .slice A1 n1 c1, .slice B1 m1 d1] 26)) (bl_alloc _ (.cells #[.bool false, .slice none 0 0] 24)))
 replace D1 := D1.below BB
 have P1 := (Bq.new w b1 A1 n1 c1 B1 m1 d1).alloc (.cells #[.bool false, .slice none 0 0] 24)
 have P2 := Bz.new (w.alloc (.cells #[.bool b1, .slice A1 n1 c1, .slice B1 m1 d1] 26)) false none 0 0
 simp only [hs_alloc] at P2
 go_enter Tryz.func52, Tryz.ntmps52
 go_upto_region 1 with (fail)
 generalize ((w.alloc (.cells #[.bool b1, .slice A1 n1 c1, .slice B1 m1 d1] 26)).alloc (.cells #[.bool false, .slice none 0 0] 24)) = w0 at D1 P1 P2 BB ⊢
 refine wp_seq 4 ?_
 simp only [List.take_succ_cons, List.take_zero, List.drop_succ_cons, List.drop_zero]
 refine wp_seq_list (Ext := RB) (Rel := RBu) [fun v _ _ => v = .pointer (some ⟨w.heap.size, 2, none⟩), fun v _ _ => v = .slice B1 m1 d1, fun v _ w => IsTr w v (y1) k1, fun v _ w => IsTr w v (y1) k1] (n := 4) (by kernel_rfl) (by kernel_rfl) (by kernel_rfl) (by kernel_rfl) (by kernel_rfl) (by kernel_rfl) (by kernel_rfl) rb_refl rb_trans ⟨sC, ⟨sC, ⟨sTr, ⟨sTr, trivial⟩⟩⟩⟩ ?_ ?_
 ·refine ⟨⟨⟨⟨trivial, ?_⟩, ?_⟩, ?_⟩, ?_⟩
  ·refine rs_plain rfl rfl fun a wr S => ?_
   have X := rbX S.ext
   exact wp_qf1 (ev_of ((S.old 1 (by kernel_rfl)).trans rfl)) (done (by kernel_rfl) rbu_refl rfl)
  ·refine rs_plain rfl rfl fun a wr S => ?_
   have X := rbX S.ext
   obtain ⟨v0, e0, h0⟩ := S.got 0 (by kernel_rfl)
   exact wp_qD ((ev_of (e0 4 (by kernel_rfl))).trans h0) (P1.below X) (done (by kernel_rfl) rbu_refl rfl)
  ·refine rs_plain rfl rfl fun a wr S => ?_
   have X := rbX S.ext
   obtain ⟨v1, e1, h1⟩ := S.got 1 (by kernel_rfl)
   exact st_call cf_ref01_Trim (args1 ((ev_of (e1 5 (by kernel_rfl))).trans h1)) (by kernel_rfl) rb (rTrim ⟨_, _, _, rfl, D1.below X⟩ (by omega)) (fun _ _ _ h => h)
  ·refine rs_plain rfl rfl fun a wr S => ?_
   have X := rbX S.ext
   obtain ⟨v2, e2, h2⟩ := S.got 2 (by kernel_rfl)
   exact wp_as (ev_of (e2 6 (by kernel_rfl))) (done (by kernel_rfl) rbu_refl h2)
 ·intro fw1 w1 hR hv hap
  clear hap
  replace hR := rbX hR
  have f0 : fw1 0 = .pointer (some ⟨w.heap.size, 2, none⟩) := (hvc (hv 0 (by omega))).elim fun _ h => h
  have f1 : fw1 1 = .slice B1 m1 d1 := (hvc (hv 1 (by omega))).elim fun _ h => h
  obtain ⟨Ax1x3, nx1x3, cx1x3, f3, Tx1x3⟩ := (show IsTr w1 _ (y1) k1 from (hvc (hv 3 (by omega))).elim fun _ h => h)
  simp only [putFn, Act.put, List.setIfInBounds_toArray, List.set_cons_zero, List.set_cons_succ, f0, f1, f3]
  replace D1 := D1.below hR
  replace P1 := P1.below hR
  replace P2 := P2.below hR
  replace BB := bl_trans BB hR
  clear hR hv
  have Nx1x3 := Tx1x3.nm
  go_upto_region 2 with (fail)
  by_cases hy : y1 = 0
  ·have HY := Lib.hid hy
   clear hy
   refine wp_seq 3 ?_
   simp only [List.take_succ_cons, List.take_zero, List.drop_succ_cons, List.drop_zero]
   refine wp_seq_list (Ext := RB) (Rel := RBu) [fun v _ _ => v = .slice Ax1x3 nx1x3 cx1x3, fun v _ _ => v = .int .i64 ((M.lims y1).length : Int), fun v _ _ => v = .bool true] (n := 3) (by kernel_rfl) (by kernel_rfl) (by kernel_rfl) (by kernel_rfl) (by kernel_rfl) (by kernel_rfl) (by kernel_rfl) rb_refl rb_trans ⟨sC, ⟨sC, ⟨sC, trivial⟩⟩⟩ ?_ ?_
   ·refine ⟨⟨⟨trivial, ?_⟩, ?_⟩, ?_⟩
    ·refine rs_plain rfl rfl fun a wr S => ?_
     have X := rbX S.ext
     exact wp_mv (ev_of ((S.old 3 (by kernel_rfl)).trans rfl)) (done (by kernel_rfl) rbu_refl rfl)
    ·refine rs_plain rfl rfl fun a wr S => ?_
     have X := rbX S.ext
     obtain ⟨v0, e0, h0⟩ := S.got 0 (by kernel_rfl)
     exact wp_lenR ((ev_of (e0 7 (by kernel_rfl))).trans h0) (done (by kernel_rfl) rbu_refl (congrArg (fun n : Nat => Value.int .i64 (n : Int)) (Tx1x3.below X).rd.len.symm))
    ·refine rs_plain rfl rfl fun a wr S => ?_
     have X := rbX S.ext
     obtain ⟨v1, e1, h1⟩ := S.got 1 (by kernel_rfl)
     exact wp_eqI ((ev_of (e1 8 (by kernel_rfl))).trans h1) rfl (Or.inl rfl) (done (by kernel_rfl) rbu_refl (congrArg Value.bool (by rw [len_zero]; exact decide_eq_true HY.out)))
   ·intro fw2 w2 hR hv hap
    clear hap
    replace hR := rbX hR
    have f0 : fw2 0 = .slice Ax1x3 nx1x3 cx1x3 := (hvc (hv 0 (by omega))).elim fun _ h => h
    have f1 : fw2 1 = .int .i64 ((M.lims y1).length : Int) := (hvc (hv 1 (by omega))).elim fun _ h => h
    have f2 : fw2 2 = .bool true := (hvc (hv 2 (by omega))).elim fun _ h => h
    simp only [putFn, Act.put, List.setIfInBounds_toArray, List.set_cons_zero, List.set_cons_succ, f0, f1, f2]
    replace D1 := D1.below hR
    replace Nx1x3 := Nx1x3.below hR
    replace Tx1x3 := Tx1x3.below hR
    replace P1 := P1.below hR
    replace P2 := P2.below hR
    replace BB := bl_trans BB hR
    clear hR hv
    go_upto_region 3 with (fail)
    refine wp_seq 2 ?_
    simp only [List.take_succ_cons, List.take_zero, List.drop_succ_cons, List.drop_zero]
    refine wp_seq_list (Ext := RB) (Rel := RBu) [fun v _ w => IsTr w v (1) 1, fun v _ w => IsTr w v (1) 1] (n := 2) (by kernel_rfl) (by kernel_rfl) (by kernel_rfl) (by kernel_rfl) (by kernel_rfl) (by kernel_rfl) (by kernel_rfl) rb_refl rb_trans ⟨sTr, ⟨sTr, trivial⟩⟩ ?_ ?_
    ·refine ⟨⟨trivial, ?_⟩, ?_⟩
     ·refine rs_plain rfl rfl fun a wr S => ?_
      have X := rbX S.ext
      exact wp_bsL1 (done' (by kernel_rfl) (rb _ _ _ (bl_alloc _ _)) (litTr1 wr))
     ·refine rs_plain rfl rfl fun a wr S => ?_
      have X := rbX S.ext
      obtain ⟨v0, e0, h0⟩ := S.got 0 (by kernel_rfl)
      exact wp_as (ev_of (e0 10 (by kernel_rfl))) (done (by kernel_rfl) rbu_refl h0)
    ·intro fw3 w3 hR hv hap
     clear hap
     replace hR := rbX hR
     obtain ⟨Ax3x1, nx3x1, cx3x1, f1, Tx3x1⟩ := (show IsTr w3 _ (1) 1 from (hvc (hv 1 (by omega))).elim fun _ h => h)
     simp only [putFn, Act.put, List.setIfInBounds_toArray, List.set_cons_zero, List.set_cons_succ, f1]
     replace D1 := D1.below hR
     replace Nx1x3 := Nx1x3.below hR
     replace Tx1x3 := Tx1x3.below hR
     replace P1 := P1.below hR
     replace P2 := P2.below hR
     replace BB := bl_trans BB hR
     clear hR hv
     have Nx3x1 := Tx3x1.nm
     go_upto_region 4 with (fail)
     refine wp_seq 2 ?_
     simp only [List.take_succ_cons, List.take_zero, List.drop_succ_cons, List.drop_zero]
     refine wp_seq_list (Ext := RB) (Rel := RBu) [fun v _ _ => v = .slice Ax3x1 nx3x1 cx3x1, fun v _ w => IsT w v (((1 : Nat) : Int)) 1] (n := 2) (by kernel_rfl) (by kernel_rfl) (by kernel_rfl) (by kernel_rfl) (by kernel_rfl) (by kernel_rfl) (by kernel_rfl) rb_refl rb_trans ⟨sC, ⟨sT, trivial⟩⟩ ?_ ?_
     ·refine ⟨⟨trivial, ?_⟩, ?_⟩
      ·refine rs_plain rfl rfl fun a wr S => ?_
       have X := rbX S.ext
       exact wp_mv (ev_of ((S.old 3 (by kernel_rfl)).trans rfl)) (done (by kernel_rfl) rbu_refl rfl)
      ·refine rs_plain rfl rfl fun a wr S => ?_
       have X := rbX S.ext
       obtain ⟨v0, e0, h0⟩ := S.got 0 (by kernel_rfl)
       exact wp_bZ1 ((ev_of (e0 11 (by kernel_rfl))).trans h0) (done (by kernel_rfl) rbu_refl (isT_nat (Tx3x1.below X)))
     ·intro fw4 w4 hR hv hap
      clear hap
      replace hR := rbX hR
      have f0 : fw4 0 = .slice Ax3x1 nx3x1 cx3x1 := (hvc (hv 0 (by omega))).elim fun _ h => h
      obtain ⟨bx4x1, Ax4x1, nx4x1, cx4x1, f1, Tx4x1, sx4x1⟩ := (show IsT w4 _ (((1 : Nat) : Int)) 1 from (hvc (hv 1 (by omega))).elim fun _ h => h)
      simp only [putFn, Act.put, List.setIfInBounds_toArray, List.set_cons_zero, List.set_cons_succ, f0, f1]
      replace D1 := D1.below hR
      replace Nx1x3 := Nx1x3.below hR
      replace Tx1x3 := Tx1x3.below hR
      replace Nx3x1 := Nx3x1.below hR
      replace Tx3x1 := Tx3x1.below hR
      replace P1 := P1.below hR
      replace P2 := P2.below hR
      replace BB := bl_trans BB hR
      clear hR hv
      have Vx4x1 : IsT w4 (.agg #[.bool bx4x1, .slice Ax4x1 nx4x1 cx4x1]) (((1 : Nat) : Int)) 1 := ⟨_, _, _, _, rfl, Tx4x1, sx4x1⟩
      have Nx4x1 := Tx4x1.nm
      have Sx4x1 := Lib.hid sx4x1
      clear sx4x1
      have r20 := P2.c0
      have t20 := P2.f 0
      have r21 := P2.c1
      have t21 := P2.f 1
      go_wp2_with fail
      clear r20 t20 r21 t21
      have KR := kr_put2 (b' := bx4x1) (A' := Ax4x1) (n' := nx4x1) (c' := cx4x1) P2
      replace D1 := D1.kr KR
      replace Nx1x3 := Nx1x3.kr KR
      replace Tx1x3 := Tx1x3.kr KR
      replace Nx3x1 := Nx3x1.kr KR
      replace Tx3x1 := Tx3x1.kr KR
      replace Vx4x1 := Vx4x1.kr KR
      replace Nx4x1 := Nx4x1.kr KR
      replace Tx4x1 := Tx4x1.kr KR
      replace P1 := P1.put2 (g := (w.heap.size + 1)) (b' := bx4x1) (A' := Ax4x1) (n' := nx4x1) (c' := cx4x1) (by omega)
      replace BB := Below.put2 (g := (w.heap.size + 1)) (b' := bx4x1) (A' := Ax4x1) (n' := nx4x1) (c' := cx4x1) BB (by omega)
      replace P2 := P2.set2 (b' := bx4x1) (A' := Ax4x1) (n' := nx4x1) (c' := cx4x1)
      clear KR
      generalize World.setCell _ ⟨w.heap.size + 1, 1, none⟩ _ = w5 at D1 Nx1x3 Tx1x3 Nx3x1 Tx3x1 Vx4x1 Nx4x1 Tx4x1 P1 P2 BB ⊢
      have rc0 := P2.c0
      have rc1 := P2.c1
      exact bodyPost_ret (v := .agg #[.bool bx4x1, .slice Ax4x1 nx4x1 cx4x1]) (by simp [results, Tryz.results52, go_sem, rc0, rc1]) rfl ⟨_, rfl, BB, by rw [show dOf y1 = 1 by rw [HY.out]; rfl]; exact Vx4x1.mono (by omega)⟩
  ·have HY := Lib.hid hy
   clear hy
   refine wp_seq 3 ?_
   simp only [List.take_succ_cons, List.take_zero, List.drop_succ_cons, List.drop_zero]
   refine wp_seq_list (Ext := RB) (Rel := RBu) [fun v _ _ => v = .slice Ax1x3 nx1x3 cx1x3, fun v _ _ => v = .int .i64 ((M.lims y1).length : Int), fun v _ _ => v = .bool false] (n := 3) (by kernel_rfl) (by kernel_rfl) (by kernel_rfl) (by kernel_rfl) (by kernel_rfl) (by kernel_rfl) (by kernel_rfl) rb_refl rb_trans ⟨sC, ⟨sC, ⟨sC, trivial⟩⟩⟩ ?_ ?_
   ·refine ⟨⟨⟨trivial, ?_⟩, ?_⟩, ?_⟩
    ·refine rs_plain rfl rfl fun a wr S => ?_
     have X := rbX S.ext
     exact wp_mv (ev_of ((S.old 3 (by kernel_rfl)).trans rfl)) (done (by kernel_rfl) rbu_refl rfl)
    ·refine rs_plain rfl rfl fun a wr S => ?_
     have X := rbX S.ext
     obtain ⟨v0, e0, h0⟩ := S.got 0 (by kernel_rfl)
     exact wp_lenR ((ev_of (e0 7 (by kernel_rfl))).trans h0) (done (by kernel_rfl) rbu_refl (congrArg (fun n : Nat => Value.int .i64 (n : Int)) (Tx1x3.below X).rd.len.symm))
    ·refine rs_plain rfl rfl fun a wr S => ?_
     have X := rbX S.ext
     obtain ⟨v1, e1, h1⟩ := S.got 1 (by kernel_rfl)
     exact wp_eqI ((ev_of (e1 8 (by kernel_rfl))).trans h1) rfl (Or.inl rfl) (done (by kernel_rfl) rbu_refl (congrArg Value.bool (by rw [len_zero]; exact decide_eq_false HY.out)))
   ·intro fw6 w6 hR hv hap
    clear hap
    replace hR := rbX hR
    have f0 : fw6 0 = .slice Ax1x3 nx1x3 cx1x3 := (hvc (hv 0 (by omega))).elim fun _ h => h
    have f1 : fw6 1 = .int .i64 ((M.lims y1).length : Int) := (hvc (hv 1 (by omega))).elim fun _ h => h
    have f2 : fw6 2 = .bool false := (hvc (hv 2 (by omega))).elim fun _ h => h
    simp only [putFn, Act.put, List.setIfInBounds_toArray, List.set_cons_zero, List.set_cons_succ, f0, f1, f2]
    replace D1 := D1.below hR
    replace Nx1x3 := Nx1x3.below hR
    replace Tx1x3 := Tx1x3.below hR
    replace P1 := P1.below hR
    replace P2 := P2.below hR
    replace BB := bl_trans BB hR
    clear hR hv
    go_upto_region 4 with (fail)
    refine wp_seq 2 ?_
    simp only [List.take_succ_cons, List.take_zero, List.drop_succ_cons, List.drop_zero]
    refine wp_seq_list (Ext := RB) (Rel := RBu) [fun v _ _ => v = .slice Ax1x3 nx1x3 cx1x3, fun v _ w => IsT w v (((y1 : Nat) : Int)) k1] (n := 2) (by kernel_rfl) (by kernel_rfl) (by kernel_rfl) (by kernel_rfl) (by kernel_rfl) (by kernel_rfl) (by kernel_rfl) rb_refl rb_trans ⟨sC, ⟨sT, trivial⟩⟩ ?_ ?_
    ·refine ⟨⟨trivial, ?_⟩, ?_⟩
     ·refine rs_plain rfl rfl fun a wr S => ?_
      have X := rbX S.ext
      exact wp_mv (ev_of ((S.old 3 (by kernel_rfl)).trans rfl)) (done (by kernel_rfl) rbu_refl rfl)
     ·refine rs_plain rfl rfl fun a wr S => ?_
      have X := rbX S.ext
      obtain ⟨v0, e0, h0⟩ := S.got 0 (by kernel_rfl)
      exact wp_bZ1 ((ev_of (e0 11 (by kernel_rfl))).trans h0) (done (by kernel_rfl) rbu_refl (isT_nat (Tx1x3.below X)))
    ·intro fw7 w7 hR hv hap
     clear hap
     replace hR := rbX hR
     have f0 : fw7 0 = .slice Ax1x3 nx1x3 cx1x3 := (hvc (hv 0 (by omega))).elim fun _ h => h
     obtain ⟨bx4x1, Ax4x1, nx4x1, cx4x1, f1, Tx4x1, sx4x1⟩ := (show IsT w7 _ (((y1 : Nat) : Int)) k1 from (hvc (hv 1 (by omega))).elim fun _ h => h)
     simp only [putFn, Act.put, List.setIfInBounds_toArray, List.set_cons_zero, List.set_cons_succ, f0, f1]
     replace D1 := D1.below hR
     replace Nx1x3 := Nx1x3.below hR
     replace Tx1x3 := Tx1x3.below hR
     replace P1 := P1.below hR
     replace P2 := P2.below hR
     replace BB := bl_trans BB hR
     clear hR hv
     have Vx4x1 : IsT w7 (.agg #[.bool bx4x1, .slice Ax4x1 nx4x1 cx4x1]) (((y1 : Nat) : Int)) k1 := ⟨_, _, _, _, rfl, Tx4x1, sx4x1⟩
     have Nx4x1 := Tx4x1.nm
     have Sx4x1 := Lib.hid sx4x1
     clear sx4x1
     have r20 := P2.c0
     have t20 := P2.f 0
     have r21 := P2.c1
     have t21 := P2.f 1
     go_wp2_with fail
     clear r20 t20 r21 t21
     have KR := kr_put2 (b' := bx4x1) (A' := Ax4x1) (n' := nx4x1) (c' := cx4x1) P2
     replace D1 := D1.kr KR
     replace Nx1x3 := Nx1x3.kr KR
     replace Tx1x3 := Tx1x3.kr KR
     replace Vx4x1 := Vx4x1.kr KR
     replace Nx4x1 := Nx4x1.kr KR
     replace Tx4x1 := Tx4x1.kr KR
     replace P1 := P1.put2 (g := (w.heap.size + 1)) (b' := bx4x1) (A' := Ax4x1) (n' := nx4x1) (c' := cx4x1) (by omega)
     replace BB := Below.put2 (g := (w.heap.size + 1)) (b' := bx4x1) (A' := Ax4x1) (n' := nx4x1) (c' := cx4x1) BB (by omega)
     replace P2 := P2.set2 (b' := bx4x1) (A' := Ax4x1) (n' := nx4x1) (c' := cx4x1)
     clear KR
     generalize World.setCell _ ⟨w.heap.size + 1, 1, none⟩ _ = w8 at D1 Nx1x3 Tx1x3 Vx4x1 Nx4x1 Tx4x1 P1 P2 BB ⊢
     have rc0 := P2.c0
     have rc1 := P2.c1
     exact bodyPost_ret (v := .agg #[.bool bx4x1, .slice Ax4x1 nx4x1 cx4x1]) (by simp [results, Tryz.results52, go_sem, rc0, rc1]) rfl ⟨_, rfl, BB, by rw [dOf_of HY.out]; exact Vx4x1⟩
theorem cZero3 (h1 : IsQm w v1 q1 k1) (hk1 : k1 ≤ 900) : Calls Tryz.prog 14 #[v1] w (Ans w fun _ v => v = .bool (decide (q1 = 0))) := by
 have M1 := h1
 obtain ⟨b1, A1, n1, c1, B1, m1, d1, rfl, z1, y1, zz, D1, hq1⟩ := h1
 have I1 : IsM w (.agg #[.bool b1, .slice A1 n1 c1]) z1 _ := ⟨_, _, _, _, rfl, zz⟩
 obtain ⟨x1, N1, hz1⟩ := zz.row
 have HQ1 := Lib.hid hq1
 have HZ1 := Lib.hid hz1
 clear zz hq1 hz1
 have BB := (bl_alloc w (.cells #[.bool b1, .slice A1 n1 c1, .slice B1 m1 d1] 26))
 replace M1 := M1.below BB
 replace I1 := I1.below BB
 replace D1 := D1.below BB
 replace N1 := N1.below BB
 have P1 := Bq.new w b1 A1 n1 c1 B1 m1 d1
 go_enter Tryz.func14, Tryz.ntmps14
 go_upto_region 1 with (fail)
 generalize (w.alloc (.cells #[.bool b1, .slice A1 n1 c1, .slice B1 m1 d1] 26)) = w0 at M1 I1 D1 N1 P1 BB ⊢
 refine wp_seq 7 ?_
 simp only [List.take_succ_cons, List.take_zero, List.drop_succ_cons, List.drop_zero]
 refine wp_seq_list (Ext := RB) (Rel := RBu) [fun v _ _ => v = .pointer (some ⟨w.heap.size, 0, none⟩), fun v _ _ => v = .pointer (some ⟨w.heap.size, 1, none⟩), fun v _ _ => v = .slice A1 n1 c1, fun v _ w => IsTr w v (x1) k1, fun v _ _ => v = .int .i64 ((M.lims x1).length : Int), fun v _ _ => v = .bool (decide (x1 = 0)), fun v _ _ => v = .bool (decide (x1 = 0))] (n := 7) (by kernel_rfl) (by kernel_rfl) (by kernel_rfl) (by kernel_rfl) (by kernel_rfl) (by kernel_rfl) (by kernel_rfl) rb_refl rb_trans ⟨sC, ⟨sC, ⟨sC, ⟨sTr, ⟨sC, ⟨sC, ⟨sC, trivial⟩⟩⟩⟩⟩⟩⟩ ?_ ?_
 ·refine ⟨⟨⟨⟨⟨⟨⟨trivial, ?_⟩, ?_⟩, ?_⟩, ?_⟩, ?_⟩, ?_⟩, ?_⟩
  ·refine rs_plain rfl rfl fun a wr S => ?_
   have X := rbX S.ext
   exact wp_qf0 (ev_of ((S.old 1 (by kernel_rfl)).trans rfl)) (done (by kernel_rfl) rbu_refl rfl)
  ·refine rs_plain rfl rfl fun a wr S => ?_
   have X := rbX S.ext
   obtain ⟨v0, e0, h0⟩ := S.got 0 (by kernel_rfl)
   exact wp_field1 ((ev_of (e0 3 (by kernel_rfl))).trans h0) (done (by kernel_rfl) rbu_refl rfl)
  ·refine rs_plain rfl rfl fun a wr S => ?_
   have X := rbX S.ext
   obtain ⟨v1, e1, h1⟩ := S.got 1 (by kernel_rfl)
   exact wp_qM ((ev_of (e1 4 (by kernel_rfl))).trans h1) (P1.below X) (done (by kernel_rfl) rbu_refl rfl)
  ·refine rs_plain rfl rfl fun a wr S => ?_
   have X := rbX S.ext
   obtain ⟨v2, e2, h2⟩ := S.got 2 (by kernel_rfl)
   exact st_call cf_ref01_Trim (args1 ((ev_of (e2 5 (by kernel_rfl))).trans h2)) (by kernel_rfl) rb (rTrim ⟨_, _, _, rfl, N1.below X⟩ (by omega)) (fun _ _ _ h => h)
  ·refine rs_plain rfl rfl fun a wr S => ?_
   have X := rbX S.ext
   obtain ⟨v3, e3, h3⟩ := S.got 3 (by kernel_rfl)
   obtain ⟨AA, nn, cc, hvv, TT⟩ := (show IsTr wr _ (x1) k1 from h3)
   exact wp_lenR ((ev_of (e3 6 (by kernel_rfl))).trans hvv) (done (by kernel_rfl) rbu_refl (congrArg (fun n : Nat => Value.int .i64 (n : Int)) TT.rd.len.symm))
  ·refine rs_plain rfl rfl fun a wr S => ?_
   have X := rbX S.ext
   obtain ⟨v4, e4, h4⟩ := S.got 4 (by kernel_rfl)
   exact wp_eqI ((ev_of (e4 7 (by kernel_rfl))).trans h4) rfl (Or.inl rfl) (done (by kernel_rfl) rbu_refl (congrArg Value.bool (len_zero _)))
  ·refine rs_plain rfl rfl fun a wr S => ?_
   have X := rbX S.ext
   obtain ⟨v5, e5, h5⟩ := S.got 5 (by kernel_rfl)
   exact wp_as ((ev_of (e5 8 (by kernel_rfl))).trans h5) (done (by kernel_rfl) rbu_refl rfl)
 ·intro fw1 w1 hR hv hap
  clear hap
  replace hR := rbX hR
  have f0 : fw1 0 = .pointer (some ⟨w.heap.size, 0, none⟩) := (hvc (hv 0 (by omega))).elim fun _ h => h
  have f1 : fw1 1 = .pointer (some ⟨w.heap.size, 1, none⟩) := (hvc (hv 1 (by omega))).elim fun _ h => h
  have f2 : fw1 2 = .slice A1 n1 c1 := (hvc (hv 2 (by omega))).elim fun _ h => h
  have f4 : fw1 4 = .int .i64 ((M.lims x1).length : Int) := (hvc (hv 4 (by omega))).elim fun _ h => h
  have f5 : fw1 5 = .bool (decide (x1 = 0)) := (hvc (hv 5 (by omega))).elim fun _ h => h
  have f6 : fw1 6 = .bool (decide (x1 = 0)) := (hvc (hv 6 (by omega))).elim fun _ h => h
  simp only [putFn, Act.put, List.setIfInBounds_toArray, List.set_cons_zero, List.set_cons_succ, f0, f1, f2, f4, f5, f6]
  replace M1 := M1.below hR
  replace I1 := I1.below hR
  replace D1 := D1.below hR
  replace N1 := N1.below hR
  replace P1 := P1.below hR
  replace BB := bl_trans BB hR
  clear hR hv
  go_wp2_with fail
  go_ret
  exact ⟨_, rfl, BB, congrArg Value.bool (x_zero HQ1.out HZ1.out)⟩
theorem cMade3 (h1 : IsQm w v1 q1 k1) (hk1 : k1 ≤ 900) (g1 : 1 ≤ k1) : Calls Tryz.prog 16 #[v1] w (Ans w fun w' v => IsQt w' v (q1) k1) := by
 have M1 := h1
 obtain ⟨b1, A1, n1, c1, B1, m1, d1, rfl, z1, y1, zz, D1, hq1⟩ := h1
 have I1 : IsM w (.agg #[.bool b1, .slice A1 n1 c1]) z1 _ := ⟨_, _, _, _, rfl, zz⟩
 obtain ⟨x1, N1, hz1⟩ := zz.row
 have HQ1 := Lib.hid hq1
 have HZ1 := Lib.hid hz1
 clear zz hq1 hz1
 have BB := (bl_trans (bl_alloc w (.cells #[.bool b1, .slice A1 n1 c1, .slice B1 m1 d1] 26)) (bl_alloc _ (.cells #[.bool false, .slice none 0 0, .slice none 0 0] 26)))
 replace M1 := M1.below BB
 replace I1 := I1.below BB
 replace D1 := D1.below BB
 replace N1 := N1.below BB
 have P1 := (Bq.new w b1 A1 n1 c1 B1 m1 d1).alloc (.cells #[.bool false, .slice none 0 0, .slice none 0 0] 26)
 have P2 := Bq.new (w.alloc (.cells #[.bool b1, .slice A1 n1 c1, .slice B1 m1 d1] 26)) false none 0 0 none 0 0
 simp only [hs_alloc] at P2
 go_enter Tryz.func16, Tryz.ntmps16
 go_upto_region 1 with (fail)
 generalize ((w.alloc (.cells #[.bool b1, .slice A1 n1 c1, .slice B1 m1 d1] 26)).alloc (.cells #[.bool false, .slice none 0 0, .slice none 0 0] 26)) = w0 at M1 I1 D1 N1 P1 P2 BB ⊢
 refine wp_cut (by kernel_rfl) 5 ?_
 simp only [List.take_succ_cons, List.take_zero, List.drop_succ_cons, List.drop_zero]
 refine wp_cut_list (Ext := RB) (Rel := RBu) [fun v _ _ => v = .pointer (some ⟨w.heap.size, 0, none⟩), fun v _ _ => v = .agg #[.bool b1, .slice A1 n1 c1], fun v _ _ => v = .agg #[.bool b1, .slice A1 n1 c1, .slice B1 m1 d1], fun v _ w => IsT w v (((dOf y1 : Nat) : Int)) k1, fun v _ w => IsQt w v (q1) (max k1 k1)] (n := 5) (by kernel_rfl) (by kernel_rfl) (by kernel_rfl) (by kernel_rfl) (by kernel_rfl) (by kernel_rfl) (by kernel_rfl) (by kernel_rfl) (by kernel_rfl) rb_refl rb_trans ⟨sC, ⟨sC, ⟨sC, ⟨sT, ⟨sQt, trivial⟩⟩⟩⟩⟩ ?_ ?_
 ·refine ⟨⟨⟨⟨⟨trivial, ?_⟩, ?_⟩, ?_⟩, ?_⟩, ?_⟩
  ·refine rs_plain rfl rfl fun a wr S => ?_
   have X := undrew S.ext
   exact wp_qf0 (ev_of ((S.old 1 (by kernel_rfl)).trans rfl)) (done (by kernel_rfl) rbu_refl rfl)
  ·refine rs_plain rfl rfl fun a wr S => ?_
   have X := undrew S.ext
   obtain ⟨v0, e0, h0⟩ := S.got 0 (by kernel_rfl)
   exact wp_qN ((ev_of (e0 3 (by kernel_rfl))).trans h0) (P1.below X) (done (by kernel_rfl) rbu_refl rfl)
  ·refine rs_plain rfl rfl fun a wr S => ?_
   have X := undrew S.ext
   exact wp_qload (ev_of ((S.old 1 (by kernel_rfl)).trans rfl)) (P1.below X) (done (by kernel_rfl) rbu_refl rfl)
  ·refine rs_plain rfl rfl fun a wr S => ?_
   have X := undrew S.ext
   obtain ⟨v2, e2, h2⟩ := S.got 2 (by kernel_rfl)
   exact st_call cf_ref03_down (args1 ((ev_of (e2 5 (by kernel_rfl))).trans h2)) (by kernel_rfl) rb ((cDown3 (D1.below X) (by omega) (by omega)).mono ansT) (fun _ _ _ h => h)
  ·refine rs_plain rfl rfl fun a wr S => ?_
   have X := undrew S.ext
   obtain ⟨v1, e1, h1⟩ := S.got 1 (by kernel_rfl)
   obtain ⟨v3, e3, h3⟩ := S.got 3 (by kernel_rfl)
   exact st_call cf_ref03_Of (args2 ((ev_of (e1 4 (by kernel_rfl))).trans h1) (ev_of (e3 6 (by kernel_rfl)))) (by kernel_rfl) rb ((cOf3R (show IsM _ _ _ _ from (I1.below X)) (show IsM _ _ _ _ from h3.m) (by omega) (by omega) (dOf_int _)).mono (ansQe (made_q HQ1.out))) (fun _ _ _ h => h)
 ·intro fw1 w1 hR hv hap
  clear hap
  replace hR := undrew hR
  have f0 : fw1 0 = .pointer (some ⟨w.heap.size, 0, none⟩) := (hvc (hv 0 (by omega))).elim fun _ h => h
  have f1 : fw1 1 = .agg #[.bool b1, .slice A1 n1 c1] := (hvc (hv 1 (by omega))).elim fun _ h => h
  have f2 : fw1 2 = .agg #[.bool b1, .slice A1 n1 c1, .slice B1 m1 d1] := (hvc (hv 2 (by omega))).elim fun _ h => h
  obtain ⟨bx1x4, Ax1x4, nx1x4, cx1x4, Bx1x4, mx1x4, dx1x4, f4, Tx1x4⟩ := (show IsQt w1 _ (q1) (max k1 k1) from (hvc (hv 4 (by omega))).elim fun _ h => h).opened
  simp only [putFn, Act.put, List.setIfInBounds_toArray, List.set_cons_zero, List.set_cons_succ, f0, f1, f2, f4]
  replace M1 := M1.below hR
  replace I1 := I1.below hR
  replace D1 := D1.below hR
  replace N1 := N1.below hR
  replace P1 := P1.below hR
  replace P2 := P2.below hR
  replace BB := bl_trans BB hR
  clear hR hv
  have r20 := P2.c0
  have t20 := P2.f 0
  have r21 := P2.c1
  have t21 := P2.f 1
  have r22 := P2.c2
  have t22 := P2.f 2
  go_wp2_with fail
  clear r20 t20 r21 t21 r22 t22
  have KR := kr_put3 (b' := bx1x4) (A' := Ax1x4) (n' := nx1x4) (c' := cx1x4) (B' := Bx1x4) (m' := mx1x4) (d' := dx1x4) P2
  replace M1 := M1.kr KR
  replace I1 := I1.kr KR
  replace D1 := D1.kr KR
  replace N1 := N1.kr KR
  replace Tx1x4 := Tx1x4.kr KR
  replace P1 := P1.put3 (g := (w.heap.size + 1)) (t' := true) (b' := bx1x4) (A' := Ax1x4) (n' := nx1x4) (c' := cx1x4) (B' := Bx1x4) (m' := mx1x4) (d' := dx1x4) (by omega)
  replace BB := Below.put3 (g := (w.heap.size + 1)) (b' := bx1x4) (A' := Ax1x4) (n' := nx1x4) (c' := cx1x4) (B' := Bx1x4) (m' := mx1x4) (d' := dx1x4) BB (by omega)
  replace P2 := P2.set3 (b' := bx1x4) (A' := Ax1x4) (n' := nx1x4) (c' := cx1x4) (B' := Bx1x4) (m' := mx1x4) (d' := dx1x4)
  clear KR
  generalize World.setCell _ ⟨w.heap.size + 1, 2, none⟩ _ = w2 at M1 I1 D1 N1 Tx1x4 P1 P2 BB ⊢
  have rc0 := P2.c0
  have rc1 := P2.c1
  have rc2 := P2.c2
  exact bodyPost_ret (v := .agg #[.bool bx1x4, .slice Ax1x4 nx1x4 cx1x4, .slice Bx1x4 mx1x4 dx1x4]) (by simp [results, Tryz.results16, go_sem, rc0, rc1, rc2]) rfl ⟨_, rfl, BB, Tx1x4.mono (by omega)⟩
theorem cNeg3 (h1 : IsQm w v1 q1 k1) (hk1 : k1 ≤ 900) (g1 : 1 ≤ k1) : Calls Tryz.prog 21 #[v1] w (Ans w fun w' v => IsQt w' v (-q1) k1) := by
 have M1 := h1
 obtain ⟨b1, A1, n1, c1, B1, m1, d1, rfl, z1, y1, zz, D1, hq1⟩ := h1
 have I1 : IsM w (.agg #[.bool b1, .slice A1 n1 c1]) z1 _ := ⟨_, _, _, _, rfl, zz⟩
 obtain ⟨x1, N1, hz1⟩ := zz.row
 have HQ1 := Lib.hid hq1
 have HZ1 := Lib.hid hz1
 clear zz hq1 hz1
 have BB := (bl_trans (bl_alloc w (.cells #[.bool b1, .slice A1 n1 c1, .slice B1 m1 d1] 26)) (bl_alloc _ (.cells #[.bool false, .slice none 0 0, .slice none 0 0] 26)))
 replace M1 := M1.below BB
 replace I1 := I1.below BB
 replace D1 := D1.below BB
 replace N1 := N1.below BB
 have P1 := (Bq.new w b1 A1 n1 c1 B1 m1 d1).alloc (.cells #[.bool false, .slice none 0 0, .slice none 0 0] 26)
 have P2 := Bq.new (w.alloc (.cells #[.bool b1, .slice A1 n1 c1, .slice B1 m1 d1] 26)) false none 0 0 none 0 0
 simp only [hs_alloc] at P2
 go_enter Tryz.func21, Tryz.ntmps21
 go_upto_region 1 with (fail)
 generalize ((w.alloc (.cells #[.bool b1, .slice A1 n1 c1, .slice B1 m1 d1] 26)).alloc (.cells #[.bool false, .slice none 0 0, .slice none 0 0] 26)) = w0 at M1 I1 D1 N1 P1 P2 BB ⊢
 refine wp_cut (by kernel_rfl) 6 ?_
 simp only [List.take_succ_cons, List.take_zero, List.drop_succ_cons, List.drop_zero]
 refine wp_cut_list (Ext := RB) (Rel := RBu) [fun v _ _ => v = .pointer (some ⟨w.heap.size, 0, none⟩), fun v _ _ => v = .agg #[.bool b1, .slice A1 n1 c1], fun v _ w => IsT w v (-z1) k1, fun v _ _ => v = .agg #[.bool b1, .slice A1 n1 c1, .slice B1 m1 d1], fun v _ w => IsT w v (((dOf y1 : Nat) : Int)) k1, fun v _ w => IsQt w v (-q1) (max k1 k1)] (n := 6) (by kernel_rfl) (by kernel_rfl) (by kernel_rfl) (by kernel_rfl) (by kernel_rfl) (by kernel_rfl) (by kernel_rfl) (by kernel_rfl) (by kernel_rfl) rb_refl rb_trans ⟨sC, ⟨sC, ⟨sT, ⟨sC, ⟨sT, ⟨sQt, trivial⟩⟩⟩⟩⟩⟩ ?_ ?_
 ·refine ⟨⟨⟨⟨⟨⟨trivial, ?_⟩, ?_⟩, ?_⟩, ?_⟩, ?_⟩, ?_⟩
  ·refine rs_plain rfl rfl fun a wr S => ?_
   have X := undrew S.ext
   exact wp_qf0 (ev_of ((S.old 1 (by kernel_rfl)).trans rfl)) (done (by kernel_rfl) rbu_refl rfl)
  ·refine rs_plain rfl rfl fun a wr S => ?_
   have X := undrew S.ext
   obtain ⟨v0, e0, h0⟩ := S.got 0 (by kernel_rfl)
   exact wp_qN ((ev_of (e0 3 (by kernel_rfl))).trans h0) (P1.below X) (done (by kernel_rfl) rbu_refl rfl)
  ·refine rs_plain rfl rfl fun a wr S => ?_
   have X := undrew S.ext
   obtain ⟨v1, e1, h1⟩ := S.got 1 (by kernel_rfl)
   exact st_call cf_ref03_less (args1 ((ev_of (e1 4 (by kernel_rfl))).trans h1)) (by kernel_rfl) rb (cLess3 (show IsM _ _ _ _ from (I1.below X)) (by omega)) (fun _ _ _ h => h)
  ·refine rs_plain rfl rfl fun a wr S => ?_
   have X := undrew S.ext
   exact wp_qload (ev_of ((S.old 1 (by kernel_rfl)).trans rfl)) (P1.below X) (done (by kernel_rfl) rbu_refl rfl)
  ·refine rs_plain rfl rfl fun a wr S => ?_
   have X := undrew S.ext
   obtain ⟨v3, e3, h3⟩ := S.got 3 (by kernel_rfl)
   exact st_call cf_ref03_down (args1 ((ev_of (e3 6 (by kernel_rfl))).trans h3)) (by kernel_rfl) rb ((cDown3 (D1.below X) (by omega) (by omega)).mono ansT) (fun _ _ _ h => h)
  ·refine rs_plain rfl rfl fun a wr S => ?_
   have X := undrew S.ext
   obtain ⟨v2, e2, h2⟩ := S.got 2 (by kernel_rfl)
   obtain ⟨v4, e4, h4⟩ := S.got 4 (by kernel_rfl)
   exact st_call cf_ref03_Of (args2 (ev_of (e2 5 (by kernel_rfl))) (ev_of (e4 7 (by kernel_rfl)))) (by kernel_rfl) rb ((cOf3R (show IsM _ _ _ _ from h2.m) (show IsM _ _ _ _ from h4.m) (by omega) (by omega) (dOf_int _)).mono (ansQe (neg_q HQ1.out))) (fun _ _ _ h => h)
 ·intro fw1 w1 hR hv hap
  clear hap
  replace hR := undrew hR
  have f0 : fw1 0 = .pointer (some ⟨w.heap.size, 0, none⟩) := (hvc (hv 0 (by omega))).elim fun _ h => h
  have f1 : fw1 1 = .agg #[.bool b1, .slice A1 n1 c1] := (hvc (hv 1 (by omega))).elim fun _ h => h
  have f3 : fw1 3 = .agg #[.bool b1, .slice A1 n1 c1, .slice B1 m1 d1] := (hvc (hv 3 (by omega))).elim fun _ h => h
  obtain ⟨bx1x5, Ax1x5, nx1x5, cx1x5, Bx1x5, mx1x5, dx1x5, f5, Tx1x5⟩ := (show IsQt w1 _ (-q1) (max k1 k1) from (hvc (hv 5 (by omega))).elim fun _ h => h).opened
  simp only [putFn, Act.put, List.setIfInBounds_toArray, List.set_cons_zero, List.set_cons_succ, f0, f1, f3, f5]
  replace M1 := M1.below hR
  replace I1 := I1.below hR
  replace D1 := D1.below hR
  replace N1 := N1.below hR
  replace P1 := P1.below hR
  replace P2 := P2.below hR
  replace BB := bl_trans BB hR
  clear hR hv
  have r20 := P2.c0
  have t20 := P2.f 0
  have r21 := P2.c1
  have t21 := P2.f 1
  have r22 := P2.c2
  have t22 := P2.f 2
  go_wp2_with fail
  clear r20 t20 r21 t21 r22 t22
  have KR := kr_put3 (b' := bx1x5) (A' := Ax1x5) (n' := nx1x5) (c' := cx1x5) (B' := Bx1x5) (m' := mx1x5) (d' := dx1x5) P2
  replace M1 := M1.kr KR
  replace I1 := I1.kr KR
  replace D1 := D1.kr KR
  replace N1 := N1.kr KR
  replace Tx1x5 := Tx1x5.kr KR
  replace P1 := P1.put3 (g := (w.heap.size + 1)) (t' := true) (b' := bx1x5) (A' := Ax1x5) (n' := nx1x5) (c' := cx1x5) (B' := Bx1x5) (m' := mx1x5) (d' := dx1x5) (by omega)
  replace BB := Below.put3 (g := (w.heap.size + 1)) (b' := bx1x5) (A' := Ax1x5) (n' := nx1x5) (c' := cx1x5) (B' := Bx1x5) (m' := mx1x5) (d' := dx1x5) BB (by omega)
  replace P2 := P2.set3 (b' := bx1x5) (A' := Ax1x5) (n' := nx1x5) (c' := cx1x5) (B' := Bx1x5) (m' := mx1x5) (d' := dx1x5)
  clear KR
  generalize World.setCell _ ⟨w.heap.size + 1, 2, none⟩ _ = w2 at M1 I1 D1 N1 Tx1x5 P1 P2 BB ⊢
  have rc0 := P2.c0
  have rc1 := P2.c1
  have rc2 := P2.c2
  exact bodyPost_ret (v := .agg #[.bool bx1x5, .slice Ax1x5 nx1x5 cx1x5, .slice Bx1x5 mx1x5 dx1x5]) (by simp [results, Tryz.results21, go_sem, rc0, rc1, rc2]) rfl ⟨_, rfl, BB, Tx1x5.mono (by omega)⟩
theorem cAdd3 (h2 : IsQm w v2 q2 k2) (h3 : IsQm w v3 q3 k3) (hk2 : k2 ≤ 200) (hk3 : k3 ≤ 200) (g2 : 1 ≤ k2) (g3 : 1 ≤ k3) : Calls Tryz.prog 23 #[v2, v3] w (Ans w fun w' v => IsQt w' v (q2 + q3) (k2 + k3 + 1)) := by
 have M2 := h2
 obtain ⟨b2, A2, n2, c2, B2, m2, d2, rfl, z2, y2, zz, D2, hq2⟩ := h2
 have I2 : IsM w (.agg #[.bool b2, .slice A2 n2 c2]) z2 _ := ⟨_, _, _, _, rfl, zz⟩
 obtain ⟨x2, N2, hz2⟩ := zz.row
 have HQ2 := Lib.hid hq2
 have HZ2 := Lib.hid hz2
 clear zz hq2 hz2
 have M3 := h3
 obtain ⟨b3, A3, n3, c3, B3, m3, d3, rfl, z3, y3, zz, D3, hq3⟩ := h3
 have I3 : IsM w (.agg #[.bool b3, .slice A3 n3 c3]) z3 _ := ⟨_, _, _, _, rfl, zz⟩
 obtain ⟨x3, N3, hz3⟩ := zz.row
 have HQ3 := Lib.hid hq3
 have HZ3 := Lib.hid hz3
 clear zz hq3 hz3
 have BB := (bl_trans (bl_trans (bl_alloc w (.cells #[.bool b2, .slice A2 n2 c2, .slice B2 m2 d2] 26)) (bl_alloc _ (.cells #[.bool b3, .slice A3 n3 c3, .slice B3 m3 d3] 26))) (bl_alloc _ (.cells #[.bool false, .slice none 0 0, .slice none 0 0] 26)))
 replace M2 := M2.below BB
 replace I2 := I2.below BB
 replace D2 := D2.below BB
 replace N2 := N2.below BB
 replace M3 := M3.below BB
 replace I3 := I3.below BB
 replace D3 := D3.below BB
 replace N3 := N3.below BB
 have P2 := ((Bq.new w b2 A2 n2 c2 B2 m2 d2).alloc (.cells #[.bool b3, .slice A3 n3 c3, .slice B3 m3 d3] 26)).alloc (.cells #[.bool false, .slice none 0 0, .slice none 0 0] 26)
 have P3 := (Bq.new (w.alloc (.cells #[.bool b2, .slice A2 n2 c2, .slice B2 m2 d2] 26)) b3 A3 n3 c3 B3 m3 d3).alloc (.cells #[.bool false, .slice none 0 0, .slice none 0 0] 26)
 simp only [hs_alloc] at P3
 have P4 := Bq.new ((w.alloc (.cells #[.bool b2, .slice A2 n2 c2, .slice B2 m2 d2] 26)).alloc (.cells #[.bool b3, .slice A3 n3 c3, .slice B3 m3 d3] 26)) false none 0 0 none 0 0
 simp only [hs_alloc] at P4
 go_enter Tryz.func23, Tryz.ntmps23
 go_upto_region 1 with (fail)
 generalize (((w.alloc (.cells #[.bool b2, .slice A2 n2 c2, .slice B2 m2 d2] 26)).alloc (.cells #[.bool b3, .slice A3 n3 c3, .slice B3 m3 d3] 26)).alloc (.cells #[.bool false, .slice none 0 0, .slice none 0 0] 26)) = w0 at M2 I2 D2 N2 M3 I3 D3 N3 P2 P3 P4 BB ⊢
 refine wp_cut (by kernel_rfl) 17 ?_
 simp only [List.take_succ_cons, List.take_zero, List.drop_succ_cons, List.drop_zero]
 refine wp_cut_list (Ext := RB) (Rel := RBu) [fun v _ _ => v = .pointer (some ⟨w.heap.size, 0, none⟩), fun v _ _ => v = .agg #[.bool b2, .slice A2 n2 c2], fun v _ _ => v = .agg #[.bool b3, .slice A3 n3 c3, .slice B3 m3 d3], fun v _ w => IsT w v (((dOf y3 : Nat) : Int)) k3, fun v _ w => IsT w v (z2 * (((dOf y3 : Nat) : Int))) (k2 + k3), fun v _ _ => v = .pointer (some ⟨(w.heap.size + 1), 0, none⟩), fun v _ _ => v = .agg #[.bool b3, .slice A3 n3 c3], fun v _ _ => v = .agg #[.bool b2, .slice A2 n2 c2, .slice B2 m2 d2], fun v _ w => IsT w v (((dOf y2 : Nat) : Int)) k2, fun v _ w => IsT w v (z3 * (((dOf y2 : Nat) : Int))) (k3 + k2), fun v _ w => IsT w v ((z2 * (((dOf y3 : Nat) : Int))) + (z3 * (((dOf y2 : Nat) : Int)))) ((max (k2 + k3) (k3 + k2)) + 1), fun v _ _ => v = .agg #[.bool b2, .slice A2 n2 c2, .slice B2 m2 d2], fun v _ w => IsT w v (((dOf y2 : Nat) : Int)) k2, fun v _ _ => v = .agg #[.bool b3, .slice A3 n3 c3, .slice B3 m3 d3], fun v _ w => IsT w v (((dOf y3 : Nat) : Int)) k3, fun v _ w => IsT w v ((((dOf y2 : Nat) : Int)) * (((dOf y3 : Nat) : Int))) (k2 + k3), fun v _ w => IsQt w v (q2 + q3) (max ((max (k2 + k3) (k3 + k2)) + 1) (k2 + k3))] (n := 17) (by kernel_rfl) (by kernel_rfl) (by kernel_rfl) (by kernel_rfl) (by kernel_rfl) (by kernel_rfl) (by kernel_rfl) (by kernel_rfl) (by kernel_rfl) rb_refl rb_trans ⟨sC, ⟨sC, ⟨sC, ⟨sT, ⟨sT, ⟨sC, ⟨sC, ⟨sC, ⟨sT, ⟨sT, ⟨sT, ⟨sC, ⟨sT, ⟨sC, ⟨sT, ⟨sT, ⟨sQt, trivial⟩⟩⟩⟩⟩⟩⟩⟩⟩⟩⟩⟩⟩⟩⟩⟩⟩ ?_ ?_
 ·refine ⟨⟨⟨⟨⟨⟨⟨⟨⟨⟨⟨⟨⟨⟨⟨⟨⟨trivial, ?_⟩, ?_⟩, ?_⟩, ?_⟩, ?_⟩, ?_⟩, ?_⟩, ?_⟩, ?_⟩, ?_⟩, ?_⟩, ?_⟩, ?_⟩, ?_⟩, ?_⟩, ?_⟩, ?_⟩
  ·refine rs_plain rfl rfl fun a wr S => ?_
   have X := undrew S.ext
   exact wp_qf0 (ev_of ((S.old 2 (by kernel_rfl)).trans rfl)) (done (by kernel_rfl) rbu_refl rfl)
  ·refine rs_plain rfl rfl fun a wr S => ?_
   have X := undrew S.ext
   obtain ⟨v0, e0, h0⟩ := S.got 0 (by kernel_rfl)
   exact wp_qN ((ev_of (e0 5 (by kernel_rfl))).trans h0) (P2.below X) (done (by kernel_rfl) rbu_refl rfl)
  ·refine rs_plain rfl rfl fun a wr S => ?_
   have X := undrew S.ext
   exact wp_qload (ev_of ((S.old 3 (by kernel_rfl)).trans rfl)) (P3.below X) (done (by kernel_rfl) rbu_refl rfl)
  ·refine rs_plain rfl rfl fun a wr S => ?_
   have X := undrew S.ext
   obtain ⟨v2, e2, h2⟩ := S.got 2 (by kernel_rfl)
   exact st_call cf_ref03_down (args1 ((ev_of (e2 7 (by kernel_rfl))).trans h2)) (by kernel_rfl) rb ((cDown3 (D3.below X) (by omega) (by omega)).mono ansT) (fun _ _ _ h => h)
  ·refine rs_plain rfl rfl fun a wr S => ?_
   have X := undrew S.ext
   obtain ⟨v1, e1, h1⟩ := S.got 1 (by kernel_rfl)
   obtain ⟨v3, e3, h3⟩ := S.got 3 (by kernel_rfl)
   exact st_call cf_ref03_times (args2 ((ev_of (e1 6 (by kernel_rfl))).trans h1) (ev_of (e3 8 (by kernel_rfl)))) (by kernel_rfl) rb (cTimes3 (show IsM _ _ _ _ from (I2.below X)) (show IsM _ _ _ _ from h3.m) (by omega) (by omega)) (fun _ _ _ h => h)
  ·refine rs_plain rfl rfl fun a wr S => ?_
   have X := undrew S.ext
   exact wp_qf0 (ev_of ((S.old 3 (by kernel_rfl)).trans rfl)) (done (by kernel_rfl) rbu_refl rfl)
  ·refine rs_plain rfl rfl fun a wr S => ?_
   have X := undrew S.ext
   obtain ⟨v5, e5, h5⟩ := S.got 5 (by kernel_rfl)
   exact wp_qN ((ev_of (e5 10 (by kernel_rfl))).trans h5) (P3.below X) (done (by kernel_rfl) rbu_refl rfl)
  ·refine rs_plain rfl rfl fun a wr S => ?_
   have X := undrew S.ext
   exact wp_qload (ev_of ((S.old 2 (by kernel_rfl)).trans rfl)) (P2.below X) (done (by kernel_rfl) rbu_refl rfl)
  ·refine rs_plain rfl rfl fun a wr S => ?_
   have X := undrew S.ext
   obtain ⟨v7, e7, h7⟩ := S.got 7 (by kernel_rfl)
   exact st_call cf_ref03_down (args1 ((ev_of (e7 12 (by kernel_rfl))).trans h7)) (by kernel_rfl) rb ((cDown3 (D2.below X) (by omega) (by omega)).mono ansT) (fun _ _ _ h => h)
  ·refine rs_plain rfl rfl fun a wr S => ?_
   have X := undrew S.ext
   obtain ⟨v6, e6, h6⟩ := S.got 6 (by kernel_rfl)
   obtain ⟨v8, e8, h8⟩ := S.got 8 (by kernel_rfl)
   exact st_call cf_ref03_times (args2 ((ev_of (e6 11 (by kernel_rfl))).trans h6) (ev_of (e8 13 (by kernel_rfl)))) (by kernel_rfl) rb (cTimes3 (show IsM _ _ _ _ from (I3.below X)) (show IsM _ _ _ _ from h8.m) (by omega) (by omega)) (fun _ _ _ h => h)
  ·refine rs_plain rfl rfl fun a wr S => ?_
   have X := undrew S.ext
   obtain ⟨v4, e4, h4⟩ := S.got 4 (by kernel_rfl)
   obtain ⟨v9, e9, h9⟩ := S.got 9 (by kernel_rfl)
   exact st_call cf_ref03_plus (args2 (ev_of (e4 9 (by kernel_rfl))) (ev_of (e9 14 (by kernel_rfl)))) (by kernel_rfl) rb (cPlus3 (show IsM _ _ _ _ from h4.m) (show IsM _ _ _ _ from h9.m) (by omega) (by omega)) (fun _ _ _ h => h)
  ·refine rs_plain rfl rfl fun a wr S => ?_
   have X := undrew S.ext
   exact wp_qload (ev_of ((S.old 2 (by kernel_rfl)).trans rfl)) (P2.below X) (done (by kernel_rfl) rbu_refl rfl)
  ·refine rs_plain rfl rfl fun a wr S => ?_
   have X := undrew S.ext
   obtain ⟨v11, e11, h11⟩ := S.got 11 (by kernel_rfl)
   exact st_call cf_ref03_down (args1 ((ev_of (e11 16 (by kernel_rfl))).trans h11)) (by kernel_rfl) rb ((cDown3 (D2.below X) (by omega) (by omega)).mono ansT) (fun _ _ _ h => h)
  ·refine rs_plain rfl rfl fun a wr S => ?_
   have X := undrew S.ext
   exact wp_qload (ev_of ((S.old 3 (by kernel_rfl)).trans rfl)) (P3.below X) (done (by kernel_rfl) rbu_refl rfl)
  ·refine rs_plain rfl rfl fun a wr S => ?_
   have X := undrew S.ext
   obtain ⟨v13, e13, h13⟩ := S.got 13 (by kernel_rfl)
   exact st_call cf_ref03_down (args1 ((ev_of (e13 18 (by kernel_rfl))).trans h13)) (by kernel_rfl) rb ((cDown3 (D3.below X) (by omega) (by omega)).mono ansT) (fun _ _ _ h => h)
  ·refine rs_plain rfl rfl fun a wr S => ?_
   have X := undrew S.ext
   obtain ⟨v12, e12, h12⟩ := S.got 12 (by kernel_rfl)
   obtain ⟨v14, e14, h14⟩ := S.got 14 (by kernel_rfl)
   exact st_call cf_ref03_times (args2 (ev_of (e12 17 (by kernel_rfl))) (ev_of (e14 19 (by kernel_rfl)))) (by kernel_rfl) rb (cTimes3 (show IsM _ _ _ _ from h12.m) (show IsM _ _ _ _ from h14.m) (by omega) (by omega)) (fun _ _ _ h => h)
  ·refine rs_plain rfl rfl fun a wr S => ?_
   have X := undrew S.ext
   obtain ⟨v10, e10, h10⟩ := S.got 10 (by kernel_rfl)
   obtain ⟨v15, e15, h15⟩ := S.got 15 (by kernel_rfl)
   exact st_call cf_ref03_Of (args2 (ev_of (e10 15 (by kernel_rfl))) (ev_of (e15 20 (by kernel_rfl)))) (by kernel_rfl) rb ((cOf3R (show IsM _ _ _ _ from h10.m) (show IsM _ _ _ _ from h15.m) (by omega) (by omega) (Int.mul_ne_zero (dOf_int _) (dOf_int _))).mono (ansQe (add_q HQ2.out HQ3.out))) (fun _ _ _ h => h)
 ·intro fw1 w1 hR hv hap
  clear hap
  replace hR := undrew hR
  have f0 : fw1 0 = .pointer (some ⟨w.heap.size, 0, none⟩) := (hvc (hv 0 (by omega))).elim fun _ h => h
  have f1 : fw1 1 = .agg #[.bool b2, .slice A2 n2 c2] := (hvc (hv 1 (by omega))).elim fun _ h => h
  have f2 : fw1 2 = .agg #[.bool b3, .slice A3 n3 c3, .slice B3 m3 d3] := (hvc (hv 2 (by omega))).elim fun _ h => h
  have f5 : fw1 5 = .pointer (some ⟨(w.heap.size + 1), 0, none⟩) := (hvc (hv 5 (by omega))).elim fun _ h => h
  have f6 : fw1 6 = .agg #[.bool b3, .slice A3 n3 c3] := (hvc (hv 6 (by omega))).elim fun _ h => h
  have f7 : fw1 7 = .agg #[.bool b2, .slice A2 n2 c2, .slice B2 m2 d2] := (hvc (hv 7 (by omega))).elim fun _ h => h
  have f11 : fw1 11 = .agg #[.bool b2, .slice A2 n2 c2, .slice B2 m2 d2] := (hvc (hv 11 (by omega))).elim fun _ h => h
  have f13 : fw1 13 = .agg #[.bool b3, .slice A3 n3 c3, .slice B3 m3 d3] := (hvc (hv 13 (by omega))).elim fun _ h => h
  obtain ⟨bx1x16, Ax1x16, nx1x16, cx1x16, Bx1x16, mx1x16, dx1x16, f16, Tx1x16⟩ := (show IsQt w1 _ (q2 + q3) (max ((max (k2 + k3) (k3 + k2)) + 1) (k2 + k3)) from (hvc (hv 16 (by omega))).elim fun _ h => h).opened
  simp only [putFn, Act.put, List.setIfInBounds_toArray, List.set_cons_zero, List.set_cons_succ, f0, f1, f2, f5, f6, f7, f11, f13, f16]
  replace M2 := M2.below hR
  replace I2 := I2.below hR
  replace D2 := D2.below hR
  replace N2 := N2.below hR
  replace M3 := M3.below hR
  replace I3 := I3.below hR
  replace D3 := D3.below hR
  replace N3 := N3.below hR
  replace P2 := P2.below hR
  replace P3 := P3.below hR
  replace P4 := P4.below hR
  replace BB := bl_trans BB hR
  clear hR hv
  have r40 := P4.c0
  have t40 := P4.f 0
  have r41 := P4.c1
  have t41 := P4.f 1
  have r42 := P4.c2
  have t42 := P4.f 2
  go_wp2_with fail
  clear r40 t40 r41 t41 r42 t42
  have KR := kr_put3 (b' := bx1x16) (A' := Ax1x16) (n' := nx1x16) (c' := cx1x16) (B' := Bx1x16) (m' := mx1x16) (d' := dx1x16) P4
  replace M2 := M2.kr KR
  replace I2 := I2.kr KR
  replace D2 := D2.kr KR
  replace N2 := N2.kr KR
  replace M3 := M3.kr KR
  replace I3 := I3.kr KR
  replace D3 := D3.kr KR
  replace N3 := N3.kr KR
  replace Tx1x16 := Tx1x16.kr KR
  replace P2 := P2.put3 (g := (w.heap.size + 1 + 1)) (t' := true) (b' := bx1x16) (A' := Ax1x16) (n' := nx1x16) (c' := cx1x16) (B' := Bx1x16) (m' := mx1x16) (d' := dx1x16) (by omega)
  replace P3 := P3.put3 (g := (w.heap.size + 1 + 1)) (t' := true) (b' := bx1x16) (A' := Ax1x16) (n' := nx1x16) (c' := cx1x16) (B' := Bx1x16) (m' := mx1x16) (d' := dx1x16) (by omega)
  replace BB := Below.put3 (g := (w.heap.size + 1 + 1)) (b' := bx1x16) (A' := Ax1x16) (n' := nx1x16) (c' := cx1x16) (B' := Bx1x16) (m' := mx1x16) (d' := dx1x16) BB (by omega)
  replace P4 := P4.set3 (b' := bx1x16) (A' := Ax1x16) (n' := nx1x16) (c' := cx1x16) (B' := Bx1x16) (m' := mx1x16) (d' := dx1x16)
  clear KR
  generalize World.setCell _ ⟨w.heap.size + 1 + 1, 2, none⟩ _ = w2 at M2 I2 D2 N2 M3 I3 D3 N3 Tx1x16 P2 P3 P4 BB ⊢
  have rc0 := P4.c0
  have rc1 := P4.c1
  have rc2 := P4.c2
  exact bodyPost_ret (v := .agg #[.bool bx1x16, .slice Ax1x16 nx1x16 cx1x16, .slice Bx1x16 mx1x16 dx1x16]) (by simp [results, Tryz.results23, go_sem, rc0, rc1, rc2]) rfl ⟨_, rfl, BB, Tx1x16.mono (by omega)⟩
theorem cSub3 (h2 : IsQm w v2 q2 k2) (h3 : IsQm w v3 q3 k3) (hk2 : k2 ≤ 200) (hk3 : k3 ≤ 200) (g2 : 1 ≤ k2) (g3 : 1 ≤ k3) : Calls Tryz.prog 25 #[v2, v3] w (Ans w fun w' v => IsQt w' v (q2 - q3) (k2 + k3 + 1)) := by
 have M2 := h2
 obtain ⟨b2, A2, n2, c2, B2, m2, d2, rfl, z2, y2, zz, D2, hq2⟩ := h2
 have I2 : IsM w (.agg #[.bool b2, .slice A2 n2 c2]) z2 _ := ⟨_, _, _, _, rfl, zz⟩
 obtain ⟨x2, N2, hz2⟩ := zz.row
 have HQ2 := Lib.hid hq2
 have HZ2 := Lib.hid hz2
 clear zz hq2 hz2
 have M3 := h3
 obtain ⟨b3, A3, n3, c3, B3, m3, d3, rfl, z3, y3, zz, D3, hq3⟩ := h3
 have I3 : IsM w (.agg #[.bool b3, .slice A3 n3 c3]) z3 _ := ⟨_, _, _, _, rfl, zz⟩
 obtain ⟨x3, N3, hz3⟩ := zz.row
 have HQ3 := Lib.hid hq3
 have HZ3 := Lib.hid hz3
 clear zz hq3 hz3
 have BB := (bl_trans (bl_trans (bl_alloc w (.cells #[.bool b2, .slice A2 n2 c2, .slice B2 m2 d2] 26)) (bl_alloc _ (.cells #[.bool b3, .slice A3 n3 c3, .slice B3 m3 d3] 26))) (bl_alloc _ (.cells #[.bool false, .slice none 0 0, .slice none 0 0] 26)))
 replace M2 := M2.below BB
 replace I2 := I2.below BB
 replace D2 := D2.below BB
 replace N2 := N2.below BB
 replace M3 := M3.below BB
 replace I3 := I3.below BB
 replace D3 := D3.below BB
 replace N3 := N3.below BB
 have P2 := ((Bq.new w b2 A2 n2 c2 B2 m2 d2).alloc (.cells #[.bool b3, .slice A3 n3 c3, .slice B3 m3 d3] 26)).alloc (.cells #[.bool false, .slice none 0 0, .slice none 0 0] 26)
 have P3 := (Bq.new (w.alloc (.cells #[.bool b2, .slice A2 n2 c2, .slice B2 m2 d2] 26)) b3 A3 n3 c3 B3 m3 d3).alloc (.cells #[.bool false, .slice none 0 0, .slice none 0 0] 26)
 simp only [hs_alloc] at P3
 have P4 := Bq.new ((w.alloc (.cells #[.bool b2, .slice A2 n2 c2, .slice B2 m2 d2] 26)).alloc (.cells #[.bool b3, .slice A3 n3 c3, .slice B3 m3 d3] 26)) false none 0 0 none 0 0
 simp only [hs_alloc] at P4
 go_enter Tryz.func25, Tryz.ntmps25
 go_upto_region 1 with (fail)
 generalize (((w.alloc (.cells #[.bool b2, .slice A2 n2 c2, .slice B2 m2 d2] 26)).alloc (.cells #[.bool b3, .slice A3 n3 c3, .slice B3 m3 d3] 26)).alloc (.cells #[.bool false, .slice none 0 0, .slice none 0 0] 26)) = w0 at M2 I2 D2 N2 M3 I3 D3 N3 P2 P3 P4 BB ⊢
 refine wp_cut (by kernel_rfl) 4 ?_
 simp only [List.take_succ_cons, List.take_zero, List.drop_succ_cons, List.drop_zero]
 refine wp_cut_list (Ext := RB) (Rel := RBu) [fun v _ _ => v = .agg #[.bool b2, .slice A2 n2 c2, .slice B2 m2 d2], fun v _ _ => v = .agg #[.bool b3, .slice A3 n3 c3, .slice B3 m3 d3], fun v _ w => IsQt w v (-q3) k3, fun v _ w => IsQt w v (q2 + (-q3)) ((k2 + k3) + 1)] (n := 4) (by kernel_rfl) (by kernel_rfl) (by kernel_rfl) (by kernel_rfl) (by kernel_rfl) (by kernel_rfl) (by kernel_rfl) (by kernel_rfl) (by kernel_rfl) rb_refl rb_trans ⟨sC, ⟨sC, ⟨sQt, ⟨sQt, trivial⟩⟩⟩⟩ ?_ ?_
 ·refine ⟨⟨⟨⟨trivial, ?_⟩, ?_⟩, ?_⟩, ?_⟩
  ·refine rs_plain rfl rfl fun a wr S => ?_
   have X := undrew S.ext
   exact wp_qload (ev_of ((S.old 2 (by kernel_rfl)).trans rfl)) (P2.below X) (done (by kernel_rfl) rbu_refl rfl)
  ·refine rs_plain rfl rfl fun a wr S => ?_
   have X := undrew S.ext
   exact wp_qload (ev_of ((S.old 3 (by kernel_rfl)).trans rfl)) (P3.below X) (done (by kernel_rfl) rbu_refl rfl)
  ·refine rs_plain rfl rfl fun a wr S => ?_
   have X := undrew S.ext
   obtain ⟨v1, e1, h1⟩ := S.got 1 (by kernel_rfl)
   exact st_call cf_ref03_Neg (args1 ((ev_of (e1 6 (by kernel_rfl))).trans h1)) (by kernel_rfl) rb (cNeg3 (show IsQm _ _ _ _ from (M3.below X)) (by omega) (by omega)) (fun _ _ _ h => h)
  ·refine rs_plain rfl rfl fun a wr S => ?_
   have X := undrew S.ext
   obtain ⟨v0, e0, h0⟩ := S.got 0 (by kernel_rfl)
   obtain ⟨v2, e2, h2⟩ := S.got 2 (by kernel_rfl)
   exact st_call cf_ref03_Add (args2 ((ev_of (e0 5 (by kernel_rfl))).trans h0) (ev_of (e2 7 (by kernel_rfl)))) (by kernel_rfl) rb (cAdd3 (show IsQm _ _ _ _ from (M2.below X)) (show IsQm _ _ _ _ from (show IsQt _ _ _ _ from h2).m) (by omega) (by omega) (by omega) (by omega)) (fun _ _ _ h => h)
 ·intro fw1 w1 hR hv hap
  clear hap
  replace hR := undrew hR
  have f0 : fw1 0 = .agg #[.bool b2, .slice A2 n2 c2, .slice B2 m2 d2] := (hvc (hv 0 (by omega))).elim fun _ h => h
  have f1 : fw1 1 = .agg #[.bool b3, .slice A3 n3 c3, .slice B3 m3 d3] := (hvc (hv 1 (by omega))).elim fun _ h => h
  obtain ⟨bx1x3, Ax1x3, nx1x3, cx1x3, Bx1x3, mx1x3, dx1x3, f3, Tx1x3⟩ := (show IsQt w1 _ (q2 + (-q3)) ((k2 + k3) + 1) from (hvc (hv 3 (by omega))).elim fun _ h => h).opened
  simp only [putFn, Act.put, List.setIfInBounds_toArray, List.set_cons_zero, List.set_cons_succ, f0, f1, f3]
  replace M2 := M2.below hR
  replace I2 := I2.below hR
  replace D2 := D2.below hR
  replace N2 := N2.below hR
  replace M3 := M3.below hR
  replace I3 := I3.below hR
  replace D3 := D3.below hR
  replace N3 := N3.below hR
  replace P2 := P2.below hR
  replace P3 := P3.below hR
  replace P4 := P4.below hR
  replace BB := bl_trans BB hR
  clear hR hv
  have r40 := P4.c0
  have t40 := P4.f 0
  have r41 := P4.c1
  have t41 := P4.f 1
  have r42 := P4.c2
  have t42 := P4.f 2
  go_wp2_with fail
  clear r40 t40 r41 t41 r42 t42
  have KR := kr_put3 (b' := bx1x3) (A' := Ax1x3) (n' := nx1x3) (c' := cx1x3) (B' := Bx1x3) (m' := mx1x3) (d' := dx1x3) P4
  replace M2 := M2.kr KR
  replace I2 := I2.kr KR
  replace D2 := D2.kr KR
  replace N2 := N2.kr KR
  replace M3 := M3.kr KR
  replace I3 := I3.kr KR
  replace D3 := D3.kr KR
  replace N3 := N3.kr KR
  replace Tx1x3 := Tx1x3.kr KR
  replace P2 := P2.put3 (g := (w.heap.size + 1 + 1)) (t' := true) (b' := bx1x3) (A' := Ax1x3) (n' := nx1x3) (c' := cx1x3) (B' := Bx1x3) (m' := mx1x3) (d' := dx1x3) (by omega)
  replace P3 := P3.put3 (g := (w.heap.size + 1 + 1)) (t' := true) (b' := bx1x3) (A' := Ax1x3) (n' := nx1x3) (c' := cx1x3) (B' := Bx1x3) (m' := mx1x3) (d' := dx1x3) (by omega)
  replace BB := Below.put3 (g := (w.heap.size + 1 + 1)) (b' := bx1x3) (A' := Ax1x3) (n' := nx1x3) (c' := cx1x3) (B' := Bx1x3) (m' := mx1x3) (d' := dx1x3) BB (by omega)
  replace P4 := P4.set3 (b' := bx1x3) (A' := Ax1x3) (n' := nx1x3) (c' := cx1x3) (B' := Bx1x3) (m' := mx1x3) (d' := dx1x3)
  clear KR
  generalize World.setCell _ ⟨w.heap.size + 1 + 1, 2, none⟩ _ = w2 at M2 I2 D2 N2 M3 I3 D3 N3 Tx1x3 P2 P3 P4 BB ⊢
  have rc0 := P4.c0
  have rc1 := P4.c1
  have rc2 := P4.c2
  exact bodyPost_ret (v := .agg #[.bool bx1x3, .slice Ax1x3 nx1x3 cx1x3, .slice Bx1x3 mx1x3 dx1x3]) (by simp [results, Tryz.results25, go_sem, rc0, rc1, rc2]) rfl ⟨_, rfl, BB, by rw [← Rat.sub_eq_add_neg] at Tx1x3; exact Tx1x3⟩
theorem cMul3 (h2 : IsQm w v2 q2 k2) (h3 : IsQm w v3 q3 k3) (hk2 : k2 ≤ 200) (hk3 : k3 ≤ 200) (g2 : 1 ≤ k2) (g3 : 1 ≤ k3) : Calls Tryz.prog 27 #[v2, v3] w (Ans w fun w' v => IsQt w' v (q2 * q3) (k2 + k3)) := by
 have M2 := h2
 obtain ⟨b2, A2, n2, c2, B2, m2, d2, rfl, z2, y2, zz, D2, hq2⟩ := h2
 have I2 : IsM w (.agg #[.bool b2, .slice A2 n2 c2]) z2 _ := ⟨_, _, _, _, rfl, zz⟩
 obtain ⟨x2, N2, hz2⟩ := zz.row
 have HQ2 := Lib.hid hq2
 have HZ2 := Lib.hid hz2
 clear zz hq2 hz2
 have M3 := h3
 obtain ⟨b3, A3, n3, c3, B3, m3, d3, rfl, z3, y3, zz, D3, hq3⟩ := h3
 have I3 : IsM w (.agg #[.bool b3, .slice A3 n3 c3]) z3 _ := ⟨_, _, _, _, rfl, zz⟩
 obtain ⟨x3, N3, hz3⟩ := zz.row
 have HQ3 := Lib.hid hq3
 have HZ3 := Lib.hid hz3
 clear zz hq3 hz3
 have BB := (bl_trans (bl_trans (bl_alloc w (.cells #[.bool b2, .slice A2 n2 c2, .slice B2 m2 d2] 26)) (bl_alloc _ (.cells #[.bool b3, .slice A3 n3 c3, .slice B3 m3 d3] 26))) (bl_alloc _ (.cells #[.bool false, .slice none 0 0, .slice none 0 0] 26)))
 replace M2 := M2.below BB
 replace I2 := I2.below BB
 replace D2 := D2.below BB
 replace N2 := N2.below BB
 replace M3 := M3.below BB
 replace I3 := I3.below BB
 replace D3 := D3.below BB
 replace N3 := N3.below BB
 have P2 := ((Bq.new w b2 A2 n2 c2 B2 m2 d2).alloc (.cells #[.bool b3, .slice A3 n3 c3, .slice B3 m3 d3] 26)).alloc (.cells #[.bool false, .slice none 0 0, .slice none 0 0] 26)
 have P3 := (Bq.new (w.alloc (.cells #[.bool b2, .slice A2 n2 c2, .slice B2 m2 d2] 26)) b3 A3 n3 c3 B3 m3 d3).alloc (.cells #[.bool false, .slice none 0 0, .slice none 0 0] 26)
 simp only [hs_alloc] at P3
 have P4 := Bq.new ((w.alloc (.cells #[.bool b2, .slice A2 n2 c2, .slice B2 m2 d2] 26)).alloc (.cells #[.bool b3, .slice A3 n3 c3, .slice B3 m3 d3] 26)) false none 0 0 none 0 0
 simp only [hs_alloc] at P4
 go_enter Tryz.func27, Tryz.ntmps27
 go_upto_region 1 with (fail)
 generalize (((w.alloc (.cells #[.bool b2, .slice A2 n2 c2, .slice B2 m2 d2] 26)).alloc (.cells #[.bool b3, .slice A3 n3 c3, .slice B3 m3 d3] 26)).alloc (.cells #[.bool false, .slice none 0 0, .slice none 0 0] 26)) = w0 at M2 I2 D2 N2 M3 I3 D3 N3 P2 P3 P4 BB ⊢
 refine wp_cut (by kernel_rfl) 11 ?_
 simp only [List.take_succ_cons, List.take_zero, List.drop_succ_cons, List.drop_zero]
 refine wp_cut_list (Ext := RB) (Rel := RBu) [fun v _ _ => v = .pointer (some ⟨w.heap.size, 0, none⟩), fun v _ _ => v = .agg #[.bool b2, .slice A2 n2 c2], fun v _ _ => v = .pointer (some ⟨(w.heap.size + 1), 0, none⟩), fun v _ _ => v = .agg #[.bool b3, .slice A3 n3 c3], fun v _ w => IsT w v (z2 * z3) (k2 + k3), fun v _ _ => v = .agg #[.bool b2, .slice A2 n2 c2, .slice B2 m2 d2], fun v _ w => IsT w v (((dOf y2 : Nat) : Int)) k2, fun v _ _ => v = .agg #[.bool b3, .slice A3 n3 c3, .slice B3 m3 d3], fun v _ w => IsT w v (((dOf y3 : Nat) : Int)) k3, fun v _ w => IsT w v ((((dOf y2 : Nat) : Int)) * (((dOf y3 : Nat) : Int))) (k2 + k3), fun v _ w => IsQt w v (q2 * q3) (max (k2 + k3) (k2 + k3))] (n := 11) (by kernel_rfl) (by kernel_rfl) (by kernel_rfl) (by kernel_rfl) (by kernel_rfl) (by kernel_rfl) (by kernel_rfl) (by kernel_rfl) (by kernel_rfl) rb_refl rb_trans ⟨sC, ⟨sC, ⟨sC, ⟨sC, ⟨sT, ⟨sC, ⟨sT, ⟨sC, ⟨sT, ⟨sT, ⟨sQt, trivial⟩⟩⟩⟩⟩⟩⟩⟩⟩⟩⟩ ?_ ?_
 ·refine ⟨⟨⟨⟨⟨⟨⟨⟨⟨⟨⟨trivial, ?_⟩, ?_⟩, ?_⟩, ?_⟩, ?_⟩, ?_⟩, ?_⟩, ?_⟩, ?_⟩, ?_⟩, ?_⟩
  ·refine rs_plain rfl rfl fun a wr S => ?_
   have X := undrew S.ext
   exact wp_qf0 (ev_of ((S.old 2 (by kernel_rfl)).trans rfl)) (done (by kernel_rfl) rbu_refl rfl)
  ·refine rs_plain rfl rfl fun a wr S => ?_
   have X := undrew S.ext
   obtain ⟨v0, e0, h0⟩ := S.got 0 (by kernel_rfl)
   exact wp_qN ((ev_of (e0 5 (by kernel_rfl))).trans h0) (P2.below X) (done (by kernel_rfl) rbu_refl rfl)
  ·refine rs_plain rfl rfl fun a wr S => ?_
   have X := undrew S.ext
   exact wp_qf0 (ev_of ((S.old 3 (by kernel_rfl)).trans rfl)) (done (by kernel_rfl) rbu_refl rfl)
  ·refine rs_plain rfl rfl fun a wr S => ?_
   have X := undrew S.ext
   obtain ⟨v2, e2, h2⟩ := S.got 2 (by kernel_rfl)
   exact wp_qN ((ev_of (e2 7 (by kernel_rfl))).trans h2) (P3.below X) (done (by kernel_rfl) rbu_refl rfl)
  ·refine rs_plain rfl rfl fun a wr S => ?_
   have X := undrew S.ext
   obtain ⟨v1, e1, h1⟩ := S.got 1 (by kernel_rfl)
   obtain ⟨v3, e3, h3⟩ := S.got 3 (by kernel_rfl)
   exact st_call cf_ref03_times (args2 ((ev_of (e1 6 (by kernel_rfl))).trans h1) ((ev_of (e3 8 (by kernel_rfl))).trans h3)) (by kernel_rfl) rb (cTimes3 (show IsM _ _ _ _ from (I2.below X)) (show IsM _ _ _ _ from (I3.below X)) (by omega) (by omega)) (fun _ _ _ h => h)
  ·refine rs_plain rfl rfl fun a wr S => ?_
   have X := undrew S.ext
   exact wp_qload (ev_of ((S.old 2 (by kernel_rfl)).trans rfl)) (P2.below X) (done (by kernel_rfl) rbu_refl rfl)
  ·refine rs_plain rfl rfl fun a wr S => ?_
   have X := undrew S.ext
   obtain ⟨v5, e5, h5⟩ := S.got 5 (by kernel_rfl)
   exact st_call cf_ref03_down (args1 ((ev_of (e5 10 (by kernel_rfl))).trans h5)) (by kernel_rfl) rb ((cDown3 (D2.below X) (by omega) (by omega)).mono ansT) (fun _ _ _ h => h)
  ·refine rs_plain rfl rfl fun a wr S => ?_
   have X := undrew S.ext
   exact wp_qload (ev_of ((S.old 3 (by kernel_rfl)).trans rfl)) (P3.below X) (done (by kernel_rfl) rbu_refl rfl)
  ·refine rs_plain rfl rfl fun a wr S => ?_
   have X := undrew S.ext
   obtain ⟨v7, e7, h7⟩ := S.got 7 (by kernel_rfl)
   exact st_call cf_ref03_down (args1 ((ev_of (e7 12 (by kernel_rfl))).trans h7)) (by kernel_rfl) rb ((cDown3 (D3.below X) (by omega) (by omega)).mono ansT) (fun _ _ _ h => h)
  ·refine rs_plain rfl rfl fun a wr S => ?_
   have X := undrew S.ext
   obtain ⟨v6, e6, h6⟩ := S.got 6 (by kernel_rfl)
   obtain ⟨v8, e8, h8⟩ := S.got 8 (by kernel_rfl)
   exact st_call cf_ref03_times (args2 (ev_of (e6 11 (by kernel_rfl))) (ev_of (e8 13 (by kernel_rfl)))) (by kernel_rfl) rb (cTimes3 (show IsM _ _ _ _ from h6.m) (show IsM _ _ _ _ from h8.m) (by omega) (by omega)) (fun _ _ _ h => h)
  ·refine rs_plain rfl rfl fun a wr S => ?_
   have X := undrew S.ext
   obtain ⟨v4, e4, h4⟩ := S.got 4 (by kernel_rfl)
   obtain ⟨v9, e9, h9⟩ := S.got 9 (by kernel_rfl)
   exact st_call cf_ref03_Of (args2 (ev_of (e4 9 (by kernel_rfl))) (ev_of (e9 14 (by kernel_rfl)))) (by kernel_rfl) rb ((cOf3R (show IsM _ _ _ _ from h4.m) (show IsM _ _ _ _ from h9.m) (by omega) (by omega) (Int.mul_ne_zero (dOf_int _) (dOf_int _))).mono (ansQe (mul_q HQ2.out HQ3.out))) (fun _ _ _ h => h)
 ·intro fw1 w1 hR hv hap
  clear hap
  replace hR := undrew hR
  have f0 : fw1 0 = .pointer (some ⟨w.heap.size, 0, none⟩) := (hvc (hv 0 (by omega))).elim fun _ h => h
  have f1 : fw1 1 = .agg #[.bool b2, .slice A2 n2 c2] := (hvc (hv 1 (by omega))).elim fun _ h => h
  have f2 : fw1 2 = .pointer (some ⟨(w.heap.size + 1), 0, none⟩) := (hvc (hv 2 (by omega))).elim fun _ h => h
  have f3 : fw1 3 = .agg #[.bool b3, .slice A3 n3 c3] := (hvc (hv 3 (by omega))).elim fun _ h => h
  have f5 : fw1 5 = .agg #[.bool b2, .slice A2 n2 c2, .slice B2 m2 d2] := (hvc (hv 5 (by omega))).elim fun _ h => h
  have f7 : fw1 7 = .agg #[.bool b3, .slice A3 n3 c3, .slice B3 m3 d3] := (hvc (hv 7 (by omega))).elim fun _ h => h
  obtain ⟨bx1x10, Ax1x10, nx1x10, cx1x10, Bx1x10, mx1x10, dx1x10, f10, Tx1x10⟩ := (show IsQt w1 _ (q2 * q3) (max (k2 + k3) (k2 + k3)) from (hvc (hv 10 (by omega))).elim fun _ h => h).opened
  simp only [putFn, Act.put, List.setIfInBounds_toArray, List.set_cons_zero, List.set_cons_succ, f0, f1, f2, f3, f5, f7, f10]
  replace M2 := M2.below hR
  replace I2 := I2.below hR
  replace D2 := D2.below hR
  replace N2 := N2.below hR
  replace M3 := M3.below hR
  replace I3 := I3.below hR
  replace D3 := D3.below hR
  replace N3 := N3.below hR
  replace P2 := P2.below hR
  replace P3 := P3.below hR
  replace P4 := P4.below hR
  replace BB := bl_trans BB hR
  clear hR hv
  have r40 := P4.c0
  have t40 := P4.f 0
  have r41 := P4.c1
  have t41 := P4.f 1
  have r42 := P4.c2
  have t42 := P4.f 2
  go_wp2_with fail
  clear r40 t40 r41 t41 r42 t42
  have KR := kr_put3 (b' := bx1x10) (A' := Ax1x10) (n' := nx1x10) (c' := cx1x10) (B' := Bx1x10) (m' := mx1x10) (d' := dx1x10) P4
  replace M2 := M2.kr KR
  replace I2 := I2.kr KR
  replace D2 := D2.kr KR
  replace N2 := N2.kr KR
  replace M3 := M3.kr KR
  replace I3 := I3.kr KR
  replace D3 := D3.kr KR
  replace N3 := N3.kr KR
  replace Tx1x10 := Tx1x10.kr KR
  replace P2 := P2.put3 (g := (w.heap.size + 1 + 1)) (t' := true) (b' := bx1x10) (A' := Ax1x10) (n' := nx1x10) (c' := cx1x10) (B' := Bx1x10) (m' := mx1x10) (d' := dx1x10) (by omega)
  replace P3 := P3.put3 (g := (w.heap.size + 1 + 1)) (t' := true) (b' := bx1x10) (A' := Ax1x10) (n' := nx1x10) (c' := cx1x10) (B' := Bx1x10) (m' := mx1x10) (d' := dx1x10) (by omega)
  replace BB := Below.put3 (g := (w.heap.size + 1 + 1)) (b' := bx1x10) (A' := Ax1x10) (n' := nx1x10) (c' := cx1x10) (B' := Bx1x10) (m' := mx1x10) (d' := dx1x10) BB (by omega)
  replace P4 := P4.set3 (b' := bx1x10) (A' := Ax1x10) (n' := nx1x10) (c' := cx1x10) (B' := Bx1x10) (m' := mx1x10) (d' := dx1x10)
  clear KR
  generalize World.setCell _ ⟨w.heap.size + 1 + 1, 2, none⟩ _ = w2 at M2 I2 D2 N2 M3 I3 D3 N3 Tx1x10 P2 P3 P4 BB ⊢
  have rc0 := P4.c0
  have rc1 := P4.c1
  have rc2 := P4.c2
  exact bodyPost_ret (v := .agg #[.bool bx1x10, .slice Ax1x10 nx1x10 cx1x10, .slice Bx1x10 mx1x10 dx1x10]) (by simp [results, Tryz.results27, go_sem, rc0, rc1, rc2]) rfl ⟨_, rfl, BB, Tx1x10.mono (by omega)⟩
theorem cDiv3 (h2 : IsQm w v2 q2 k2) (h3 : IsQm w v3 q3 k3) (hk2 : k2 ≤ 200) (hk3 : k3 ≤ 200) (g2 : 1 ≤ k2) (g3 : 1 ≤ k3) (hn : q3 ≠ 0) : Calls Tryz.prog 17 #[v2, v3] w (Ans w fun w' v => IsQt w' v (q2 / q3) (k2 + k3)) := by
 have HN3 := Lib.hid hn
 clear hn
 have M2 := h2
 obtain ⟨b2, A2, n2, c2, B2, m2, d2, rfl, z2, y2, zz, D2, hq2⟩ := h2
 have I2 : IsM w (.agg #[.bool b2, .slice A2 n2 c2]) z2 _ := ⟨_, _, _, _, rfl, zz⟩
 obtain ⟨x2, N2, hz2⟩ := zz.row
 have HQ2 := Lib.hid hq2
 have HZ2 := Lib.hid hz2
 clear zz hq2 hz2
 have M3 := h3
 obtain ⟨b3, A3, n3, c3, B3, m3, d3, rfl, z3, y3, zz, D3, hq3⟩ := h3
 have I3 : IsM w (.agg #[.bool b3, .slice A3 n3 c3]) z3 _ := ⟨_, _, _, _, rfl, zz⟩
 obtain ⟨x3, N3, hz3⟩ := zz.row
 have HQ3 := Lib.hid hq3
 have HZ3 := Lib.hid hz3
 clear zz hq3 hz3
 have BB := (bl_trans (bl_trans (bl_alloc w (.cells #[.bool b2, .slice A2 n2 c2, .slice B2 m2 d2] 26)) (bl_alloc _ (.cells #[.bool b3, .slice A3 n3 c3, .slice B3 m3 d3] 26))) (bl_alloc _ (.cells #[.bool false, .slice none 0 0, .slice none 0 0] 26)))
 replace M2 := M2.below BB
 replace I2 := I2.below BB
 replace D2 := D2.below BB
 replace N2 := N2.below BB
 replace M3 := M3.below BB
 replace I3 := I3.below BB
 replace D3 := D3.below BB
 replace N3 := N3.below BB
 have P2 := ((Bq.new w b2 A2 n2 c2 B2 m2 d2).alloc (.cells #[.bool b3, .slice A3 n3 c3, .slice B3 m3 d3] 26)).alloc (.cells #[.bool false, .slice none 0 0, .slice none 0 0] 26)
 have P3 := (Bq.new (w.alloc (.cells #[.bool b2, .slice A2 n2 c2, .slice B2 m2 d2] 26)) b3 A3 n3 c3 B3 m3 d3).alloc (.cells #[.bool false, .slice none 0 0, .slice none 0 0] 26)
 simp only [hs_alloc] at P3
 have P4 := Bq.new ((w.alloc (.cells #[.bool b2, .slice A2 n2 c2, .slice B2 m2 d2] 26)).alloc (.cells #[.bool b3, .slice A3 n3 c3, .slice B3 m3 d3] 26)) false none 0 0 none 0 0
 simp only [hs_alloc] at P4
 go_enter Tryz.func17, Tryz.ntmps17
 go_upto_region 1 with (fail)
 generalize (((w.alloc (.cells #[.bool b2, .slice A2 n2 c2, .slice B2 m2 d2] 26)).alloc (.cells #[.bool b3, .slice A3 n3 c3, .slice B3 m3 d3] 26)).alloc (.cells #[.bool false, .slice none 0 0, .slice none 0 0] 26)) = w0 at M2 I2 D2 N2 M3 I3 D3 N3 P2 P3 P4 BB ⊢
 refine wp_cut (by kernel_rfl) 11 ?_
 simp only [List.take_succ_cons, List.take_zero, List.drop_succ_cons, List.drop_zero]
 refine wp_cut_list (Ext := RB) (Rel := RBu) [fun v _ _ => v = .pointer (some ⟨w.heap.size, 0, none⟩), fun v _ _ => v = .agg #[.bool b2, .slice A2 n2 c2], fun v _ _ => v = .agg #[.bool b3, .slice A3 n3 c3, .slice B3 m3 d3], fun v _ w => IsT w v (((dOf y3 : Nat) : Int)) k3, fun v _ w => IsT w v (z2 * (((dOf y3 : Nat) : Int))) (k2 + k3), fun v _ _ => v = .agg #[.bool b2, .slice A2 n2 c2, .slice B2 m2 d2], fun v _ w => IsT w v (((dOf y2 : Nat) : Int)) k2, fun v _ _ => v = .pointer (some ⟨(w.heap.size + 1), 0, none⟩), fun v _ _ => v = .agg #[.bool b3, .slice A3 n3 c3], fun v _ w => IsT w v ((((dOf y2 : Nat) : Int)) * z3) (k2 + k3), fun v _ w => IsQt w v (q2 / q3) (max (k2 + k3) (k2 + k3))] (n := 11) (by kernel_rfl) (by kernel_rfl) (by kernel_rfl) (by kernel_rfl) (by kernel_rfl) (by kernel_rfl) (by kernel_rfl) (by kernel_rfl) (by kernel_rfl) rb_refl rb_trans ⟨sC, ⟨sC, ⟨sC, ⟨sT, ⟨sT, ⟨sC, ⟨sT, ⟨sC, ⟨sC, ⟨sT, ⟨sQt, trivial⟩⟩⟩⟩⟩⟩⟩⟩⟩⟩⟩ ?_ ?_
 ·refine ⟨⟨⟨⟨⟨⟨⟨⟨⟨⟨⟨trivial, ?_⟩, ?_⟩, ?_⟩, ?_⟩, ?_⟩, ?_⟩, ?_⟩, ?_⟩, ?_⟩, ?_⟩, ?_⟩
  ·refine rs_plain rfl rfl fun a wr S => ?_
   have X := undrew S.ext
   exact wp_qf0 (ev_of ((S.old 2 (by kernel_rfl)).trans rfl)) (done (by kernel_rfl) rbu_refl rfl)
  ·refine rs_plain rfl rfl fun a wr S => ?_
   have X := undrew S.ext
   obtain ⟨v0, e0, h0⟩ := S.got 0 (by kernel_rfl)
   exact wp_qN ((ev_of (e0 5 (by kernel_rfl))).trans h0) (P2.below X) (done (by kernel_rfl) rbu_refl rfl)
  ·refine rs_plain rfl rfl fun a wr S => ?_
   have X := undrew S.ext
   exact wp_qload (ev_of ((S.old 3 (by kernel_rfl)).trans rfl)) (P3.below X) (done (by kernel_rfl) rbu_refl rfl)
  ·refine rs_plain rfl rfl fun a wr S => ?_
   have X := undrew S.ext
   obtain ⟨v2, e2, h2⟩ := S.got 2 (by kernel_rfl)
   exact st_call cf_ref03_down (args1 ((ev_of (e2 7 (by kernel_rfl))).trans h2)) (by kernel_rfl) rb ((cDown3 (D3.below X) (by omega) (by omega)).mono ansT) (fun _ _ _ h => h)
  ·refine rs_plain rfl rfl fun a wr S => ?_
   have X := undrew S.ext
   obtain ⟨v1, e1, h1⟩ := S.got 1 (by kernel_rfl)
   obtain ⟨v3, e3, h3⟩ := S.got 3 (by kernel_rfl)
   exact st_call cf_ref03_times (args2 ((ev_of (e1 6 (by kernel_rfl))).trans h1) (ev_of (e3 8 (by kernel_rfl)))) (by kernel_rfl) rb (cTimes3 (show IsM _ _ _ _ from (I2.below X)) (show IsM _ _ _ _ from h3.m) (by omega) (by omega)) (fun _ _ _ h => h)
  ·refine rs_plain rfl rfl fun a wr S => ?_
   have X := undrew S.ext
   exact wp_qload (ev_of ((S.old 2 (by kernel_rfl)).trans rfl)) (P2.below X) (done (by kernel_rfl) rbu_refl rfl)
  ·refine rs_plain rfl rfl fun a wr S => ?_
   have X := undrew S.ext
   obtain ⟨v5, e5, h5⟩ := S.got 5 (by kernel_rfl)
   exact st_call cf_ref03_down (args1 ((ev_of (e5 10 (by kernel_rfl))).trans h5)) (by kernel_rfl) rb ((cDown3 (D2.below X) (by omega) (by omega)).mono ansT) (fun _ _ _ h => h)
  ·refine rs_plain rfl rfl fun a wr S => ?_
   have X := undrew S.ext
   exact wp_qf0 (ev_of ((S.old 3 (by kernel_rfl)).trans rfl)) (done (by kernel_rfl) rbu_refl rfl)
  ·refine rs_plain rfl rfl fun a wr S => ?_
   have X := undrew S.ext
   obtain ⟨v7, e7, h7⟩ := S.got 7 (by kernel_rfl)
   exact wp_qN ((ev_of (e7 12 (by kernel_rfl))).trans h7) (P3.below X) (done (by kernel_rfl) rbu_refl rfl)
  ·refine rs_plain rfl rfl fun a wr S => ?_
   have X := undrew S.ext
   obtain ⟨v6, e6, h6⟩ := S.got 6 (by kernel_rfl)
   obtain ⟨v8, e8, h8⟩ := S.got 8 (by kernel_rfl)
   exact st_call cf_ref03_times (args2 (ev_of (e6 11 (by kernel_rfl))) ((ev_of (e8 13 (by kernel_rfl))).trans h8)) (by kernel_rfl) rb (cTimes3 (show IsM _ _ _ _ from h6.m) (show IsM _ _ _ _ from (I3.below X)) (by omega) (by omega)) (fun _ _ _ h => h)
  ·refine rs_plain rfl rfl fun a wr S => ?_
   have X := undrew S.ext
   obtain ⟨v4, e4, h4⟩ := S.got 4 (by kernel_rfl)
   obtain ⟨v9, e9, h9⟩ := S.got 9 (by kernel_rfl)
   exact st_call cf_ref03_Of (args2 (ev_of (e4 9 (by kernel_rfl))) (ev_of (e9 14 (by kernel_rfl)))) (by kernel_rfl) rb ((cOf3R (show IsM _ _ _ _ from h4.m) (show IsM _ _ _ _ from h9.m) (by omega) (by omega) (Int.mul_ne_zero (dOf_int _) (z_ne HQ3.out HN3.out))).mono (ansQe (div_q HQ2.out HQ3.out))) (fun _ _ _ h => h)
 ·intro fw1 w1 hR hv hap
  clear hap
  replace hR := undrew hR
  have f0 : fw1 0 = .pointer (some ⟨w.heap.size, 0, none⟩) := (hvc (hv 0 (by omega))).elim fun _ h => h
  have f1 : fw1 1 = .agg #[.bool b2, .slice A2 n2 c2] := (hvc (hv 1 (by omega))).elim fun _ h => h
  have f2 : fw1 2 = .agg #[.bool b3, .slice A3 n3 c3, .slice B3 m3 d3] := (hvc (hv 2 (by omega))).elim fun _ h => h
  have f5 : fw1 5 = .agg #[.bool b2, .slice A2 n2 c2, .slice B2 m2 d2] := (hvc (hv 5 (by omega))).elim fun _ h => h
  have f7 : fw1 7 = .pointer (some ⟨(w.heap.size + 1), 0, none⟩) := (hvc (hv 7 (by omega))).elim fun _ h => h
  have f8 : fw1 8 = .agg #[.bool b3, .slice A3 n3 c3] := (hvc (hv 8 (by omega))).elim fun _ h => h
  obtain ⟨bx1x10, Ax1x10, nx1x10, cx1x10, Bx1x10, mx1x10, dx1x10, f10, Tx1x10⟩ := (show IsQt w1 _ (q2 / q3) (max (k2 + k3) (k2 + k3)) from (hvc (hv 10 (by omega))).elim fun _ h => h).opened
  simp only [putFn, Act.put, List.setIfInBounds_toArray, List.set_cons_zero, List.set_cons_succ, f0, f1, f2, f5, f7, f8, f10]
  replace M2 := M2.below hR
  replace I2 := I2.below hR
  replace D2 := D2.below hR
  replace N2 := N2.below hR
  replace M3 := M3.below hR
  replace I3 := I3.below hR
  replace D3 := D3.below hR
  replace N3 := N3.below hR
  replace P2 := P2.below hR
  replace P3 := P3.below hR
  replace P4 := P4.below hR
  replace BB := bl_trans BB hR
  clear hR hv
  have r40 := P4.c0
  have t40 := P4.f 0
  have r41 := P4.c1
  have t41 := P4.f 1
  have r42 := P4.c2
  have t42 := P4.f 2
  go_wp2_with fail
  clear r40 t40 r41 t41 r42 t42
  have KR := kr_put3 (b' := bx1x10) (A' := Ax1x10) (n' := nx1x10) (c' := cx1x10) (B' := Bx1x10) (m' := mx1x10) (d' := dx1x10) P4
  replace M2 := M2.kr KR
  replace I2 := I2.kr KR
  replace D2 := D2.kr KR
  replace N2 := N2.kr KR
  replace M3 := M3.kr KR
  replace I3 := I3.kr KR
  replace D3 := D3.kr KR
  replace N3 := N3.kr KR
  replace Tx1x10 := Tx1x10.kr KR
  replace P2 := P2.put3 (g := (w.heap.size + 1 + 1)) (t' := true) (b' := bx1x10) (A' := Ax1x10) (n' := nx1x10) (c' := cx1x10) (B' := Bx1x10) (m' := mx1x10) (d' := dx1x10) (by omega)
  replace P3 := P3.put3 (g := (w.heap.size + 1 + 1)) (t' := true) (b' := bx1x10) (A' := Ax1x10) (n' := nx1x10) (c' := cx1x10) (B' := Bx1x10) (m' := mx1x10) (d' := dx1x10) (by omega)
  replace BB := Below.put3 (g := (w.heap.size + 1 + 1)) (b' := bx1x10) (A' := Ax1x10) (n' := nx1x10) (c' := cx1x10) (B' := Bx1x10) (m' := mx1x10) (d' := dx1x10) BB (by omega)
  replace P4 := P4.set3 (b' := bx1x10) (A' := Ax1x10) (n' := nx1x10) (c' := cx1x10) (B' := Bx1x10) (m' := mx1x10) (d' := dx1x10)
  clear KR
  generalize World.setCell _ ⟨w.heap.size + 1 + 1, 2, none⟩ _ = w2 at M2 I2 D2 N2 M3 I3 D3 N3 Tx1x10 P2 P3 P4 BB ⊢
  have rc0 := P4.c0
  have rc1 := P4.c1
  have rc2 := P4.c2
  exact bodyPost_ret (v := .agg #[.bool bx1x10, .slice Ax1x10 nx1x10 cx1x10, .slice Bx1x10 mx1x10 dx1x10]) (by simp [results, Tryz.results17, go_sem, rc0, rc1, rc2]) rfl ⟨_, rfl, BB, Tx1x10.mono (by omega)⟩
theorem cSign3 (h1 : IsQm w v1 q1 k1) (hk1 : k1 ≤ 900) : Calls Tryz.prog 31 #[v1] w (Ans w fun _ v => v = .int .i64 (sgn q1.num)) := by
 have M1 := h1
 obtain ⟨b1, A1, n1, c1, B1, m1, d1, rfl, z1, y1, zz, D1, hq1⟩ := h1
 have I1 : IsM w (.agg #[.bool b1, .slice A1 n1 c1]) z1 _ := ⟨_, _, _, _, rfl, zz⟩
 obtain ⟨x1, N1, hz1⟩ := zz.row
 have HQ1 := Lib.hid hq1
 have HZ1 := Lib.hid hz1
 clear zz hq1 hz1
 have BB := (bl_alloc w (.cells #[.bool b1, .slice A1 n1 c1, .slice B1 m1 d1] 26))
 replace M1 := M1.below BB
 replace I1 := I1.below BB
 replace D1 := D1.below BB
 replace N1 := N1.below BB
 have P1 := Bq.new w b1 A1 n1 c1 B1 m1 d1
 go_enter Tryz.func31, Tryz.ntmps31
 go_upto_region 1 with (fail)
 generalize (w.alloc (.cells #[.bool b1, .slice A1 n1 c1, .slice B1 m1 d1] 26)) = w0 at M1 I1 D1 N1 P1 BB ⊢
 by_cases hq : q1 = 0
 ·have HE := Lib.hid hq
  clear hq
  refine wp_seq 2 ?_
  simp only [List.take_succ_cons, List.take_zero, List.drop_succ_cons, List.drop_zero]
  refine wp_seq_list (Ext := RB) (Rel := RBu) [fun v _ _ => v = .agg #[.bool b1, .slice A1 n1 c1, .slice B1 m1 d1], fun v _ _ => v = .bool true] (n := 2) (by kernel_rfl) (by kernel_rfl) (by kernel_rfl) (by kernel_rfl) (by kernel_rfl) (by kernel_rfl) (by kernel_rfl) rb_refl rb_trans ⟨sC, ⟨sC, trivial⟩⟩ ?_ ?_
  ·refine ⟨⟨trivial, ?_⟩, ?_⟩
   ·refine rs_plain rfl rfl fun a wr S => ?_
    have X := rbX S.ext
    exact wp_qload (ev_of ((S.old 1 (by kernel_rfl)).trans rfl)) (P1.below X) (done (by kernel_rfl) rbu_refl rfl)
   ·refine rs_plain rfl rfl fun a wr S => ?_
    have X := rbX S.ext
    obtain ⟨v0, e0, h0⟩ := S.got 0 (by kernel_rfl)
    exact st_call cf_ref03_Zero (args1 ((ev_of (e0 3 (by kernel_rfl))).trans h0)) (by kernel_rfl) rb ((cZero3 (show IsQm _ _ _ _ from (M1.below X)) (by omega)).mono (ansB (decide_eq_true HE.out))) (fun _ _ _ h => h)
  ·intro fw1 w1 hR hv hap
   clear hap
   replace hR := rbX hR
   have f0 : fw1 0 = .agg #[.bool b1, .slice A1 n1 c1, .slice B1 m1 d1] := (hvc (hv 0 (by omega))).elim fun _ h => h
   have f1 : fw1 1 = .bool true := (hvc (hv 1 (by omega))).elim fun _ h => h
   simp only [putFn, Act.put, List.setIfInBounds_toArray, List.set_cons_zero, List.set_cons_succ, f0, f1]
   replace M1 := M1.below hR
   replace I1 := I1.below hR
   replace D1 := D1.below hR
   replace N1 := N1.below hR
   replace P1 := P1.below hR
   replace BB := bl_trans BB hR
   clear hR hv
   go_upto_region 2 with (fail)
   go_wp2_with fail
   go_ret
   exact ⟨_, rfl, BB, congrArg (Value.int .i64) (sgn_0 HE.out).symm⟩
 ·have HE := Lib.hid hq
  clear hq
  refine wp_seq 2 ?_
  simp only [List.take_succ_cons, List.take_zero, List.drop_succ_cons, List.drop_zero]
  refine wp_seq_list (Ext := RB) (Rel := RBu) [fun v _ _ => v = .agg #[.bool b1, .slice A1 n1 c1, .slice B1 m1 d1], fun v _ _ => v = .bool false] (n := 2) (by kernel_rfl) (by kernel_rfl) (by kernel_rfl) (by kernel_rfl) (by kernel_rfl) (by kernel_rfl) (by kernel_rfl) rb_refl rb_trans ⟨sC, ⟨sC, trivial⟩⟩ ?_ ?_
  ·refine ⟨⟨trivial, ?_⟩, ?_⟩
   ·refine rs_plain rfl rfl fun a wr S => ?_
    have X := rbX S.ext
    exact wp_qload (ev_of ((S.old 1 (by kernel_rfl)).trans rfl)) (P1.below X) (done (by kernel_rfl) rbu_refl rfl)
   ·refine rs_plain rfl rfl fun a wr S => ?_
    have X := rbX S.ext
    obtain ⟨v0, e0, h0⟩ := S.got 0 (by kernel_rfl)
    exact st_call cf_ref03_Zero (args1 ((ev_of (e0 3 (by kernel_rfl))).trans h0)) (by kernel_rfl) rb ((cZero3 (show IsQm _ _ _ _ from (M1.below X)) (by omega)).mono (ansB (decide_eq_false HE.out))) (fun _ _ _ h => h)
  ·intro fw2 w2 hR hv hap
   clear hap
   replace hR := rbX hR
   have f0 : fw2 0 = .agg #[.bool b1, .slice A1 n1 c1, .slice B1 m1 d1] := (hvc (hv 0 (by omega))).elim fun _ h => h
   have f1 : fw2 1 = .bool false := (hvc (hv 1 (by omega))).elim fun _ h => h
   simp only [putFn, Act.put, List.setIfInBounds_toArray, List.set_cons_zero, List.set_cons_succ, f0, f1]
   replace M1 := M1.below hR
   replace I1 := I1.below hR
   replace D1 := D1.below hR
   replace N1 := N1.below hR
   replace P1 := P1.below hR
   replace BB := bl_trans BB hR
   clear hR hv
   go_upto_region 3 with (fail)
   cases b1
   ·skip
    refine wp_seq 3 ?_
    simp only [List.take_succ_cons, List.take_zero, List.drop_succ_cons, List.drop_zero]
    refine wp_seq_list (Ext := RB) (Rel := RBu) [fun v _ _ => v = .pointer (some ⟨w.heap.size, 0, none⟩), fun v _ _ => v = .pointer (some ⟨w.heap.size, 0, none⟩), fun v _ _ => v = .bool false] (n := 3) (by kernel_rfl) (by kernel_rfl) (by kernel_rfl) (by kernel_rfl) (by kernel_rfl) (by kernel_rfl) (by kernel_rfl) rb_refl rb_trans ⟨sC, ⟨sC, ⟨sC, trivial⟩⟩⟩ ?_ ?_
    ·refine ⟨⟨⟨trivial, ?_⟩, ?_⟩, ?_⟩
     ·refine rs_plain rfl rfl fun a wr S => ?_
      have X := rbX S.ext
      exact wp_qf0 (ev_of ((S.old 1 (by kernel_rfl)).trans rfl)) (done (by kernel_rfl) rbu_refl rfl)
     ·refine rs_plain rfl rfl fun a wr S => ?_
      have X := rbX S.ext
      obtain ⟨v0, e0, h0⟩ := S.got 0 (by kernel_rfl)
      exact wp_field0 ((ev_of (e0 5 (by kernel_rfl))).trans h0) (done (by kernel_rfl) rbu_refl rfl)
     ·refine rs_plain rfl rfl fun a wr S => ?_
      have X := rbX S.ext
      obtain ⟨v1, e1, h1⟩ := S.got 1 (by kernel_rfl)
      exact wp_qB ((ev_of (e1 6 (by kernel_rfl))).trans h1) (P1.below X) (done (by kernel_rfl) rbu_refl rfl)
    ·intro fw3 w3 hR hv hap
     clear hap
     replace hR := rbX hR
     have f0 : fw3 0 = .pointer (some ⟨w.heap.size, 0, none⟩) := (hvc (hv 0 (by omega))).elim fun _ h => h
     have f1 : fw3 1 = .pointer (some ⟨w.heap.size, 0, none⟩) := (hvc (hv 1 (by omega))).elim fun _ h => h
     have f2 : fw3 2 = .bool false := (hvc (hv 2 (by omega))).elim fun _ h => h
     simp only [putFn, Act.put, List.setIfInBounds_toArray, List.set_cons_zero, List.set_cons_succ, f0, f1, f2]
     replace M1 := M1.below hR
     replace I1 := I1.below hR
     replace D1 := D1.below hR
     replace N1 := N1.below hR
     replace P1 := P1.below hR
     replace BB := bl_trans BB hR
     clear hR hv
     go_upto_region 5 with (fail)
     go_wp2_with fail
     go_ret
     exact ⟨_, rfl, BB, congrArg (Value.int .i64) (sgn_b HQ1.out HZ1.out HE.out).symm⟩
   ·skip
    refine wp_seq 3 ?_
    simp only [List.take_succ_cons, List.take_zero, List.drop_succ_cons, List.drop_zero]
    refine wp_seq_list (Ext := RB) (Rel := RBu) [fun v _ _ => v = .pointer (some ⟨w.heap.size, 0, none⟩), fun v _ _ => v = .pointer (some ⟨w.heap.size, 0, none⟩), fun v _ _ => v = .bool true] (n := 3) (by kernel_rfl) (by kernel_rfl) (by kernel_rfl) (by kernel_rfl) (by kernel_rfl) (by kernel_rfl) (by kernel_rfl) rb_refl rb_trans ⟨sC, ⟨sC, ⟨sC, trivial⟩⟩⟩ ?_ ?_
    ·refine ⟨⟨⟨trivial, ?_⟩, ?_⟩, ?_⟩
     ·refine rs_plain rfl rfl fun a wr S => ?_
      have X := rbX S.ext
      exact wp_qf0 (ev_of ((S.old 1 (by kernel_rfl)).trans rfl)) (done (by kernel_rfl) rbu_refl rfl)
     ·refine rs_plain rfl rfl fun a wr S => ?_
      have X := rbX S.ext
      obtain ⟨v0, e0, h0⟩ := S.got 0 (by kernel_rfl)
      exact wp_field0 ((ev_of (e0 5 (by kernel_rfl))).trans h0) (done (by kernel_rfl) rbu_refl rfl)
     ·refine rs_plain rfl rfl fun a wr S => ?_
      have X := rbX S.ext
      obtain ⟨v1, e1, h1⟩ := S.got 1 (by kernel_rfl)
      exact wp_qB ((ev_of (e1 6 (by kernel_rfl))).trans h1) (P1.below X) (done (by kernel_rfl) rbu_refl rfl)
    ·intro fw4 w4 hR hv hap
     clear hap
     replace hR := rbX hR
     have f0 : fw4 0 = .pointer (some ⟨w.heap.size, 0, none⟩) := (hvc (hv 0 (by omega))).elim fun _ h => h
     have f1 : fw4 1 = .pointer (some ⟨w.heap.size, 0, none⟩) := (hvc (hv 1 (by omega))).elim fun _ h => h
     have f2 : fw4 2 = .bool true := (hvc (hv 2 (by omega))).elim fun _ h => h
     simp only [putFn, Act.put, List.setIfInBounds_toArray, List.set_cons_zero, List.set_cons_succ, f0, f1, f2]
     replace M1 := M1.below hR
     replace I1 := I1.below hR
     replace D1 := D1.below hR
     replace N1 := N1.below hR
     replace P1 := P1.below hR
     replace BB := bl_trans BB hR
     clear hR hv
     go_upto_region 4 with (fail)
     go_wp2_with fail
     go_ret
     exact ⟨_, rfl, BB, congrArg (Value.int .i64) (sgn_b HQ1.out HZ1.out HE.out).symm⟩
theorem cCmp3 (h2 : IsQm w v2 q2 k2) (h3 : IsQm w v3 q3 k3) (hk2 : k2 ≤ 200) (hk3 : k3 ≤ 200) (g2 : 1 ≤ k2) (g3 : 1 ≤ k3) : Calls Tryz.prog 29 #[v2, v3] w (Ans w fun _ v => v = .int .i64 (cmpQ q2 q3)) := by
 have M2 := h2
 obtain ⟨b2, A2, n2, c2, B2, m2, d2, rfl, z2, y2, zz, D2, hq2⟩ := h2
 have I2 : IsM w (.agg #[.bool b2, .slice A2 n2 c2]) z2 _ := ⟨_, _, _, _, rfl, zz⟩
 obtain ⟨x2, N2, hz2⟩ := zz.row
 have HQ2 := Lib.hid hq2
 have HZ2 := Lib.hid hz2
 clear zz hq2 hz2
 have M3 := h3
 obtain ⟨b3, A3, n3, c3, B3, m3, d3, rfl, z3, y3, zz, D3, hq3⟩ := h3
 have I3 : IsM w (.agg #[.bool b3, .slice A3 n3 c3]) z3 _ := ⟨_, _, _, _, rfl, zz⟩
 obtain ⟨x3, N3, hz3⟩ := zz.row
 have HQ3 := Lib.hid hq3
 have HZ3 := Lib.hid hz3
 clear zz hq3 hz3
 have BB := (bl_trans (bl_alloc w (.cells #[.bool b2, .slice A2 n2 c2, .slice B2 m2 d2] 26)) (bl_alloc _ (.cells #[.bool b3, .slice A3 n3 c3, .slice B3 m3 d3] 26)))
 replace M2 := M2.below BB
 replace I2 := I2.below BB
 replace D2 := D2.below BB
 replace N2 := N2.below BB
 replace M3 := M3.below BB
 replace I3 := I3.below BB
 replace D3 := D3.below BB
 replace N3 := N3.below BB
 have P2 := (Bq.new w b2 A2 n2 c2 B2 m2 d2).alloc (.cells #[.bool b3, .slice A3 n3 c3, .slice B3 m3 d3] 26)
 have P3 := Bq.new (w.alloc (.cells #[.bool b2, .slice A2 n2 c2, .slice B2 m2 d2] 26)) b3 A3 n3 c3 B3 m3 d3
 simp only [hs_alloc] at P3
 go_enter Tryz.func29, Tryz.ntmps29
 go_upto_region 1 with (fail)
 generalize ((w.alloc (.cells #[.bool b2, .slice A2 n2 c2, .slice B2 m2 d2] 26)).alloc (.cells #[.bool b3, .slice A3 n3 c3, .slice B3 m3 d3] 26)) = w0 at M2 I2 D2 N2 M3 I3 D3 N3 P2 P3 BB ⊢
 refine wp_seq 5 ?_
 simp only [List.take_succ_cons, List.take_zero, List.drop_succ_cons, List.drop_zero]
 refine wp_seq_list (Ext := RB) (Rel := RBu) [fun v _ _ => v = .agg #[.bool b2, .slice A2 n2 c2, .slice B2 m2 d2], fun v _ _ => v = .agg #[.bool b3, .slice A3 n3 c3, .slice B3 m3 d3], fun v _ w => IsQt w v (q2 - q3) ((k2 + k3) + 1), fun v _ _ => v = .int .i64 (cmpQ q2 q3), fun v _ _ => v = .int .i64 (cmpQ q2 q3)] (n := 5) (by kernel_rfl) (by kernel_rfl) (by kernel_rfl) (by kernel_rfl) (by kernel_rfl) (by kernel_rfl) (by kernel_rfl) rb_refl rb_trans ⟨sC, ⟨sC, ⟨sQt, ⟨sC, ⟨sC, trivial⟩⟩⟩⟩⟩ ?_ ?_
 ·refine ⟨⟨⟨⟨⟨trivial, ?_⟩, ?_⟩, ?_⟩, ?_⟩, ?_⟩
  ·refine rs_plain rfl rfl fun a wr S => ?_
   have X := rbX S.ext
   exact wp_qload (ev_of ((S.old 2 (by kernel_rfl)).trans rfl)) (P2.below X) (done (by kernel_rfl) rbu_refl rfl)
  ·refine rs_plain rfl rfl fun a wr S => ?_
   have X := rbX S.ext
   exact wp_qload (ev_of ((S.old 3 (by kernel_rfl)).trans rfl)) (P3.below X) (done (by kernel_rfl) rbu_refl rfl)
  ·refine rs_plain rfl rfl fun a wr S => ?_
   have X := rbX S.ext
   obtain ⟨v0, e0, h0⟩ := S.got 0 (by kernel_rfl)
   obtain ⟨v1, e1, h1⟩ := S.got 1 (by kernel_rfl)
   exact st_call cf_ref03_Sub (args2 ((ev_of (e0 5 (by kernel_rfl))).trans h0) ((ev_of (e1 6 (by kernel_rfl))).trans h1)) (by kernel_rfl) rb (cSub3 (show IsQm _ _ _ _ from (M2.below X)) (show IsQm _ _ _ _ from (M3.below X)) (by omega) (by omega) (by omega) (by omega)) (fun _ _ _ h => h)
  ·refine rs_plain rfl rfl fun a wr S => ?_
   have X := rbX S.ext
   obtain ⟨v2, e2, h2⟩ := S.got 2 (by kernel_rfl)
   exact st_call cf_ref03_Sign (args1 (ev_of (e2 7 (by kernel_rfl)))) (by kernel_rfl) rb ((cSign3 (show IsQm _ _ _ _ from (show IsQt _ _ _ _ from h2).m) (by omega)).mono (ans_intW (sgn_sub _ _))) (fun _ _ _ h => h)
  ·refine rs_plain rfl rfl fun a wr S => ?_
   have X := rbX S.ext
   obtain ⟨v3, e3, h3⟩ := S.got 3 (by kernel_rfl)
   exact wp_as ((ev_of (e3 8 (by kernel_rfl))).trans h3) (done (by kernel_rfl) rbu_refl rfl)
 ·intro fw1 w1 hR hv hap
  clear hap
  replace hR := rbX hR
  have f0 : fw1 0 = .agg #[.bool b2, .slice A2 n2 c2, .slice B2 m2 d2] := (hvc (hv 0 (by omega))).elim fun _ h => h
  have f1 : fw1 1 = .agg #[.bool b3, .slice A3 n3 c3, .slice B3 m3 d3] := (hvc (hv 1 (by omega))).elim fun _ h => h
  have f3 : fw1 3 = .int .i64 (cmpQ q2 q3) := (hvc (hv 3 (by omega))).elim fun _ h => h
  have f4 : fw1 4 = .int .i64 (cmpQ q2 q3) := (hvc (hv 4 (by omega))).elim fun _ h => h
  simp only [putFn, Act.put, List.setIfInBounds_toArray, List.set_cons_zero, List.set_cons_succ, f0, f1, f3, f4]
  replace M2 := M2.below hR
  replace I2 := I2.below hR
  replace D2 := D2.below hR
  replace N2 := N2.below hR
  replace M3 := M3.below hR
  replace I3 := I3.below hR
  replace D3 := D3.below hR
  replace N3 := N3.below hR
  replace P2 := P2.below hR
  replace P3 := P3.below hR
  replace BB := bl_trans BB hR
  clear hR hv
  go_wp2_with fail
  go_ret
  exact ⟨_, rfl, BB, rfl⟩
theorem cRight3 {r b1 : Bool} {xs ys : List Nat} (h1 : IsR w v1 b1 xs ys k1) (hk1 : k1 ≤ 900) (g1 : 1 ≤ k1) (hr : r = true ↔ RightQ b1 xs ys (mkRat (zv b1 (M.val xs)) (dOf (M.val ys)))) : Calls Tryz.prog 19 #[v1] w (Ans w fun _ v => v = .bool r) := by
 have HR := Lib.hid hr
 clear hr
 have R1 := h1
 have M1 := h1.m
 obtain ⟨A1, n1, c1, B1, m1, d1, rfl, _⟩ := h1
 have BB := (bl_alloc w (.cells #[.bool b1, .slice A1 n1 c1, .slice B1 m1 d1] 26))
 replace R1 := R1.below BB
 replace M1 := M1.below BB
 have P1 := Bq.new w b1 A1 n1 c1 B1 m1 d1
 go_enter Tryz.func19, Tryz.ntmps19
 go_upto_region 1 with (fail)
 generalize (w.alloc (.cells #[.bool b1, .slice A1 n1 c1, .slice B1 m1 d1] 26)) = w0 at R1 M1 P1 BB ⊢
 refine wp_region_list (Ext := RB) (Rel := RBu) [fun v _ _ => v = .agg #[.bool b1, .slice A1 n1 c1, .slice B1 m1 d1], fun v _ _ => v = .agg #[.bool b1, .slice A1 n1 c1, .slice B1 m1 d1], fun v _ w => IsQt w v (mkRat (zv b1 (M.val xs)) (dOf (M.val ys))) k1, fun v _ _ => v = .bool r, fun v _ _ => v = .bool r] (n := 5) (by kernel_rfl) rfl (by kernel_rfl) (by kernel_rfl) (by kernel_rfl) (by kernel_rfl) (by kernel_rfl) rb_refl rb_trans ⟨sC, ⟨sC, ⟨sQt, ⟨sC, ⟨sC, trivial⟩⟩⟩⟩⟩ ?_ ?_
 ·refine ⟨⟨⟨⟨⟨trivial, ?_⟩, ?_⟩, ?_⟩, ?_⟩, ?_⟩
  ·refine rs_plain rfl rfl fun a wr S => ?_
   have X := undrew S.ext
   exact wp_qload (ev_of ((S.old 1 (by kernel_rfl)).trans rfl)) (P1.below X) (done (by kernel_rfl) rbu_refl rfl)
  ·refine rs_plain rfl rfl fun a wr S => ?_
   have X := undrew S.ext
   exact wp_qload (ev_of ((S.old 1 (by kernel_rfl)).trans rfl)) (P1.below X) (done (by kernel_rfl) rbu_refl rfl)
  ·refine rs_plain rfl rfl fun a wr S => ?_
   have X := undrew S.ext
   obtain ⟨v1, e1, h1⟩ := S.got 1 (by kernel_rfl)
   exact st_call cf_ref03_Made (args1 ((ev_of (e1 4 (by kernel_rfl))).trans h1)) (by kernel_rfl) rb (cMade3 (show IsQm _ _ _ _ from (M1.below X)) (by omega) (by omega)) (fun _ _ _ h => h)
  ·refine rs_plain rfl rfl fun a wr S => ?_
   have X := undrew S.ext
   obtain ⟨v0, e0, h0⟩ := S.got 0 (by kernel_rfl)
   obtain ⟨v2, e2, h2⟩ := S.got 2 (by kernel_rfl)
   exact st_call cf_ref03_Same (args2 ((ev_of (e0 3 (by kernel_rfl))).trans h0) (ev_of (e2 5 (by kernel_rfl)))) (by kernel_rfl) rb (cSameR0 (R1.below X) (show IsQt _ _ _ _ from h2).r (by omega) (by omega) (r := r) HR.out) (fun _ _ _ h => h)
  ·refine rs_plain rfl rfl fun a wr S => ?_
   have X := undrew S.ext
   obtain ⟨v3, e3, h3⟩ := S.got 3 (by kernel_rfl)
   exact wp_as ((ev_of (e3 6 (by kernel_rfl))).trans h3) (done (by kernel_rfl) rbu_refl rfl)
 ·intro fw1 w1 hR hv
  replace hR := undrew hR
  have f0 : fw1 0 = .agg #[.bool b1, .slice A1 n1 c1, .slice B1 m1 d1] := (hvc (hv 0 (by omega))).elim fun _ h => h
  have f1 : fw1 1 = .agg #[.bool b1, .slice A1 n1 c1, .slice B1 m1 d1] := (hvc (hv 1 (by omega))).elim fun _ h => h
  have f3 : fw1 3 = .bool r := (hvc (hv 3 (by omega))).elim fun _ h => h
  have f4 : fw1 4 = .bool r := (hvc (hv 4 (by omega))).elim fun _ h => h
  simp only [putFn, Act.put, List.setIfInBounds_toArray, List.set_cons_zero, List.set_cons_succ, f0, f1, f3, f4]
  replace R1 := R1.below hR
  replace M1 := M1.below hR
  replace P1 := P1.below hR
  replace BB := bl_trans BB hR
  clear hR hv
  go_wp2_with fail
  go_ret
  exact ⟨_, rfl, BB, rfl⟩
theorem cFloor3 (h1 : IsQm w v1 q1 k1) (hk1 : k1 ≤ 900) (g1 : 1 ≤ k1) : Calls Tryz.prog 34 #[v1] w (Ans w fun w' v => IsT w' v q1.floor (k1 + 1)) := by
 have M1 := h1
 obtain ⟨b1, A1, n1, c1, B1, m1, d1, rfl, z1, y1, zz, D1, hq1⟩ := h1
 have I1 : IsM w (.agg #[.bool b1, .slice A1 n1 c1]) z1 _ := ⟨_, _, _, _, rfl, zz⟩
 obtain ⟨x1, N1, hz1⟩ := zz.row
 have HQ1 := Lib.hid hq1
 have HZ1 := Lib.hid hz1
 clear zz hq1 hz1
 have BB := (bl_trans (bl_alloc w (.cells #[.bool b1, .slice A1 n1 c1, .slice B1 m1 d1] 26)) (bl_alloc _ (.cells #[.bool false, .slice none 0 0] 24)))
 replace M1 := M1.below BB
 replace I1 := I1.below BB
 replace D1 := D1.below BB
 replace N1 := N1.below BB
 have P1 := (Bq.new w b1 A1 n1 c1 B1 m1 d1).alloc (.cells #[.bool false, .slice none 0 0] 24)
 have P2 := Bz.new (w.alloc (.cells #[.bool b1, .slice A1 n1 c1, .slice B1 m1 d1] 26)) false none 0 0
 simp only [hs_alloc] at P2
 go_enter Tryz.func34, Tryz.ntmps34
 go_upto_region 1 with (fail)
 generalize ((w.alloc (.cells #[.bool b1, .slice A1 n1 c1, .slice B1 m1 d1] 26)).alloc (.cells #[.bool false, .slice none 0 0] 24)) = w0 at M1 I1 D1 N1 P1 P2 BB ⊢
 refine wp_seq 2 ?_
 simp only [List.take_succ_cons, List.take_zero, List.drop_succ_cons, List.drop_zero]
 refine wp_seq_list (Ext := RB) (Rel := RBu) [fun v _ _ => v = .agg #[.bool b1, .slice A1 n1 c1, .slice B1 m1 d1], fun v _ w => IsQt w v (q1) k1] (n := 2) (by kernel_rfl) (by kernel_rfl) (by kernel_rfl) (by kernel_rfl) (by kernel_rfl) (by kernel_rfl) (by kernel_rfl) rb_refl rb_trans ⟨sC, ⟨sQt, trivial⟩⟩ ?_ ?_
 ·refine ⟨⟨trivial, ?_⟩, ?_⟩
  ·refine rs_plain rfl rfl fun a wr S => ?_
   have X := rbX S.ext
   exact wp_qload (ev_of ((S.old 1 (by kernel_rfl)).trans rfl)) (P1.below X) (done (by kernel_rfl) rbu_refl rfl)
  ·refine rs_plain rfl rfl fun a wr S => ?_
   have X := rbX S.ext
   obtain ⟨v0, e0, h0⟩ := S.got 0 (by kernel_rfl)
   exact st_call cf_ref03_Made (args1 ((ev_of (e0 6 (by kernel_rfl))).trans h0)) (by kernel_rfl) rb (cMade3 (show IsQm _ _ _ _ from (M1.below X)) (by omega) (by omega)) (fun _ _ _ h => h)
 ·intro fw1 w1 hR hv hap
  clear hap
  replace hR := rbX hR
  have f0 : fw1 0 = .agg #[.bool b1, .slice A1 n1 c1, .slice B1 m1 d1] := (hvc (hv 0 (by omega))).elim fun _ h => h
  obtain ⟨bx1x1, Ax1x1, nx1x1, cx1x1, Bx1x1, mx1x1, dx1x1, f1, Tx1x1⟩ := (show IsQt w1 _ (q1) k1 from (hvc (hv 1 (by omega))).elim fun _ h => h).opened
  simp only [putFn, Act.put, List.setIfInBounds_toArray, List.set_cons_zero, List.set_cons_succ, f0, f1]
  replace M1 := M1.below hR
  replace I1 := I1.below hR
  replace D1 := D1.below hR
  replace N1 := N1.below hR
  replace P1 := P1.below hR
  replace P2 := P2.below hR
  replace BB := bl_trans BB hR
  clear hR hv
  have r10 := P1.c0
  have t10 := P1.f 0
  have r11 := P1.c1
  have t11 := P1.f 1
  have r12 := P1.c2
  have t12 := P1.f 2
  go_upto_region 2 with (fail)
  clear r10 t10 r11 t11 r12 t12
  have KR := kr_put3 (b' := bx1x1) (A' := Ax1x1) (n' := nx1x1) (c' := cx1x1) (B' := Bx1x1) (m' := mx1x1) (d' := dx1x1) P1
  replace M1 := M1.kr KR
  replace I1 := I1.kr KR
  replace D1 := D1.kr KR
  replace N1 := N1.kr KR
  replace Tx1x1 := Tx1x1.kr KR
  replace P2 := P2.put3 (g := w.heap.size) (b' := bx1x1) (A' := Ax1x1) (n' := nx1x1) (c' := cx1x1) (B' := Bx1x1) (m' := mx1x1) (d' := dx1x1) (by omega)
  replace BB := Below.put3 (g := w.heap.size) (b' := bx1x1) (A' := Ax1x1) (n' := nx1x1) (c' := cx1x1) (B' := Bx1x1) (m' := mx1x1) (d' := dx1x1) BB (by omega)
  replace P1 := P1.set3 (b' := bx1x1) (A' := Ax1x1) (n' := nx1x1) (c' := cx1x1) (B' := Bx1x1) (m' := mx1x1) (d' := dx1x1)
  clear KR
  generalize World.setCell _ ⟨w.heap.size, 2, none⟩ _ = w2 at M1 I1 D1 N1 Tx1x1 P1 P2 BB ⊢
  have HB := Lib.hid Tx1x1.pb
  have Un := Tx1x1.pn.nm
  have Ud := Tx1x1.pd.nm
  refine wp_seq 13 ?_
  simp only [List.take_succ_cons, List.take_zero, List.drop_succ_cons, List.drop_zero]
  refine wp_seq_list (Ext := RB) (Rel := RBu) [fun v _ _ => v = .pointer (some ⟨w.heap.size, 0, none⟩), fun v _ _ => v = .pointer (some ⟨w.heap.size, 1, none⟩), fun v _ _ => v = .slice Ax1x1 nx1x1 cx1x1, fun v _ _ => v = .pointer (some ⟨w.heap.size, 2, none⟩), fun v _ _ => v = .slice Bx1x1 mx1x1 dx1x1, fun v _ w => IsTD w v (q1.num.natAbs / q1.den) k1 (q1.num.natAbs % q1.den) k1 0, fun v _ w => IsTD w v (q1.num.natAbs / q1.den) k1 (q1.num.natAbs % q1.den) k1 0, fun v _ w => IsTr w v (q1.num.natAbs / q1.den) k1, fun v _ w => IsTr w v (q1.num.natAbs % q1.den) k1, fun v _ _ => v = .int .i64 0, fun v _ w => IsTr w v (q1.num.natAbs / q1.den) k1, fun v _ w => IsTr w v (q1.num.natAbs % q1.den) k1, fun v _ _ => v = .int .i64 0] (n := 13) (by kernel_rfl) (by kernel_rfl) (by kernel_rfl) (by kernel_rfl) (by kernel_rfl) (by kernel_rfl) (by kernel_rfl) rb_refl rb_trans ⟨sC, ⟨sC, ⟨sC, ⟨sC, ⟨sC, ⟨sTD, ⟨sTD, ⟨sTr, ⟨sTr, ⟨sC, ⟨sTr, ⟨sTr, ⟨sC, trivial⟩⟩⟩⟩⟩⟩⟩⟩⟩⟩⟩⟩⟩ ?_ ?_
  ·refine ⟨⟨⟨⟨⟨⟨⟨⟨⟨⟨⟨⟨⟨trivial, ?_⟩, ?_⟩, ?_⟩, ?_⟩, ?_⟩, ?_⟩, ?_⟩, ?_⟩, ?_⟩, ?_⟩, ?_⟩, ?_⟩, ?_⟩
   ·refine rs_plain rfl rfl fun a wr S => ?_
    have X := rbX S.ext
    exact wp_qf0 (ev_of ((S.old 1 (by kernel_rfl)).trans rfl)) (done (by kernel_rfl) rbu_refl rfl)
   ·refine rs_plain rfl rfl fun a wr S => ?_
    have X := rbX S.ext
    obtain ⟨v0, e0, h0⟩ := S.got 0 (by kernel_rfl)
    exact wp_field1 ((ev_of (e0 9 (by kernel_rfl))).trans h0) (done (by kernel_rfl) rbu_refl rfl)
   ·refine rs_plain rfl rfl fun a wr S => ?_
    have X := rbX S.ext
    obtain ⟨v1, e1, h1⟩ := S.got 1 (by kernel_rfl)
    exact wp_qM ((ev_of (e1 10 (by kernel_rfl))).trans h1) (P1.below X) (done (by kernel_rfl) rbu_refl rfl)
   ·refine rs_plain rfl rfl fun a wr S => ?_
    have X := rbX S.ext
    exact wp_qf1 (ev_of ((S.old 1 (by kernel_rfl)).trans rfl)) (done (by kernel_rfl) rbu_refl rfl)
   ·refine rs_plain rfl rfl fun a wr S => ?_
    have X := rbX S.ext
    obtain ⟨v3, e3, h3⟩ := S.got 3 (by kernel_rfl)
    exact wp_qD ((ev_of (e3 12 (by kernel_rfl))).trans h3) (P1.below X) (done (by kernel_rfl) rbu_refl rfl)
   ·refine rs_plain rfl rfl fun a wr S => ?_
    have X := rbX S.ext
    obtain ⟨v2, e2, h2⟩ := S.got 2 (by kernel_rfl)
    obtain ⟨v4, e4, h4⟩ := S.got 4 (by kernel_rfl)
    exact st_call cf_ref01_Div (args2 ((ev_of (e2 11 (by kernel_rfl))).trans h2) ((ev_of (e4 13 (by kernel_rfl))).trans h4)) (by kernel_rfl) rb (rDiv ⟨_, _, _, rfl, Un.below X⟩ ⟨_, _, _, rfl, Ud.below X⟩ (by omega) (by omega) (Rat.den_nz q1)) (fun _ _ _ h => h)
   ·refine rs_plain rfl rfl fun a wr S => ?_
    have X := rbX S.ext
    obtain ⟨v5, e5, h5⟩ := S.got 5 (by kernel_rfl)
    exact wp_mv (ev_of (e5 14 (by kernel_rfl))) (done (by kernel_rfl) rbu_refl h5)
   ·refine rs_plain rfl rfl fun a wr S => ?_
    have X := rbX S.ext
    obtain ⟨v6, e6, h6⟩ := S.got 6 (by kernel_rfl)
    obtain ⟨AA, nn, cc, A', n', c', hvv, TT, UU⟩ := (show IsTD wr _ (q1.num.natAbs / q1.den) k1 (q1.num.natAbs % q1.den) k1 0 from h6)
    exact wp_x30 ((ev_of (e6 8 (by kernel_rfl))).trans hvv) (done (by kernel_rfl) rbu_refl ⟨_, _, _, rfl, TT⟩)
   ·refine rs_plain rfl rfl fun a wr S => ?_
    have X := rbX S.ext
    obtain ⟨v6, e6, h6⟩ := S.got 6 (by kernel_rfl)
    obtain ⟨AA, nn, cc, A', n', c', hvv, TT, UU⟩ := (show IsTD wr _ (q1.num.natAbs / q1.den) k1 (q1.num.natAbs % q1.den) k1 0 from h6)
    exact wp_x31 ((ev_of (e6 8 (by kernel_rfl))).trans hvv) (done (by kernel_rfl) rbu_refl ⟨_, _, _, rfl, UU⟩)
   ·refine rs_plain rfl rfl fun a wr S => ?_
    have X := rbX S.ext
    obtain ⟨v6, e6, h6⟩ := S.got 6 (by kernel_rfl)
    obtain ⟨AA, nn, cc, A', n', c', hvv, TT, UU⟩ := (show IsTD wr _ (q1.num.natAbs / q1.den) k1 (q1.num.natAbs % q1.den) k1 0 from h6)
    exact wp_x32 ((ev_of (e6 8 (by kernel_rfl))).trans hvv) (done (by kernel_rfl) rbu_refl rfl)
   ·refine rs_plain rfl rfl fun a wr S => ?_
    have X := rbX S.ext
    obtain ⟨v7, e7, h7⟩ := S.got 7 (by kernel_rfl)
    exact wp_as (ev_of (e7 15 (by kernel_rfl))) (done (by kernel_rfl) rbu_refl h7)
   ·refine rs_plain rfl rfl fun a wr S => ?_
    have X := rbX S.ext
    obtain ⟨v8, e8, h8⟩ := S.got 8 (by kernel_rfl)
    exact wp_as (ev_of (e8 16 (by kernel_rfl))) (done (by kernel_rfl) rbu_refl h8)
   ·refine rs_plain rfl rfl fun a wr S => ?_
    have X := rbX S.ext
    obtain ⟨v9, e9, h9⟩ := S.got 9 (by kernel_rfl)
    exact wp_as ((ev_of (e9 17 (by kernel_rfl))).trans h9) (done (by kernel_rfl) rbu_refl rfl)
  ·intro fw3 w3 hR hv hap
   clear hap
   replace hR := rbX hR
   have f0 : fw3 0 = .pointer (some ⟨w.heap.size, 0, none⟩) := (hvc (hv 0 (by omega))).elim fun _ h => h
   have f1 : fw3 1 = .pointer (some ⟨w.heap.size, 1, none⟩) := (hvc (hv 1 (by omega))).elim fun _ h => h
   have f2 : fw3 2 = .slice Ax1x1 nx1x1 cx1x1 := (hvc (hv 2 (by omega))).elim fun _ h => h
   have f3 : fw3 3 = .pointer (some ⟨w.heap.size, 2, none⟩) := (hvc (hv 3 (by omega))).elim fun _ h => h
   have f4 : fw3 4 = .slice Bx1x1 mx1x1 dx1x1 := (hvc (hv 4 (by omega))).elim fun _ h => h
   have f9 : fw3 9 = .int .i64 0 := (hvc (hv 9 (by omega))).elim fun _ h => h
   have f12 : fw3 12 = .int .i64 0 := (hvc (hv 12 (by omega))).elim fun _ h => h
   obtain ⟨Ax2x10, nx2x10, cx2x10, f10, Tx2x10⟩ := (show IsTr w3 _ (q1.num.natAbs / q1.den) k1 from (hvc (hv 10 (by omega))).elim fun _ h => h)
   obtain ⟨Ax2x11, nx2x11, cx2x11, f11, Tx2x11⟩ := (show IsTr w3 _ (q1.num.natAbs % q1.den) k1 from (hvc (hv 11 (by omega))).elim fun _ h => h)
   simp only [putFn, Act.put, List.setIfInBounds_toArray, List.set_cons_zero, List.set_cons_succ, f0, f1, f2, f3, f4, f9, f12, f10, f11]
   replace M1 := M1.below hR
   replace I1 := I1.below hR
   replace D1 := D1.below hR
   replace N1 := N1.below hR
   replace Tx1x1 := Tx1x1.below hR
   replace Un := Un.below hR
   replace Ud := Ud.below hR
   replace P1 := P1.below hR
   replace P2 := P2.below hR
   replace BB := bl_trans BB hR
   clear hR hv
   have Nx2x10 := Tx2x10.nm
   have Nx2x11 := Tx2x11.nm
   go_upto_region 3 with (fail)
   cases bx1x1
   ·skip
    refine wp_seq 8 ?_
    simp only [List.take_succ_cons, List.take_zero, List.drop_succ_cons, List.drop_zero]
    refine wp_seq_list (Ext := RB) (Rel := RBu) [fun v _ _ => v = .pointer (some ⟨w.heap.size, 0, none⟩), fun v _ _ => v = .pointer (some ⟨w.heap.size, 0, none⟩), fun v _ _ => v = .bool false, fun v _ _ => v = .bool false, fun v _ _ => v = undef, fun v _ _ => v = undef, fun v _ _ => v = undef, fun v _ _ => v = Value.bool false] (n := 8) (by kernel_rfl) (by kernel_rfl) (by kernel_rfl) (by kernel_rfl) (by kernel_rfl) (by kernel_rfl) (by kernel_rfl) rb_refl rb_trans ⟨sC, ⟨sC, ⟨sC, ⟨sC, ⟨sC, ⟨sC, ⟨sC, ⟨sC, trivial⟩⟩⟩⟩⟩⟩⟩⟩ ?_ ?_
    ·refine ⟨⟨⟨⟨⟨⟨⟨⟨trivial, ?_⟩, ?_⟩, ?_⟩, ?_⟩, ?_⟩, ?_⟩, ?_⟩, ?_⟩
     ·refine rs_plain rfl rfl fun a wr S => ?_
      have X := rbX S.ext
      exact wp_qf0 (ev_of ((S.old 1 (by kernel_rfl)).trans rfl)) (done (by kernel_rfl) rbu_refl rfl)
     ·refine rs_plain rfl rfl fun a wr S => ?_
      have X := rbX S.ext
      obtain ⟨v0, e0, h0⟩ := S.got 0 (by kernel_rfl)
      exact wp_field0 ((ev_of (e0 18 (by kernel_rfl))).trans h0) (done (by kernel_rfl) rbu_refl rfl)
     ·refine rs_plain rfl rfl fun a wr S => ?_
      have X := rbX S.ext
      obtain ⟨v1, e1, h1⟩ := S.got 1 (by kernel_rfl)
      exact wp_qB ((ev_of (e1 19 (by kernel_rfl))).trans h1) (P1.below X) (done (by kernel_rfl) rbu_refl rfl)
     ·refine rs_plain rfl rfl fun a wr S => ?_
      have X := rbX S.ext
      obtain ⟨v2, e2, h2⟩ := S.got 2 (by kernel_rfl)
      exact wp_mv ((ev_of (e2 20 (by kernel_rfl))).trans h2) (done (by kernel_rfl) rbu_refl rfl)
     ·exact rs_no rfl rfl (by kernel_rfl) (by kernel_rfl : _ = some 21) (fun _ _ _ h => h) (by kernel_rfl) rbu_refl (fun _ _ => rfl)
     ·exact rs_no rfl rfl (by kernel_rfl) (by kernel_rfl : _ = some 21) (fun _ _ _ h => h) (by kernel_rfl) rbu_refl (fun _ _ => rfl)
     ·exact rs_no rfl rfl (by kernel_rfl) (by kernel_rfl : _ = some 21) (fun _ _ _ h => h) (by kernel_rfl) rbu_refl (fun _ _ => rfl)
     ·refine rs_plain rfl rfl fun a wr S => ?_
      have X := rbX S.ext
      obtain ⟨v3, e3, h3⟩ := S.got 3 (by kernel_rfl)
      exact wp_pickF ((ev_of (e3 21 (by kernel_rfl))).trans h3) rfl (done (by kernel_rfl) rbu_refl rfl)
    ·intro fw4 w4 hR hv hap
     clear hap
     replace hR := rbX hR
     have f0 : fw4 0 = .pointer (some ⟨w.heap.size, 0, none⟩) := (hvc (hv 0 (by omega))).elim fun _ h => h
     have f1 : fw4 1 = .pointer (some ⟨w.heap.size, 0, none⟩) := (hvc (hv 1 (by omega))).elim fun _ h => h
     have f2 : fw4 2 = .bool false := (hvc (hv 2 (by omega))).elim fun _ h => h
     have f3 : fw4 3 = .bool false := (hvc (hv 3 (by omega))).elim fun _ h => h
     have f4 : fw4 4 = undef := (hvc (hv 4 (by omega))).elim fun _ h => h
     have f5 : fw4 5 = undef := (hvc (hv 5 (by omega))).elim fun _ h => h
     have f6 : fw4 6 = undef := (hvc (hv 6 (by omega))).elim fun _ h => h
     have f7 : fw4 7 = Value.bool false := (hvc (hv 7 (by omega))).elim fun _ h => h
     simp only [putFn, Act.put, List.setIfInBounds_toArray, List.set_cons_zero, List.set_cons_succ, f0, f1, f2, f3, f4, f5, f6, f7]
     replace M1 := M1.below hR
     replace I1 := I1.below hR
     replace D1 := D1.below hR
     replace N1 := N1.below hR
     replace Tx1x1 := Tx1x1.below hR
     replace Un := Un.below hR
     replace Ud := Ud.below hR
     replace Nx2x10 := Nx2x10.below hR
     replace Tx2x10 := Tx2x10.below hR
     replace Nx2x11 := Nx2x11.below hR
     replace Tx2x11 := Tx2x11.below hR
     replace P1 := P1.below hR
     replace P2 := P2.below hR
     replace BB := bl_trans BB hR
     clear hR hv
     go_upto_region 5 with (fail)
     refine wp_seq 6 ?_
     simp only [List.take_succ_cons, List.take_zero, List.drop_succ_cons, List.drop_zero]
     refine wp_seq_list (Ext := RB) (Rel := RBu) [fun v _ _ => v = .pointer (some ⟨w.heap.size, 0, none⟩), fun v _ _ => v = .pointer (some ⟨w.heap.size, 0, none⟩), fun v _ _ => v = .bool false, fun v _ _ => v = .slice Ax2x10 nx2x10 cx2x10, fun v _ w => IsM w v (zv false (q1.num.natAbs / q1.den)) k1, fun v _ w => IsT w v (zv false (q1.num.natAbs / q1.den)) k1] (n := 6) (by kernel_rfl) (by kernel_rfl) (by kernel_rfl) (by kernel_rfl) (by kernel_rfl) (by kernel_rfl) (by kernel_rfl) rb_refl rb_trans ⟨sC, ⟨sC, ⟨sC, ⟨sC, ⟨sM, ⟨sT, trivial⟩⟩⟩⟩⟩⟩ ?_ ?_
     ·refine ⟨⟨⟨⟨⟨⟨trivial, ?_⟩, ?_⟩, ?_⟩, ?_⟩, ?_⟩, ?_⟩
      ·refine rs_plain rfl rfl fun a wr S => ?_
       have X := rbX S.ext
       exact wp_qf0 (ev_of ((S.old 1 (by kernel_rfl)).trans rfl)) (done (by kernel_rfl) rbu_refl rfl)
      ·refine rs_plain rfl rfl fun a wr S => ?_
       have X := rbX S.ext
       obtain ⟨v0, e0, h0⟩ := S.got 0 (by kernel_rfl)
       exact wp_field0 ((ev_of (e0 29 (by kernel_rfl))).trans h0) (done (by kernel_rfl) rbu_refl rfl)
      ·refine rs_plain rfl rfl fun a wr S => ?_
       have X := rbX S.ext
       obtain ⟨v1, e1, h1⟩ := S.got 1 (by kernel_rfl)
       exact wp_qB ((ev_of (e1 30 (by kernel_rfl))).trans h1) (P1.below X) (done (by kernel_rfl) rbu_refl rfl)
      ·refine rs_plain rfl rfl fun a wr S => ?_
       have X := rbX S.ext
       exact wp_mv (ev_of ((S.old 3 (by kernel_rfl)).trans rfl)) (done (by kernel_rfl) rbu_refl rfl)
      ·refine rs_plain rfl rfl fun a wr S => ?_
       have X := rbX S.ext
       obtain ⟨v2, e2, h2⟩ := S.got 2 (by kernel_rfl)
       obtain ⟨v3, e3, h3⟩ := S.got 3 (by kernel_rfl)
       exact wp_bZ ((ev_of (e2 31 (by kernel_rfl))).trans h2) ((ev_of (e3 32 (by kernel_rfl))).trans h3) (done (by kernel_rfl) rbu_refl ⟨_, _, _, _, rfl, ⟨⟨_, Nx2x10.below X, rfl⟩⟩⟩)
      ·refine rs_plain rfl rfl fun a wr S => ?_
       have X := rbX S.ext
       obtain ⟨v4, e4, h4⟩ := S.got 4 (by kernel_rfl)
       exact st_call cf_ref03_whole (args1 (ev_of (e4 33 (by kernel_rfl)))) (by kernel_rfl) rb (cWhole3 (show IsM _ _ _ _ from h4) (by omega)) (fun _ _ _ h => h)
     ·intro fw5 w5 hR hv hap
      clear hap
      replace hR := rbX hR
      have f0 : fw5 0 = .pointer (some ⟨w.heap.size, 0, none⟩) := (hvc (hv 0 (by omega))).elim fun _ h => h
      have f1 : fw5 1 = .pointer (some ⟨w.heap.size, 0, none⟩) := (hvc (hv 1 (by omega))).elim fun _ h => h
      have f2 : fw5 2 = .bool false := (hvc (hv 2 (by omega))).elim fun _ h => h
      have f3 : fw5 3 = .slice Ax2x10 nx2x10 cx2x10 := (hvc (hv 3 (by omega))).elim fun _ h => h
      obtain ⟨bx5x5, Ax5x5, nx5x5, cx5x5, f5, Tx5x5, sx5x5⟩ := (show IsT w5 _ (zv false (q1.num.natAbs / q1.den)) k1 from (hvc (hv 5 (by omega))).elim fun _ h => h)
      simp only [putFn, Act.put, List.setIfInBounds_toArray, List.set_cons_zero, List.set_cons_succ, f0, f1, f2, f3, f5]
      replace M1 := M1.below hR
      replace I1 := I1.below hR
      replace D1 := D1.below hR
      replace N1 := N1.below hR
      replace Tx1x1 := Tx1x1.below hR
      replace Un := Un.below hR
      replace Ud := Ud.below hR
      replace Nx2x10 := Nx2x10.below hR
      replace Tx2x10 := Tx2x10.below hR
      replace Nx2x11 := Nx2x11.below hR
      replace Tx2x11 := Tx2x11.below hR
      replace P1 := P1.below hR
      replace P2 := P2.below hR
      replace BB := bl_trans BB hR
      clear hR hv
      have Vx5x5 : IsT w5 (.agg #[.bool bx5x5, .slice Ax5x5 nx5x5 cx5x5]) (zv false (q1.num.natAbs / q1.den)) k1 := ⟨_, _, _, _, rfl, Tx5x5, sx5x5⟩
      have Nx5x5 := Tx5x5.nm
      have Sx5x5 := Lib.hid sx5x5
      clear sx5x5
      have r20 := P2.c0
      have t20 := P2.f 0
      have r21 := P2.c1
      have t21 := P2.f 1
      go_wp2_with fail
      clear r20 t20 r21 t21
      have KR := kr_put2 (b' := bx5x5) (A' := Ax5x5) (n' := nx5x5) (c' := cx5x5) P2
      replace M1 := M1.kr KR
      replace I1 := I1.kr KR
      replace D1 := D1.kr KR
      replace N1 := N1.kr KR
      replace Tx1x1 := Tx1x1.kr KR
      replace Un := Un.kr KR
      replace Ud := Ud.kr KR
      replace Nx2x10 := Nx2x10.kr KR
      replace Tx2x10 := Tx2x10.kr KR
      replace Nx2x11 := Nx2x11.kr KR
      replace Tx2x11 := Tx2x11.kr KR
      replace Vx5x5 := Vx5x5.kr KR
      replace Nx5x5 := Nx5x5.kr KR
      replace Tx5x5 := Tx5x5.kr KR
      replace P1 := P1.put2 (g := (w.heap.size + 1)) (b' := bx5x5) (A' := Ax5x5) (n' := nx5x5) (c' := cx5x5) (by omega)
      replace BB := Below.put2 (g := (w.heap.size + 1)) (b' := bx5x5) (A' := Ax5x5) (n' := nx5x5) (c' := cx5x5) BB (by omega)
      replace P2 := P2.set2 (b' := bx5x5) (A' := Ax5x5) (n' := nx5x5) (c' := cx5x5)
      clear KR
      generalize World.setCell _ ⟨w.heap.size + 1, 1, none⟩ _ = w6 at M1 I1 D1 N1 Tx1x1 Un Ud Nx2x10 Tx2x10 Nx2x11 Tx2x11 Vx5x5 Nx5x5 Tx5x5 P1 P2 BB ⊢
      have rc0 := P2.c0
      have rc1 := P2.c1
      exact bodyPost_ret (v := .agg #[.bool bx5x5, .slice Ax5x5 nx5x5 cx5x5]) (by simp [results, Tryz.results34, go_sem, rc0, rc1]) rfl ⟨_, rfl, BB, by rw [fl_pos HB.out] at Vx5x5; exact Vx5x5.mono (by omega)⟩
   ·by_cases hr : q1.num.natAbs % q1.den = 0
    ·have HE := Lib.hid hr
     clear hr
     refine wp_seq 8 ?_
     simp only [List.take_succ_cons, List.take_zero, List.drop_succ_cons, List.drop_zero]
     refine wp_seq_list (Ext := RB) (Rel := RBu) [fun v _ _ => v = .pointer (some ⟨w.heap.size, 0, none⟩), fun v _ _ => v = .pointer (some ⟨w.heap.size, 0, none⟩), fun v _ _ => v = .bool true, fun v _ _ => v = .bool true, fun v _ _ => v = .slice Ax2x11 nx2x11 cx2x11, fun v _ _ => v = .int .i64 ((M.lims (q1.num.natAbs % q1.den)).length : Int), fun v _ _ => v = .bool false, fun v _ _ => v = .bool false] (n := 8) (by kernel_rfl) (by kernel_rfl) (by kernel_rfl) (by kernel_rfl) (by kernel_rfl) (by kernel_rfl) (by kernel_rfl) rb_refl rb_trans ⟨sC, ⟨sC, ⟨sC, ⟨sC, ⟨sC, ⟨sC, ⟨sC, ⟨sC, trivial⟩⟩⟩⟩⟩⟩⟩⟩ ?_ ?_
     ·refine ⟨⟨⟨⟨⟨⟨⟨⟨trivial, ?_⟩, ?_⟩, ?_⟩, ?_⟩, ?_⟩, ?_⟩, ?_⟩, ?_⟩
      ·refine rs_plain rfl rfl fun a wr S => ?_
       have X := rbX S.ext
       exact wp_qf0 (ev_of ((S.old 1 (by kernel_rfl)).trans rfl)) (done (by kernel_rfl) rbu_refl rfl)
      ·refine rs_plain rfl rfl fun a wr S => ?_
       have X := rbX S.ext
       obtain ⟨v0, e0, h0⟩ := S.got 0 (by kernel_rfl)
       exact wp_field0 ((ev_of (e0 18 (by kernel_rfl))).trans h0) (done (by kernel_rfl) rbu_refl rfl)
      ·refine rs_plain rfl rfl fun a wr S => ?_
       have X := rbX S.ext
       obtain ⟨v1, e1, h1⟩ := S.got 1 (by kernel_rfl)
       exact wp_qB ((ev_of (e1 19 (by kernel_rfl))).trans h1) (P1.below X) (done (by kernel_rfl) rbu_refl rfl)
      ·refine rs_plain rfl rfl fun a wr S => ?_
       have X := rbX S.ext
       obtain ⟨v2, e2, h2⟩ := S.got 2 (by kernel_rfl)
       exact wp_mv ((ev_of (e2 20 (by kernel_rfl))).trans h2) (done (by kernel_rfl) rbu_refl rfl)
      ·refine rs_yes rfl rfl (by kernel_rfl) (by kernel_rfl : _ = some 21) (fun _ _ _ h => h) fun a wr S => ?_
       have X := rbX S.ext
       exact wp_mv (ev_of ((S.old 4 (by kernel_rfl)).trans rfl)) (done (by kernel_rfl) rbu_refl rfl)
      ·refine rs_yes rfl rfl (by kernel_rfl) (by kernel_rfl : _ = some 21) (fun _ _ _ h => h) fun a wr S => ?_
       have X := rbX S.ext
       obtain ⟨v4, e4, h4⟩ := S.got 4 (by kernel_rfl)
       exact wp_lenR ((ev_of (e4 22 (by kernel_rfl))).trans h4) (done (by kernel_rfl) rbu_refl (congrArg (fun n : Nat => Value.int .i64 (n : Int)) (Tx2x11.below X).rd.len.symm))
      ·refine rs_yes rfl rfl (by kernel_rfl) (by kernel_rfl : _ = some 21) (fun _ _ _ h => h) fun a wr S => ?_
       have X := rbX S.ext
       obtain ⟨v5, e5, h5⟩ := S.got 5 (by kernel_rfl)
       exact wp_gtI ((ev_of (e5 23 (by kernel_rfl))).trans h5) rfl (done (by kernel_rfl) rbu_refl (congrArg Value.bool (by rw [len_pos]; exact decide_eq_false (by have := HE.out; omega))))
      ·refine rs_plain rfl rfl fun a wr S => ?_
       have X := rbX S.ext
       obtain ⟨v3, e3, h3⟩ := S.got 3 (by kernel_rfl)
       obtain ⟨v6, e6, h6⟩ := S.got 6 (by kernel_rfl)
       exact wp_pickT ((ev_of (e3 21 (by kernel_rfl))).trans h3) ((ev_of (e6 24 (by kernel_rfl))).trans h6) (done (by kernel_rfl) rbu_refl rfl)
     ·intro fw7 w7 hR hv hap
      clear hap
      replace hR := rbX hR
      have f0 : fw7 0 = .pointer (some ⟨w.heap.size, 0, none⟩) := (hvc (hv 0 (by omega))).elim fun _ h => h
      have f1 : fw7 1 = .pointer (some ⟨w.heap.size, 0, none⟩) := (hvc (hv 1 (by omega))).elim fun _ h => h
      have f2 : fw7 2 = .bool true := (hvc (hv 2 (by omega))).elim fun _ h => h
      have f3 : fw7 3 = .bool true := (hvc (hv 3 (by omega))).elim fun _ h => h
      have f4 : fw7 4 = .slice Ax2x11 nx2x11 cx2x11 := (hvc (hv 4 (by omega))).elim fun _ h => h
      have f5 : fw7 5 = .int .i64 ((M.lims (q1.num.natAbs % q1.den)).length : Int) := (hvc (hv 5 (by omega))).elim fun _ h => h
      have f6 : fw7 6 = .bool false := (hvc (hv 6 (by omega))).elim fun _ h => h
      have f7 : fw7 7 = .bool false := (hvc (hv 7 (by omega))).elim fun _ h => h
      simp only [putFn, Act.put, List.setIfInBounds_toArray, List.set_cons_zero, List.set_cons_succ, f0, f1, f2, f3, f4, f5, f6, f7]
      replace M1 := M1.below hR
      replace I1 := I1.below hR
      replace D1 := D1.below hR
      replace N1 := N1.below hR
      replace Tx1x1 := Tx1x1.below hR
      replace Un := Un.below hR
      replace Ud := Ud.below hR
      replace Nx2x10 := Nx2x10.below hR
      replace Tx2x10 := Tx2x10.below hR
      replace Nx2x11 := Nx2x11.below hR
      replace Tx2x11 := Tx2x11.below hR
      replace P1 := P1.below hR
      replace P2 := P2.below hR
      replace BB := bl_trans BB hR
      clear hR hv
      go_upto_region 5 with (fail)
      refine wp_seq 6 ?_
      simp only [List.take_succ_cons, List.take_zero, List.drop_succ_cons, List.drop_zero]
      refine wp_seq_list (Ext := RB) (Rel := RBu) [fun v _ _ => v = .pointer (some ⟨w.heap.size, 0, none⟩), fun v _ _ => v = .pointer (some ⟨w.heap.size, 0, none⟩), fun v _ _ => v = .bool true, fun v _ _ => v = .slice Ax2x10 nx2x10 cx2x10, fun v _ w => IsM w v (zv true (q1.num.natAbs / q1.den)) k1, fun v _ w => IsT w v (zv true (q1.num.natAbs / q1.den)) k1] (n := 6) (by kernel_rfl) (by kernel_rfl) (by kernel_rfl) (by kernel_rfl) (by kernel_rfl) (by kernel_rfl) (by kernel_rfl) rb_refl rb_trans ⟨sC, ⟨sC, ⟨sC, ⟨sC, ⟨sM, ⟨sT, trivial⟩⟩⟩⟩⟩⟩ ?_ ?_
      ·refine ⟨⟨⟨⟨⟨⟨trivial, ?_⟩, ?_⟩, ?_⟩, ?_⟩, ?_⟩, ?_⟩
       ·refine rs_plain rfl rfl fun a wr S => ?_
        have X := rbX S.ext
        exact wp_qf0 (ev_of ((S.old 1 (by kernel_rfl)).trans rfl)) (done (by kernel_rfl) rbu_refl rfl)
       ·refine rs_plain rfl rfl fun a wr S => ?_
        have X := rbX S.ext
        obtain ⟨v0, e0, h0⟩ := S.got 0 (by kernel_rfl)
        exact wp_field0 ((ev_of (e0 29 (by kernel_rfl))).trans h0) (done (by kernel_rfl) rbu_refl rfl)
       ·refine rs_plain rfl rfl fun a wr S => ?_
        have X := rbX S.ext
        obtain ⟨v1, e1, h1⟩ := S.got 1 (by kernel_rfl)
        exact wp_qB ((ev_of (e1 30 (by kernel_rfl))).trans h1) (P1.below X) (done (by kernel_rfl) rbu_refl rfl)
       ·refine rs_plain rfl rfl fun a wr S => ?_
        have X := rbX S.ext
        exact wp_mv (ev_of ((S.old 3 (by kernel_rfl)).trans rfl)) (done (by kernel_rfl) rbu_refl rfl)
       ·refine rs_plain rfl rfl fun a wr S => ?_
        have X := rbX S.ext
        obtain ⟨v2, e2, h2⟩ := S.got 2 (by kernel_rfl)
        obtain ⟨v3, e3, h3⟩ := S.got 3 (by kernel_rfl)
        exact wp_bZ ((ev_of (e2 31 (by kernel_rfl))).trans h2) ((ev_of (e3 32 (by kernel_rfl))).trans h3) (done (by kernel_rfl) rbu_refl ⟨_, _, _, _, rfl, ⟨⟨_, Nx2x10.below X, rfl⟩⟩⟩)
       ·refine rs_plain rfl rfl fun a wr S => ?_
        have X := rbX S.ext
        obtain ⟨v4, e4, h4⟩ := S.got 4 (by kernel_rfl)
        exact st_call cf_ref03_whole (args1 (ev_of (e4 33 (by kernel_rfl)))) (by kernel_rfl) rb (cWhole3 (show IsM _ _ _ _ from h4) (by omega)) (fun _ _ _ h => h)
      ·intro fw8 w8 hR hv hap
       clear hap
       replace hR := rbX hR
       have f0 : fw8 0 = .pointer (some ⟨w.heap.size, 0, none⟩) := (hvc (hv 0 (by omega))).elim fun _ h => h
       have f1 : fw8 1 = .pointer (some ⟨w.heap.size, 0, none⟩) := (hvc (hv 1 (by omega))).elim fun _ h => h
       have f2 : fw8 2 = .bool true := (hvc (hv 2 (by omega))).elim fun _ h => h
       have f3 : fw8 3 = .slice Ax2x10 nx2x10 cx2x10 := (hvc (hv 3 (by omega))).elim fun _ h => h
       obtain ⟨bx5x5, Ax5x5, nx5x5, cx5x5, f5, Tx5x5, sx5x5⟩ := (show IsT w8 _ (zv true (q1.num.natAbs / q1.den)) k1 from (hvc (hv 5 (by omega))).elim fun _ h => h)
       simp only [putFn, Act.put, List.setIfInBounds_toArray, List.set_cons_zero, List.set_cons_succ, f0, f1, f2, f3, f5]
       replace M1 := M1.below hR
       replace I1 := I1.below hR
       replace D1 := D1.below hR
       replace N1 := N1.below hR
       replace Tx1x1 := Tx1x1.below hR
       replace Un := Un.below hR
       replace Ud := Ud.below hR
       replace Nx2x10 := Nx2x10.below hR
       replace Tx2x10 := Tx2x10.below hR
       replace Nx2x11 := Nx2x11.below hR
       replace Tx2x11 := Tx2x11.below hR
       replace P1 := P1.below hR
       replace P2 := P2.below hR
       replace BB := bl_trans BB hR
       clear hR hv
       have Vx5x5 : IsT w8 (.agg #[.bool bx5x5, .slice Ax5x5 nx5x5 cx5x5]) (zv true (q1.num.natAbs / q1.den)) k1 := ⟨_, _, _, _, rfl, Tx5x5, sx5x5⟩
       have Nx5x5 := Tx5x5.nm
       have Sx5x5 := Lib.hid sx5x5
       clear sx5x5
       have r20 := P2.c0
       have t20 := P2.f 0
       have r21 := P2.c1
       have t21 := P2.f 1
       go_wp2_with fail
       clear r20 t20 r21 t21
       have KR := kr_put2 (b' := bx5x5) (A' := Ax5x5) (n' := nx5x5) (c' := cx5x5) P2
       replace M1 := M1.kr KR
       replace I1 := I1.kr KR
       replace D1 := D1.kr KR
       replace N1 := N1.kr KR
       replace Tx1x1 := Tx1x1.kr KR
       replace Un := Un.kr KR
       replace Ud := Ud.kr KR
       replace Nx2x10 := Nx2x10.kr KR
       replace Tx2x10 := Tx2x10.kr KR
       replace Nx2x11 := Nx2x11.kr KR
       replace Tx2x11 := Tx2x11.kr KR
       replace Vx5x5 := Vx5x5.kr KR
       replace Nx5x5 := Nx5x5.kr KR
       replace Tx5x5 := Tx5x5.kr KR
       replace P1 := P1.put2 (g := (w.heap.size + 1)) (b' := bx5x5) (A' := Ax5x5) (n' := nx5x5) (c' := cx5x5) (by omega)
       replace BB := Below.put2 (g := (w.heap.size + 1)) (b' := bx5x5) (A' := Ax5x5) (n' := nx5x5) (c' := cx5x5) BB (by omega)
       replace P2 := P2.set2 (b' := bx5x5) (A' := Ax5x5) (n' := nx5x5) (c' := cx5x5)
       clear KR
       generalize World.setCell _ ⟨w.heap.size + 1, 1, none⟩ _ = w9 at M1 I1 D1 N1 Tx1x1 Un Ud Nx2x10 Tx2x10 Nx2x11 Tx2x11 Vx5x5 Nx5x5 Tx5x5 P1 P2 BB ⊢
       have rc0 := P2.c0
       have rc1 := P2.c1
       exact bodyPost_ret (v := .agg #[.bool bx5x5, .slice Ax5x5 nx5x5 cx5x5]) (by simp [results, Tryz.results34, go_sem, rc0, rc1]) rfl ⟨_, rfl, BB, by rw [fl_dvd HB.out HE.out] at Vx5x5; exact Vx5x5.mono (by omega)⟩
    ·have HE := Lib.hid hr
     clear hr
     refine wp_seq 8 ?_
     simp only [List.take_succ_cons, List.take_zero, List.drop_succ_cons, List.drop_zero]
     refine wp_seq_list (Ext := RB) (Rel := RBu) [fun v _ _ => v = .pointer (some ⟨w.heap.size, 0, none⟩), fun v _ _ => v = .pointer (some ⟨w.heap.size, 0, none⟩), fun v _ _ => v = .bool true, fun v _ _ => v = .bool true, fun v _ _ => v = .slice Ax2x11 nx2x11 cx2x11, fun v _ _ => v = .int .i64 ((M.lims (q1.num.natAbs % q1.den)).length : Int), fun v _ _ => v = .bool true, fun v _ _ => v = .bool true] (n := 8) (by kernel_rfl) (by kernel_rfl) (by kernel_rfl) (by kernel_rfl) (by kernel_rfl) (by kernel_rfl) (by kernel_rfl) rb_refl rb_trans ⟨sC, ⟨sC, ⟨sC, ⟨sC, ⟨sC, ⟨sC, ⟨sC, ⟨sC, trivial⟩⟩⟩⟩⟩⟩⟩⟩ ?_ ?_
     ·refine ⟨⟨⟨⟨⟨⟨⟨⟨trivial, ?_⟩, ?_⟩, ?_⟩, ?_⟩, ?_⟩, ?_⟩, ?_⟩, ?_⟩
      ·refine rs_plain rfl rfl fun a wr S => ?_
       have X := rbX S.ext
       exact wp_qf0 (ev_of ((S.old 1 (by kernel_rfl)).trans rfl)) (done (by kernel_rfl) rbu_refl rfl)
      ·refine rs_plain rfl rfl fun a wr S => ?_
       have X := rbX S.ext
       obtain ⟨v0, e0, h0⟩ := S.got 0 (by kernel_rfl)
       exact wp_field0 ((ev_of (e0 18 (by kernel_rfl))).trans h0) (done (by kernel_rfl) rbu_refl rfl)
      ·refine rs_plain rfl rfl fun a wr S => ?_
       have X := rbX S.ext
       obtain ⟨v1, e1, h1⟩ := S.got 1 (by kernel_rfl)
       exact wp_qB ((ev_of (e1 19 (by kernel_rfl))).trans h1) (P1.below X) (done (by kernel_rfl) rbu_refl rfl)
      ·refine rs_plain rfl rfl fun a wr S => ?_
       have X := rbX S.ext
       obtain ⟨v2, e2, h2⟩ := S.got 2 (by kernel_rfl)
       exact wp_mv ((ev_of (e2 20 (by kernel_rfl))).trans h2) (done (by kernel_rfl) rbu_refl rfl)
      ·refine rs_yes rfl rfl (by kernel_rfl) (by kernel_rfl : _ = some 21) (fun _ _ _ h => h) fun a wr S => ?_
       have X := rbX S.ext
       exact wp_mv (ev_of ((S.old 4 (by kernel_rfl)).trans rfl)) (done (by kernel_rfl) rbu_refl rfl)
      ·refine rs_yes rfl rfl (by kernel_rfl) (by kernel_rfl : _ = some 21) (fun _ _ _ h => h) fun a wr S => ?_
       have X := rbX S.ext
       obtain ⟨v4, e4, h4⟩ := S.got 4 (by kernel_rfl)
       exact wp_lenR ((ev_of (e4 22 (by kernel_rfl))).trans h4) (done (by kernel_rfl) rbu_refl (congrArg (fun n : Nat => Value.int .i64 (n : Int)) (Tx2x11.below X).rd.len.symm))
      ·refine rs_yes rfl rfl (by kernel_rfl) (by kernel_rfl : _ = some 21) (fun _ _ _ h => h) fun a wr S => ?_
       have X := rbX S.ext
       obtain ⟨v5, e5, h5⟩ := S.got 5 (by kernel_rfl)
       exact wp_gtI ((ev_of (e5 23 (by kernel_rfl))).trans h5) rfl (done (by kernel_rfl) rbu_refl (congrArg Value.bool (by rw [len_pos]; exact decide_eq_true (by have := HE.out; omega))))
      ·refine rs_plain rfl rfl fun a wr S => ?_
       have X := rbX S.ext
       obtain ⟨v3, e3, h3⟩ := S.got 3 (by kernel_rfl)
       obtain ⟨v6, e6, h6⟩ := S.got 6 (by kernel_rfl)
       exact wp_pickT ((ev_of (e3 21 (by kernel_rfl))).trans h3) ((ev_of (e6 24 (by kernel_rfl))).trans h6) (done (by kernel_rfl) rbu_refl rfl)
     ·intro fw10 w10 hR hv hap
      clear hap
      replace hR := rbX hR
      have f0 : fw10 0 = .pointer (some ⟨w.heap.size, 0, none⟩) := (hvc (hv 0 (by omega))).elim fun _ h => h
      have f1 : fw10 1 = .pointer (some ⟨w.heap.size, 0, none⟩) := (hvc (hv 1 (by omega))).elim fun _ h => h
      have f2 : fw10 2 = .bool true := (hvc (hv 2 (by omega))).elim fun _ h => h
      have f3 : fw10 3 = .bool true := (hvc (hv 3 (by omega))).elim fun _ h => h
      have f4 : fw10 4 = .slice Ax2x11 nx2x11 cx2x11 := (hvc (hv 4 (by omega))).elim fun _ h => h
      have f5 : fw10 5 = .int .i64 ((M.lims (q1.num.natAbs % q1.den)).length : Int) := (hvc (hv 5 (by omega))).elim fun _ h => h
      have f6 : fw10 6 = .bool true := (hvc (hv 6 (by omega))).elim fun _ h => h
      have f7 : fw10 7 = .bool true := (hvc (hv 7 (by omega))).elim fun _ h => h
      simp only [putFn, Act.put, List.setIfInBounds_toArray, List.set_cons_zero, List.set_cons_succ, f0, f1, f2, f3, f4, f5, f6, f7]
      replace M1 := M1.below hR
      replace I1 := I1.below hR
      replace D1 := D1.below hR
      replace N1 := N1.below hR
      replace Tx1x1 := Tx1x1.below hR
      replace Un := Un.below hR
      replace Ud := Ud.below hR
      replace Nx2x10 := Nx2x10.below hR
      replace Tx2x10 := Tx2x10.below hR
      replace Nx2x11 := Nx2x11.below hR
      replace Tx2x11 := Tx2x11.below hR
      replace P1 := P1.below hR
      replace P2 := P2.below hR
      replace BB := bl_trans BB hR
      clear hR hv
      go_upto_region 4 with (fail)
      refine wp_seq 4 ?_
      simp only [List.take_succ_cons, List.take_zero, List.drop_succ_cons, List.drop_zero]
      refine wp_seq_list (Ext := RB) (Rel := RBu) [fun v _ _ => v = .slice Ax2x10 nx2x10 cx2x10, fun v _ w => IsTr w v (1) 1, fun v _ w => IsTr w v ((q1.num.natAbs / q1.den) + 1) ((max k1 1) + 1), fun v _ w => IsTr w v ((q1.num.natAbs / q1.den) + 1) ((max k1 1) + 1)] (n := 4) (by kernel_rfl) (by kernel_rfl) (by kernel_rfl) (by kernel_rfl) (by kernel_rfl) (by kernel_rfl) (by kernel_rfl) rb_refl rb_trans ⟨sC, ⟨sTr, ⟨sTr, ⟨sTr, trivial⟩⟩⟩⟩ ?_ ?_
      ·refine ⟨⟨⟨⟨trivial, ?_⟩, ?_⟩, ?_⟩, ?_⟩
       ·refine rs_plain rfl rfl fun a wr S => ?_
        have X := rbX S.ext
        exact wp_mv (ev_of ((S.old 3 (by kernel_rfl)).trans rfl)) (done (by kernel_rfl) rbu_refl rfl)
       ·refine rs_plain rfl rfl fun a wr S => ?_
        have X := rbX S.ext
        exact wp_bsL1 (done' (by kernel_rfl) (rb _ _ _ (bl_alloc _ _)) (litTr1 wr))
       ·refine rs_plain rfl rfl fun a wr S => ?_
        have X := rbX S.ext
        obtain ⟨v0, e0, h0⟩ := S.got 0 (by kernel_rfl)
        obtain ⟨v1, e1, h1⟩ := S.got 1 (by kernel_rfl)
        exact st_call cf_ref01_Add (args2 ((ev_of (e0 26 (by kernel_rfl))).trans h0) (ev_of (e1 27 (by kernel_rfl)))) (by kernel_rfl) rb (rAdd ⟨_, _, _, rfl, Nx2x10.below X⟩ (show IsTr _ _ _ _ from h1).n (by omega) (by omega)) (fun _ _ _ h => h)
       ·refine rs_plain rfl rfl fun a wr S => ?_
        have X := rbX S.ext
        obtain ⟨v2, e2, h2⟩ := S.got 2 (by kernel_rfl)
        exact wp_as (ev_of (e2 28 (by kernel_rfl))) (done (by kernel_rfl) rbu_refl h2)
      ·intro fw11 w11 hR hv hap
       clear hap
       replace hR := rbX hR
       have f0 : fw11 0 = .slice Ax2x10 nx2x10 cx2x10 := (hvc (hv 0 (by omega))).elim fun _ h => h
       obtain ⟨Ax4x3, nx4x3, cx4x3, f3, Tx4x3⟩ := (show IsTr w11 _ ((q1.num.natAbs / q1.den) + 1) ((max k1 1) + 1) from (hvc (hv 3 (by omega))).elim fun _ h => h)
       simp only [putFn, Act.put, List.setIfInBounds_toArray, List.set_cons_zero, List.set_cons_succ, f0, f3]
       replace M1 := M1.below hR
       replace I1 := I1.below hR
       replace D1 := D1.below hR
       replace N1 := N1.below hR
       replace Tx1x1 := Tx1x1.below hR
       replace Un := Un.below hR
       replace Ud := Ud.below hR
       replace Nx2x10 := Nx2x10.below hR
       replace Tx2x10 := Tx2x10.below hR
       replace Nx2x11 := Nx2x11.below hR
       replace Tx2x11 := Tx2x11.below hR
       replace P1 := P1.below hR
       replace P2 := P2.below hR
       replace BB := bl_trans BB hR
       clear hR hv
       have Nx4x3 := Tx4x3.nm
       go_upto_region 5 with (fail)
       refine wp_seq 6 ?_
       simp only [List.take_succ_cons, List.take_zero, List.drop_succ_cons, List.drop_zero]
       refine wp_seq_list (Ext := RB) (Rel := RBu) [fun v _ _ => v = .pointer (some ⟨w.heap.size, 0, none⟩), fun v _ _ => v = .pointer (some ⟨w.heap.size, 0, none⟩), fun v _ _ => v = .bool true, fun v _ _ => v = .slice Ax4x3 nx4x3 cx4x3, fun v _ w => IsM w v (zv true ((q1.num.natAbs / q1.den) + 1)) ((max k1 1) + 1), fun v _ w => IsT w v (zv true ((q1.num.natAbs / q1.den) + 1)) ((max k1 1) + 1)] (n := 6) (by kernel_rfl) (by kernel_rfl) (by kernel_rfl) (by kernel_rfl) (by kernel_rfl) (by kernel_rfl) (by kernel_rfl) rb_refl rb_trans ⟨sC, ⟨sC, ⟨sC, ⟨sC, ⟨sM, ⟨sT, trivial⟩⟩⟩⟩⟩⟩ ?_ ?_
       ·refine ⟨⟨⟨⟨⟨⟨trivial, ?_⟩, ?_⟩, ?_⟩, ?_⟩, ?_⟩, ?_⟩
        ·refine rs_plain rfl rfl fun a wr S => ?_
         have X := rbX S.ext
         exact wp_qf0 (ev_of ((S.old 1 (by kernel_rfl)).trans rfl)) (done (by kernel_rfl) rbu_refl rfl)
        ·refine rs_plain rfl rfl fun a wr S => ?_
         have X := rbX S.ext
         obtain ⟨v0, e0, h0⟩ := S.got 0 (by kernel_rfl)
         exact wp_field0 ((ev_of (e0 29 (by kernel_rfl))).trans h0) (done (by kernel_rfl) rbu_refl rfl)
        ·refine rs_plain rfl rfl fun a wr S => ?_
         have X := rbX S.ext
         obtain ⟨v1, e1, h1⟩ := S.got 1 (by kernel_rfl)
         exact wp_qB ((ev_of (e1 30 (by kernel_rfl))).trans h1) (P1.below X) (done (by kernel_rfl) rbu_refl rfl)
        ·refine rs_plain rfl rfl fun a wr S => ?_
         have X := rbX S.ext
         exact wp_mv (ev_of ((S.old 3 (by kernel_rfl)).trans rfl)) (done (by kernel_rfl) rbu_refl rfl)
        ·refine rs_plain rfl rfl fun a wr S => ?_
         have X := rbX S.ext
         obtain ⟨v2, e2, h2⟩ := S.got 2 (by kernel_rfl)
         obtain ⟨v3, e3, h3⟩ := S.got 3 (by kernel_rfl)
         exact wp_bZ ((ev_of (e2 31 (by kernel_rfl))).trans h2) ((ev_of (e3 32 (by kernel_rfl))).trans h3) (done (by kernel_rfl) rbu_refl ⟨_, _, _, _, rfl, ⟨⟨_, Nx4x3.below X, rfl⟩⟩⟩)
        ·refine rs_plain rfl rfl fun a wr S => ?_
         have X := rbX S.ext
         obtain ⟨v4, e4, h4⟩ := S.got 4 (by kernel_rfl)
         exact st_call cf_ref03_whole (args1 (ev_of (e4 33 (by kernel_rfl)))) (by kernel_rfl) rb (cWhole3 (show IsM _ _ _ _ from h4) (by omega)) (fun _ _ _ h => h)
       ·intro fw12 w12 hR hv hap
        clear hap
        replace hR := rbX hR
        have f0 : fw12 0 = .pointer (some ⟨w.heap.size, 0, none⟩) := (hvc (hv 0 (by omega))).elim fun _ h => h
        have f1 : fw12 1 = .pointer (some ⟨w.heap.size, 0, none⟩) := (hvc (hv 1 (by omega))).elim fun _ h => h
        have f2 : fw12 2 = .bool true := (hvc (hv 2 (by omega))).elim fun _ h => h
        have f3 : fw12 3 = .slice Ax4x3 nx4x3 cx4x3 := (hvc (hv 3 (by omega))).elim fun _ h => h
        obtain ⟨bx5x5, Ax5x5, nx5x5, cx5x5, f5, Tx5x5, sx5x5⟩ := (show IsT w12 _ (zv true ((q1.num.natAbs / q1.den) + 1)) ((max k1 1) + 1) from (hvc (hv 5 (by omega))).elim fun _ h => h)
        simp only [putFn, Act.put, List.setIfInBounds_toArray, List.set_cons_zero, List.set_cons_succ, f0, f1, f2, f3, f5]
        replace M1 := M1.below hR
        replace I1 := I1.below hR
        replace D1 := D1.below hR
        replace N1 := N1.below hR
        replace Tx1x1 := Tx1x1.below hR
        replace Un := Un.below hR
        replace Ud := Ud.below hR
        replace Nx2x10 := Nx2x10.below hR
        replace Tx2x10 := Tx2x10.below hR
        replace Nx2x11 := Nx2x11.below hR
        replace Tx2x11 := Tx2x11.below hR
        replace Nx4x3 := Nx4x3.below hR
        replace Tx4x3 := Tx4x3.below hR
        replace P1 := P1.below hR
        replace P2 := P2.below hR
        replace BB := bl_trans BB hR
        clear hR hv
        have Vx5x5 : IsT w12 (.agg #[.bool bx5x5, .slice Ax5x5 nx5x5 cx5x5]) (zv true ((q1.num.natAbs / q1.den) + 1)) ((max k1 1) + 1) := ⟨_, _, _, _, rfl, Tx5x5, sx5x5⟩
        have Nx5x5 := Tx5x5.nm
        have Sx5x5 := Lib.hid sx5x5
        clear sx5x5
        have r20 := P2.c0
        have t20 := P2.f 0
        have r21 := P2.c1
        have t21 := P2.f 1
        go_wp2_with fail
        clear r20 t20 r21 t21
        have KR := kr_put2 (b' := bx5x5) (A' := Ax5x5) (n' := nx5x5) (c' := cx5x5) P2
        replace M1 := M1.kr KR
        replace I1 := I1.kr KR
        replace D1 := D1.kr KR
        replace N1 := N1.kr KR
        replace Tx1x1 := Tx1x1.kr KR
        replace Un := Un.kr KR
        replace Ud := Ud.kr KR
        replace Nx2x10 := Nx2x10.kr KR
        replace Tx2x10 := Tx2x10.kr KR
        replace Nx2x11 := Nx2x11.kr KR
        replace Tx2x11 := Tx2x11.kr KR
        replace Nx4x3 := Nx4x3.kr KR
        replace Tx4x3 := Tx4x3.kr KR
        replace Vx5x5 := Vx5x5.kr KR
        replace Nx5x5 := Nx5x5.kr KR
        replace Tx5x5 := Tx5x5.kr KR
        replace P1 := P1.put2 (g := (w.heap.size + 1)) (b' := bx5x5) (A' := Ax5x5) (n' := nx5x5) (c' := cx5x5) (by omega)
        replace BB := Below.put2 (g := (w.heap.size + 1)) (b' := bx5x5) (A' := Ax5x5) (n' := nx5x5) (c' := cx5x5) BB (by omega)
        replace P2 := P2.set2 (b' := bx5x5) (A' := Ax5x5) (n' := nx5x5) (c' := cx5x5)
        clear KR
        generalize World.setCell _ ⟨w.heap.size + 1, 1, none⟩ _ = w13 at M1 I1 D1 N1 Tx1x1 Un Ud Nx2x10 Tx2x10 Nx2x11 Tx2x11 Nx4x3 Tx4x3 Vx5x5 Nx5x5 Tx5x5 P1 P2 BB ⊢
        have rc0 := P2.c0
        have rc1 := P2.c1
        exact bodyPost_ret (v := .agg #[.bool bx5x5, .slice Ax5x5 nx5x5 cx5x5]) (by simp [results, Tryz.results34, go_sem, rc0, rc1]) rfl ⟨_, rfl, BB, by rw [fl_neg HB.out HE.out] at Vx5x5; exact Vx5x5.mono (by omega)⟩
theorem cCeil3 (h1 : IsQm w v1 q1 k1) (hk1 : k1 ≤ 800) (g1 : 1 ≤ k1) : Calls Tryz.prog 36 #[v1] w (Ans w fun w' v => IsT w' v (q1.ceil) (k1 + 1)) := by
 have M1 := h1
 obtain ⟨b1, A1, n1, c1, B1, m1, d1, rfl, z1, y1, zz, D1, hq1⟩ := h1
 have I1 : IsM w (.agg #[.bool b1, .slice A1 n1 c1]) z1 _ := ⟨_, _, _, _, rfl, zz⟩
 obtain ⟨x1, N1, hz1⟩ := zz.row
 have HQ1 := Lib.hid hq1
 have HZ1 := Lib.hid hz1
 clear zz hq1 hz1
 have BB := (bl_trans (bl_alloc w (.cells #[.bool b1, .slice A1 n1 c1, .slice B1 m1 d1] 26)) (bl_alloc _ (.cells #[.bool false, .slice none 0 0] 24)))
 replace M1 := M1.below BB
 replace I1 := I1.below BB
 replace D1 := D1.below BB
 replace N1 := N1.below BB
 have P1 := (Bq.new w b1 A1 n1 c1 B1 m1 d1).alloc (.cells #[.bool false, .slice none 0 0] 24)
 have P2 := Bz.new (w.alloc (.cells #[.bool b1, .slice A1 n1 c1, .slice B1 m1 d1] 26)) false none 0 0
 simp only [hs_alloc] at P2
 go_enter Tryz.func36, Tryz.ntmps36
 go_upto_region 1 with (fail)
 generalize ((w.alloc (.cells #[.bool b1, .slice A1 n1 c1, .slice B1 m1 d1] 26)).alloc (.cells #[.bool false, .slice none 0 0] 24)) = w0 at M1 I1 D1 N1 P1 P2 BB ⊢
 refine wp_seq 4 ?_
 simp only [List.take_succ_cons, List.take_zero, List.drop_succ_cons, List.drop_zero]
 refine wp_seq_list (Ext := RB) (Rel := RBu) [fun v _ _ => v = .agg #[.bool b1, .slice A1 n1 c1, .slice B1 m1 d1], fun v _ w => IsQt w v (-q1) k1, fun v _ w => IsT w v ((-q1).floor) (k1 + 1), fun v _ w => IsT w v (-((-q1).floor)) (k1 + 1)] (n := 4) (by kernel_rfl) (by kernel_rfl) (by kernel_rfl) (by kernel_rfl) (by kernel_rfl) (by kernel_rfl) (by kernel_rfl) rb_refl rb_trans ⟨sC, ⟨sQt, ⟨sT, ⟨sT, trivial⟩⟩⟩⟩ ?_ ?_
 ·refine ⟨⟨⟨⟨trivial, ?_⟩, ?_⟩, ?_⟩, ?_⟩
  ·refine rs_plain rfl rfl fun a wr S => ?_
   have X := rbX S.ext
   exact wp_qload (ev_of ((S.old 1 (by kernel_rfl)).trans rfl)) (P1.below X) (done (by kernel_rfl) rbu_refl rfl)
  ·refine rs_plain rfl rfl fun a wr S => ?_
   have X := rbX S.ext
   obtain ⟨v0, e0, h0⟩ := S.got 0 (by kernel_rfl)
   exact st_call cf_ref03_Neg (args1 ((ev_of (e0 3 (by kernel_rfl))).trans h0)) (by kernel_rfl) rb (cNeg3 (show IsQm _ _ _ _ from (M1.below X)) (by omega) (by omega)) (fun _ _ _ h => h)
  ·refine rs_plain rfl rfl fun a wr S => ?_
   have X := rbX S.ext
   obtain ⟨v1, e1, h1⟩ := S.got 1 (by kernel_rfl)
   exact st_call cf_ref03_Floor (args1 (ev_of (e1 4 (by kernel_rfl)))) (by kernel_rfl) rb (cFloor3 (show IsQm _ _ _ _ from (show IsQt _ _ _ _ from h1).m) (by omega) (by omega)) (fun _ _ _ h => h)
  ·refine rs_plain rfl rfl fun a wr S => ?_
   have X := rbX S.ext
   obtain ⟨v2, e2, h2⟩ := S.got 2 (by kernel_rfl)
   exact st_call cf_ref03_less (args1 (ev_of (e2 5 (by kernel_rfl)))) (by kernel_rfl) rb (cLess3 (show IsM _ _ _ _ from h2.m) (by omega)) (fun _ _ _ h => h)
 ·intro fw1 w1 hR hv hap
  clear hap
  replace hR := rbX hR
  have f0 : fw1 0 = .agg #[.bool b1, .slice A1 n1 c1, .slice B1 m1 d1] := (hvc (hv 0 (by omega))).elim fun _ h => h
  obtain ⟨bx1x3, Ax1x3, nx1x3, cx1x3, f3, Tx1x3, sx1x3⟩ := (show IsT w1 _ (-((-q1).floor)) (k1 + 1) from (hvc (hv 3 (by omega))).elim fun _ h => h)
  simp only [putFn, Act.put, List.setIfInBounds_toArray, List.set_cons_zero, List.set_cons_succ, f0, f3]
  replace M1 := M1.below hR
  replace I1 := I1.below hR
  replace D1 := D1.below hR
  replace N1 := N1.below hR
  replace P1 := P1.below hR
  replace P2 := P2.below hR
  replace BB := bl_trans BB hR
  clear hR hv
  have Vx1x3 : IsT w1 (.agg #[.bool bx1x3, .slice Ax1x3 nx1x3 cx1x3]) (-((-q1).floor)) (k1 + 1) := ⟨_, _, _, _, rfl, Tx1x3, sx1x3⟩
  have Nx1x3 := Tx1x3.nm
  have Sx1x3 := Lib.hid sx1x3
  clear sx1x3
  have r20 := P2.c0
  have t20 := P2.f 0
  have r21 := P2.c1
  have t21 := P2.f 1
  go_wp2_with fail
  clear r20 t20 r21 t21
  have KR := kr_put2 (b' := bx1x3) (A' := Ax1x3) (n' := nx1x3) (c' := cx1x3) P2
  replace M1 := M1.kr KR
  replace I1 := I1.kr KR
  replace D1 := D1.kr KR
  replace N1 := N1.kr KR
  replace Vx1x3 := Vx1x3.kr KR
  replace Nx1x3 := Nx1x3.kr KR
  replace Tx1x3 := Tx1x3.kr KR
  replace P1 := P1.put2 (g := (w.heap.size + 1)) (b' := bx1x3) (A' := Ax1x3) (n' := nx1x3) (c' := cx1x3) (by omega)
  replace BB := Below.put2 (g := (w.heap.size + 1)) (b' := bx1x3) (A' := Ax1x3) (n' := nx1x3) (c' := cx1x3) BB (by omega)
  replace P2 := P2.set2 (b' := bx1x3) (A' := Ax1x3) (n' := nx1x3) (c' := cx1x3)
  clear KR
  generalize World.setCell _ ⟨w.heap.size + 1, 1, none⟩ _ = w2 at M1 I1 D1 N1 Vx1x3 Nx1x3 Tx1x3 P1 P2 BB ⊢
  have rc0 := P2.c0
  have rc1 := P2.c1
  exact bodyPost_ret (v := .agg #[.bool bx1x3, .slice Ax1x3 nx1x3 cx1x3]) (by simp [results, Tryz.results36, go_sem, rc0, rc1]) rfl ⟨_, rfl, BB, by rw [← Rat.ceil_eq_neg_floor_neg] at Vx1x3; exact Vx1x3⟩
end
end Go.Proofs.YtbhgbilhoonopaaGreat
namespace Go.Proofs.YtbhgbilhoonopaaGreat
open Go.RowKit
set_option linter.unusedVariables false
set_option maxRecDepth 100000

section
variable {w : World} {v v' v1 : Value} {q1 : Rat} {x y k j k1 : Nat}
theorem cf_ref01_Same : CallsF 73 := fun args w => by go_simp
theorem rSame (h : IsTr w v x k) (g : IsTr w v' y j) (hk : k ≤ 1000) (hj : j ≤ 1000) : Calls Tryz.prog 73 #[v, v'] w (Ans w fun _ r => r = .bool (decide (x = y))) := by
 obtain ⟨A, n, c, rfl, h⟩ := h
 obtain ⟨B, m, d, rfl, g⟩ := g
 have hl := h.le
 have gl := g.le
 refine (Same_any _ _ _ _ _ _ _ _ _ h.rd g.rd (by omega) (by omega)).mono ?_
 rintro e w' ⟨rfl, hb⟩
 exact ⟨_, rfl, hb, congrArg Value.bool (decide_eq_decide.2 M.lims_inj)⟩
theorem txtQ_of (s : Bool) (hs : s = decide (q1.num < 0)) : (if q1.den = 1 then (if s then [45] ++ M.txt q1.num.natAbs else M.txt q1.num.natAbs) else (if s then [45] ++ M.txt q1.num.natAbs else M.txt q1.num.natAbs) ++ [47] ++ M.txt q1.den) = txtQ q1 := by
 have e : (if s then [45] ++ M.txt q1.num.natAbs else M.txt q1.num.natAbs) = txtZ q1.num := by
  subst hs
  unfold txtZ
  by_cases h : q1.num < 0
  ·rw [decide_eq_true h, if_pos rfl, if_pos h]; rfl
  ·rw [decide_eq_false h, if_neg (by decide), if_neg h]
 rw [e]
 rfl
set_option maxHeartbeats 2000000
theorem cText3 (h1 : IsQm w v1 q1 k1) (hk1 : k1 ≤ 900) (g1 : 1 ≤ k1) : Calls Tryz.prog 38 #[v1] w (Ans w fun _ v => IsS v (txtQ q1)) := by
 have M1 := h1
 obtain ⟨b1, A1, n1, c1, B1, m1, d1, rfl, z1, y1, zz, D1, hq1⟩ := h1
 have I1 : IsM w (.agg #[.bool b1, .slice A1 n1 c1]) z1 _ := ⟨_, _, _, _, rfl, zz⟩
 obtain ⟨x1, N1, hz1⟩ := zz.row
 have HQ1 := Lib.hid hq1
 have HZ1 := Lib.hid hz1
 clear zz hq1 hz1
 have BB := (bl_alloc w (.cells #[.bool b1, .slice A1 n1 c1, .slice B1 m1 d1] 26))
 replace M1 := M1.below BB
 replace I1 := I1.below BB
 replace D1 := D1.below BB
 replace N1 := N1.below BB
 have P1 := Bq.new w b1 A1 n1 c1 B1 m1 d1
 go_enter Tryz.func38, Tryz.ntmps38
 go_upto_region 1 with (fail)
 generalize (w.alloc (.cells #[.bool b1, .slice A1 n1 c1, .slice B1 m1 d1] 26)) = w0 at M1 I1 D1 N1 P1 BB ⊢
 refine wp_seq 2 ?_
 simp only [List.take_succ_cons, List.take_zero, List.drop_succ_cons, List.drop_zero]
 refine wp_seq_list (Ext := RB) (Rel := RBu) [fun v _ _ => v = .agg #[.bool b1, .slice A1 n1 c1, .slice B1 m1 d1], fun v _ w => IsQt w v (q1) k1] (n := 2) (by kernel_rfl) (by kernel_rfl) (by kernel_rfl) (by kernel_rfl) (by kernel_rfl) (by kernel_rfl) (by kernel_rfl) rb_refl rb_trans ⟨sC, ⟨sQt, trivial⟩⟩ ?_ ?_
 ·refine ⟨⟨trivial, ?_⟩, ?_⟩
  ·refine rs_plain rfl rfl fun a wr S => ?_
   have X := rbX S.ext
   exact wp_qload (ev_of ((S.old 1 (by kernel_rfl)).trans rfl)) (P1.below X) (done (by kernel_rfl) rbu_refl rfl)
  ·refine rs_plain rfl rfl fun a wr S => ?_
   have X := rbX S.ext
   obtain ⟨v0, e0, h0⟩ := S.got 0 (by kernel_rfl)
   exact st_call cf_ref03_Made (args1 ((ev_of (e0 4 (by kernel_rfl))).trans h0)) (by kernel_rfl) rb (cMade3 (show IsQm _ _ _ _ from (M1.below X)) (by omega) (by omega)) (fun _ _ _ h => h)
 ·intro fw1 w1 hR hv hap
  clear hap
  replace hR := rbX hR
  have f0 : fw1 0 = .agg #[.bool b1, .slice A1 n1 c1, .slice B1 m1 d1] := (hvc (hv 0 (by omega))).elim fun _ h => h
  obtain ⟨bx1x1, Ax1x1, nx1x1, cx1x1, Bx1x1, mx1x1, dx1x1, f1, Tx1x1⟩ := (show IsQt w1 _ (q1) k1 from (hvc (hv 1 (by omega))).elim fun _ h => h).opened
  simp only [putFn, Act.put, List.setIfInBounds_toArray, List.set_cons_zero, List.set_cons_succ, f0, f1]
  replace M1 := M1.below hR
  replace I1 := I1.below hR
  replace D1 := D1.below hR
  replace N1 := N1.below hR
  replace P1 := P1.below hR
  replace BB := bl_trans BB hR
  clear hR hv
  have r10 := P1.c0
  have t10 := P1.f 0
  have r11 := P1.c1
  have t11 := P1.f 1
  have r12 := P1.c2
  have t12 := P1.f 2
  go_upto_region 2 with (fail)
  clear r10 t10 r11 t11 r12 t12
  have KR := kr_put3 (b' := bx1x1) (A' := Ax1x1) (n' := nx1x1) (c' := cx1x1) (B' := Bx1x1) (m' := mx1x1) (d' := dx1x1) P1
  replace M1 := M1.kr KR
  replace I1 := I1.kr KR
  replace D1 := D1.kr KR
  replace N1 := N1.kr KR
  replace Tx1x1 := Tx1x1.kr KR
  replace BB := Below.put3 (g := w.heap.size) (b' := bx1x1) (A' := Ax1x1) (n' := nx1x1) (c' := cx1x1) (B' := Bx1x1) (m' := mx1x1) (d' := dx1x1) BB (by omega)
  replace P1 := P1.set3 (b' := bx1x1) (A' := Ax1x1) (n' := nx1x1) (c' := cx1x1) (B' := Bx1x1) (m' := mx1x1) (d' := dx1x1)
  clear KR
  generalize World.setCell _ ⟨w.heap.size, 2, none⟩ _ = w2 at M1 I1 D1 N1 Tx1x1 P1 BB ⊢
  have HB := Lib.hid (txtQ_of _ Tx1x1.pb)
  have L1 := txt_len Tx1x1.num_lt
  have L2 := txt_len Tx1x1.den_lt
  have Un := Tx1x1.pn.nm
  have Ud := Tx1x1.pd.nm
  have Td := Tx1x1.pd
  refine wp_seq 5 ?_
  simp only [List.take_succ_cons, List.take_zero, List.drop_succ_cons, List.drop_zero]
  refine wp_seq_list (Ext := RB) (Rel := RBu) [fun v _ _ => v = .pointer (some ⟨w.heap.size, 0, none⟩), fun v _ _ => v = .pointer (some ⟨w.heap.size, 1, none⟩), fun v _ _ => v = .slice Ax1x1 nx1x1 cx1x1, fun v _ _ => IsS v (M.txt q1.num.natAbs), fun v _ _ => IsS v (M.txt q1.num.natAbs)] (n := 5) (by kernel_rfl) (by kernel_rfl) (by kernel_rfl) (by kernel_rfl) (by kernel_rfl) (by kernel_rfl) (by kernel_rfl) rb_refl rb_trans ⟨sC, ⟨sC, ⟨sC, ⟨sS, ⟨sS, trivial⟩⟩⟩⟩⟩ ?_ ?_
  ·refine ⟨⟨⟨⟨⟨trivial, ?_⟩, ?_⟩, ?_⟩, ?_⟩, ?_⟩
   ·refine rs_plain rfl rfl fun a wr S => ?_
    have X := rbX S.ext
    exact wp_qf0 (ev_of ((S.old 1 (by kernel_rfl)).trans rfl)) (done (by kernel_rfl) rbu_refl rfl)
   ·refine rs_plain rfl rfl fun a wr S => ?_
    have X := rbX S.ext
    obtain ⟨v0, e0, h0⟩ := S.got 0 (by kernel_rfl)
    exact wp_field1 ((ev_of (e0 6 (by kernel_rfl))).trans h0) (done (by kernel_rfl) rbu_refl rfl)
   ·refine rs_plain rfl rfl fun a wr S => ?_
    have X := rbX S.ext
    obtain ⟨v1, e1, h1⟩ := S.got 1 (by kernel_rfl)
    exact wp_qM ((ev_of (e1 7 (by kernel_rfl))).trans h1) (P1.below X) (done (by kernel_rfl) rbu_refl rfl)
   ·refine rs_plain rfl rfl fun a wr S => ?_
    have X := rbX S.ext
    obtain ⟨v2, e2, h2⟩ := S.got 2 (by kernel_rfl)
    exact st_call cf_ref01_Text (args1 ((ev_of (e2 8 (by kernel_rfl))).trans h2)) (by kernel_rfl) rb (rText ⟨_, _, _, rfl, Un.below X⟩ (by omega)) (fun _ _ _ h => h)
   ·refine rs_plain rfl rfl fun a wr S => ?_
    have X := rbX S.ext
    obtain ⟨v3, e3, h3⟩ := S.got 3 (by kernel_rfl)
    exact wp_as (ev_of (e3 9 (by kernel_rfl))) (done (by kernel_rfl) rbu_refl h3)
  ·intro fw3 w3 hR hv hap
   clear hap
   replace hR := rbX hR
   have f0 : fw3 0 = .pointer (some ⟨w.heap.size, 0, none⟩) := (hvc (hv 0 (by omega))).elim fun _ h => h
   have f1 : fw3 1 = .pointer (some ⟨w.heap.size, 1, none⟩) := (hvc (hv 1 (by omega))).elim fun _ h => h
   have f2 : fw3 2 = .slice Ax1x1 nx1x1 cx1x1 := (hvc (hv 2 (by omega))).elim fun _ h => h
   obtain ⟨sx2x4, f4, hx2x4⟩ := (show IsS _ _ from (hvc (hv 4 (by omega))).elim fun _ h => h)
   simp only [putFn, Act.put, List.setIfInBounds_toArray, List.set_cons_zero, List.set_cons_succ, f0, f1, f2, f4]
   replace M1 := M1.below hR
   replace I1 := I1.below hR
   replace D1 := D1.below hR
   replace N1 := N1.below hR
   replace Tx1x1 := Tx1x1.below hR
   replace Un := Un.below hR
   replace Ud := Ud.below hR
   replace Td := Td.below hR
   replace P1 := P1.below hR
   replace BB := bl_trans BB hR
   clear hR hv
   have Hx2x4 := Lib.hid hx2x4
   clear hx2x4
   go_upto_region 3 with (fail)
   cases bx1x1
   ·by_cases hd : q1.den = 1
    ·have HE := Lib.hid hd
     have HT := HB.out
     rw [if_pos hd] at HT
     simp only [Bool.false_eq_true, if_false] at HT
     have HT := Lib.hid HT
     clear hd HB
     refine wp_seq 3 ?_
     simp only [List.take_succ_cons, List.take_zero, List.drop_succ_cons, List.drop_zero]
     refine wp_seq_list (Ext := RB) (Rel := RBu) [fun v _ _ => v = .pointer (some ⟨w.heap.size, 0, none⟩), fun v _ _ => v = .pointer (some ⟨w.heap.size, 0, none⟩), fun v _ _ => v = .bool false] (n := 3) (by kernel_rfl) (by kernel_rfl) (by kernel_rfl) (by kernel_rfl) (by kernel_rfl) (by kernel_rfl) (by kernel_rfl) rb_refl rb_trans ⟨sC, ⟨sC, ⟨sC, trivial⟩⟩⟩ ?_ ?_
     ·refine ⟨⟨⟨trivial, ?_⟩, ?_⟩, ?_⟩
      ·refine rs_plain rfl rfl fun a wr S => ?_
       have X := rbX S.ext
       exact wp_qf0 (ev_of ((S.old 1 (by kernel_rfl)).trans rfl)) (done (by kernel_rfl) rbu_refl rfl)
      ·refine rs_plain rfl rfl fun a wr S => ?_
       have X := rbX S.ext
       obtain ⟨v0, e0, h0⟩ := S.got 0 (by kernel_rfl)
       exact wp_field0 ((ev_of (e0 10 (by kernel_rfl))).trans h0) (done (by kernel_rfl) rbu_refl rfl)
      ·refine rs_plain rfl rfl fun a wr S => ?_
       have X := rbX S.ext
       obtain ⟨v1, e1, h1⟩ := S.got 1 (by kernel_rfl)
       exact wp_qB ((ev_of (e1 11 (by kernel_rfl))).trans h1) (P1.below X) (done (by kernel_rfl) rbu_refl rfl)
     ·intro fw4 w4 hR hv hap
      clear hap
      replace hR := rbX hR
      have f0 : fw4 0 = .pointer (some ⟨w.heap.size, 0, none⟩) := (hvc (hv 0 (by omega))).elim fun _ h => h
      have f1 : fw4 1 = .pointer (some ⟨w.heap.size, 0, none⟩) := (hvc (hv 1 (by omega))).elim fun _ h => h
      have f2 : fw4 2 = .bool false := (hvc (hv 2 (by omega))).elim fun _ h => h
      simp only [putFn, Act.put, List.setIfInBounds_toArray, List.set_cons_zero, List.set_cons_succ, f0, f1, f2]
      replace M1 := M1.below hR
      replace I1 := I1.below hR
      replace D1 := D1.below hR
      replace N1 := N1.below hR
      replace Tx1x1 := Tx1x1.below hR
      replace Un := Un.below hR
      replace Ud := Ud.below hR
      replace Td := Td.below hR
      replace P1 := P1.below hR
      replace BB := bl_trans BB hR
      clear hR hv
      go_upto_region 5 with (fail)
      refine wp_seq 5 ?_
      simp only [List.take_succ_cons, List.take_zero, List.drop_succ_cons, List.drop_zero]
      refine wp_seq_list (Ext := RB) (Rel := RBu) [fun v _ _ => v = .pointer (some ⟨w.heap.size, 2, none⟩), fun v _ _ => v = .slice Bx1x1 mx1x1 dx1x1, fun v _ w => IsTr w v (1) 1, fun v _ _ => v = .bool true, fun v _ _ => v = .bool false] (n := 5) (by kernel_rfl) (by kernel_rfl) (by kernel_rfl) (by kernel_rfl) (by kernel_rfl) (by kernel_rfl) (by kernel_rfl) rb_refl rb_trans ⟨sC, ⟨sC, ⟨sTr, ⟨sC, ⟨sC, trivial⟩⟩⟩⟩⟩ ?_ ?_
      ·refine ⟨⟨⟨⟨⟨trivial, ?_⟩, ?_⟩, ?_⟩, ?_⟩, ?_⟩
       ·refine rs_plain rfl rfl fun a wr S => ?_
        have X := rbX S.ext
        exact wp_qf1 (ev_of ((S.old 1 (by kernel_rfl)).trans rfl)) (done (by kernel_rfl) rbu_refl rfl)
       ·refine rs_plain rfl rfl fun a wr S => ?_
        have X := rbX S.ext
        obtain ⟨v0, e0, h0⟩ := S.got 0 (by kernel_rfl)
        exact wp_qD ((ev_of (e0 15 (by kernel_rfl))).trans h0) (P1.below X) (done (by kernel_rfl) rbu_refl rfl)
       ·refine rs_plain rfl rfl fun a wr S => ?_
        have X := rbX S.ext
        exact wp_bsL1 (done' (by kernel_rfl) (rb _ _ _ (bl_alloc _ _)) (litTr1 wr))
       ·refine rs_plain rfl rfl fun a wr S => ?_
        have X := rbX S.ext
        obtain ⟨v1, e1, h1⟩ := S.got 1 (by kernel_rfl)
        obtain ⟨v2, e2, h2⟩ := S.got 2 (by kernel_rfl)
        exact st_call cf_ref01_Same (args2 ((ev_of (e1 16 (by kernel_rfl))).trans h1) (ev_of (e2 17 (by kernel_rfl)))) (by kernel_rfl) rb ((rSame (show IsTr _ _ _ _ from ⟨_, _, _, rfl, Td.below X⟩) (show IsTr _ _ _ _ from h2) (by omega) (by omega)).mono (ansB (decide_eq_true HE.out))) (fun _ _ _ h => h)
       ·refine rs_plain rfl rfl fun a wr S => ?_
        have X := rbX S.ext
        obtain ⟨v3, e3, h3⟩ := S.got 3 (by kernel_rfl)
        exact wp_not ((ev_of (e3 18 (by kernel_rfl))).trans h3) (done (by kernel_rfl) rbu_refl rfl)
      ·intro fw5 w5 hR hv hap
       clear hap
       replace hR := rbX hR
       have f0 : fw5 0 = .pointer (some ⟨w.heap.size, 2, none⟩) := (hvc (hv 0 (by omega))).elim fun _ h => h
       have f1 : fw5 1 = .slice Bx1x1 mx1x1 dx1x1 := (hvc (hv 1 (by omega))).elim fun _ h => h
       have f3 : fw5 3 = .bool true := (hvc (hv 3 (by omega))).elim fun _ h => h
       have f4 : fw5 4 = .bool false := (hvc (hv 4 (by omega))).elim fun _ h => h
       simp only [putFn, Act.put, List.setIfInBounds_toArray, List.set_cons_zero, List.set_cons_succ, f0, f1, f3, f4]
       replace M1 := M1.below hR
       replace I1 := I1.below hR
       replace D1 := D1.below hR
       replace N1 := N1.below hR
       replace Tx1x1 := Tx1x1.below hR
       replace Un := Un.below hR
       replace Ud := Ud.below hR
       replace Td := Td.below hR
       replace P1 := P1.below hR
       replace BB := bl_trans BB hR
       clear hR hv
       go_upto_region 7 with (fail)
       refine wp_seq 2 ?_
       simp only [List.take_succ_cons, List.take_zero, List.drop_succ_cons, List.drop_zero]
       refine wp_seq_list (Ext := RB) (Rel := RBu) [fun v _ _ => v = .string sx2x4, fun v _ _ => v = .string sx2x4] (n := 2) (by kernel_rfl) (by kernel_rfl) (by kernel_rfl) (by kernel_rfl) (by kernel_rfl) (by kernel_rfl) (by kernel_rfl) rb_refl rb_trans ⟨sC, ⟨sC, trivial⟩⟩ ?_ ?_
       ·refine ⟨⟨trivial, ?_⟩, ?_⟩
        ·refine rs_plain rfl rfl fun a wr S => ?_
         have X := rbX S.ext
         exact wp_mv (ev_of ((S.old 3 (by kernel_rfl)).trans rfl)) (done (by kernel_rfl) rbu_refl rfl)
        ·refine rs_plain rfl rfl fun a wr S => ?_
         have X := rbX S.ext
         obtain ⟨v0, e0, h0⟩ := S.got 0 (by kernel_rfl)
         exact wp_as ((ev_of (e0 26 (by kernel_rfl))).trans h0) (done (by kernel_rfl) rbu_refl rfl)
       ·intro fw6 w6 hR hv hap
        clear hap
        replace hR := rbX hR
        have f0 : fw6 0 = .string sx2x4 := (hvc (hv 0 (by omega))).elim fun _ h => h
        have f1 : fw6 1 = .string sx2x4 := (hvc (hv 1 (by omega))).elim fun _ h => h
        simp only [putFn, Act.put, List.setIfInBounds_toArray, List.set_cons_zero, List.set_cons_succ, f0, f1]
        replace M1 := M1.below hR
        replace I1 := I1.below hR
        replace D1 := D1.below hR
        replace N1 := N1.below hR
        replace Tx1x1 := Tx1x1.below hR
        replace Un := Un.below hR
        replace Ud := Ud.below hR
        replace Td := Td.below hR
        replace P1 := P1.below hR
        replace BB := bl_trans BB hR
        clear hR hv
        go_wp2_with fail
        go_ret
        exact ⟨_, rfl, BB, by rw [← HT.out]; exact ⟨_, rfl, Hx2x4.out⟩⟩
    ·have HE := Lib.hid hd
     have HT := HB.out
     rw [if_neg hd] at HT
     simp only [Bool.false_eq_true, if_false] at HT
     have HT := Lib.hid HT
     clear hd HB
     refine wp_seq 3 ?_
     simp only [List.take_succ_cons, List.take_zero, List.drop_succ_cons, List.drop_zero]
     refine wp_seq_list (Ext := RB) (Rel := RBu) [fun v _ _ => v = .pointer (some ⟨w.heap.size, 0, none⟩), fun v _ _ => v = .pointer (some ⟨w.heap.size, 0, none⟩), fun v _ _ => v = .bool false] (n := 3) (by kernel_rfl) (by kernel_rfl) (by kernel_rfl) (by kernel_rfl) (by kernel_rfl) (by kernel_rfl) (by kernel_rfl) rb_refl rb_trans ⟨sC, ⟨sC, ⟨sC, trivial⟩⟩⟩ ?_ ?_
     ·refine ⟨⟨⟨trivial, ?_⟩, ?_⟩, ?_⟩
      ·refine rs_plain rfl rfl fun a wr S => ?_
       have X := rbX S.ext
       exact wp_qf0 (ev_of ((S.old 1 (by kernel_rfl)).trans rfl)) (done (by kernel_rfl) rbu_refl rfl)
      ·refine rs_plain rfl rfl fun a wr S => ?_
       have X := rbX S.ext
       obtain ⟨v0, e0, h0⟩ := S.got 0 (by kernel_rfl)
       exact wp_field0 ((ev_of (e0 10 (by kernel_rfl))).trans h0) (done (by kernel_rfl) rbu_refl rfl)
      ·refine rs_plain rfl rfl fun a wr S => ?_
       have X := rbX S.ext
       obtain ⟨v1, e1, h1⟩ := S.got 1 (by kernel_rfl)
       exact wp_qB ((ev_of (e1 11 (by kernel_rfl))).trans h1) (P1.below X) (done (by kernel_rfl) rbu_refl rfl)
     ·intro fw7 w7 hR hv hap
      clear hap
      replace hR := rbX hR
      have f0 : fw7 0 = .pointer (some ⟨w.heap.size, 0, none⟩) := (hvc (hv 0 (by omega))).elim fun _ h => h
      have f1 : fw7 1 = .pointer (some ⟨w.heap.size, 0, none⟩) := (hvc (hv 1 (by omega))).elim fun _ h => h
      have f2 : fw7 2 = .bool false := (hvc (hv 2 (by omega))).elim fun _ h => h
      simp only [putFn, Act.put, List.setIfInBounds_toArray, List.set_cons_zero, List.set_cons_succ, f0, f1, f2]
      replace M1 := M1.below hR
      replace I1 := I1.below hR
      replace D1 := D1.below hR
      replace N1 := N1.below hR
      replace Tx1x1 := Tx1x1.below hR
      replace Un := Un.below hR
      replace Ud := Ud.below hR
      replace Td := Td.below hR
      replace P1 := P1.below hR
      replace BB := bl_trans BB hR
      clear hR hv
      go_upto_region 5 with (fail)
      refine wp_seq 5 ?_
      simp only [List.take_succ_cons, List.take_zero, List.drop_succ_cons, List.drop_zero]
      refine wp_seq_list (Ext := RB) (Rel := RBu) [fun v _ _ => v = .pointer (some ⟨w.heap.size, 2, none⟩), fun v _ _ => v = .slice Bx1x1 mx1x1 dx1x1, fun v _ w => IsTr w v (1) 1, fun v _ _ => v = .bool false, fun v _ _ => v = .bool true] (n := 5) (by kernel_rfl) (by kernel_rfl) (by kernel_rfl) (by kernel_rfl) (by kernel_rfl) (by kernel_rfl) (by kernel_rfl) rb_refl rb_trans ⟨sC, ⟨sC, ⟨sTr, ⟨sC, ⟨sC, trivial⟩⟩⟩⟩⟩ ?_ ?_
      ·refine ⟨⟨⟨⟨⟨trivial, ?_⟩, ?_⟩, ?_⟩, ?_⟩, ?_⟩
       ·refine rs_plain rfl rfl fun a wr S => ?_
        have X := rbX S.ext
        exact wp_qf1 (ev_of ((S.old 1 (by kernel_rfl)).trans rfl)) (done (by kernel_rfl) rbu_refl rfl)
       ·refine rs_plain rfl rfl fun a wr S => ?_
        have X := rbX S.ext
        obtain ⟨v0, e0, h0⟩ := S.got 0 (by kernel_rfl)
        exact wp_qD ((ev_of (e0 15 (by kernel_rfl))).trans h0) (P1.below X) (done (by kernel_rfl) rbu_refl rfl)
       ·refine rs_plain rfl rfl fun a wr S => ?_
        have X := rbX S.ext
        exact wp_bsL1 (done' (by kernel_rfl) (rb _ _ _ (bl_alloc _ _)) (litTr1 wr))
       ·refine rs_plain rfl rfl fun a wr S => ?_
        have X := rbX S.ext
        obtain ⟨v1, e1, h1⟩ := S.got 1 (by kernel_rfl)
        obtain ⟨v2, e2, h2⟩ := S.got 2 (by kernel_rfl)
        exact st_call cf_ref01_Same (args2 ((ev_of (e1 16 (by kernel_rfl))).trans h1) (ev_of (e2 17 (by kernel_rfl)))) (by kernel_rfl) rb ((rSame (show IsTr _ _ _ _ from ⟨_, _, _, rfl, Td.below X⟩) (show IsTr _ _ _ _ from h2) (by omega) (by omega)).mono (ansB (decide_eq_false HE.out))) (fun _ _ _ h => h)
       ·refine rs_plain rfl rfl fun a wr S => ?_
        have X := rbX S.ext
        obtain ⟨v3, e3, h3⟩ := S.got 3 (by kernel_rfl)
        exact wp_not ((ev_of (e3 18 (by kernel_rfl))).trans h3) (done (by kernel_rfl) rbu_refl rfl)
      ·intro fw8 w8 hR hv hap
       clear hap
       replace hR := rbX hR
       have f0 : fw8 0 = .pointer (some ⟨w.heap.size, 2, none⟩) := (hvc (hv 0 (by omega))).elim fun _ h => h
       have f1 : fw8 1 = .slice Bx1x1 mx1x1 dx1x1 := (hvc (hv 1 (by omega))).elim fun _ h => h
       have f3 : fw8 3 = .bool false := (hvc (hv 3 (by omega))).elim fun _ h => h
       have f4 : fw8 4 = .bool true := (hvc (hv 4 (by omega))).elim fun _ h => h
       simp only [putFn, Act.put, List.setIfInBounds_toArray, List.set_cons_zero, List.set_cons_succ, f0, f1, f3, f4]
       replace M1 := M1.below hR
       replace I1 := I1.below hR
       replace D1 := D1.below hR
       replace N1 := N1.below hR
       replace Tx1x1 := Tx1x1.below hR
       replace Un := Un.below hR
       replace Ud := Ud.below hR
       replace Td := Td.below hR
       replace P1 := P1.below hR
       replace BB := bl_trans BB hR
       clear hR hv
       go_upto_region 6 with (fail)
       refine wp_seq 7 ?_
       simp only [List.take_succ_cons, List.take_zero, List.drop_succ_cons, List.drop_zero]
       refine wp_seq_list (Ext := RB) (Rel := RBu) [fun v _ _ => v = .string sx2x4, fun v _ _ => IsS v (M.txt q1.num.natAbs ++ [47]), fun v _ _ => v = .pointer (some ⟨w.heap.size, 2, none⟩), fun v _ _ => v = .slice Bx1x1 mx1x1 dx1x1, fun v _ _ => IsS v (M.txt q1.den), fun v _ _ => IsS v (M.txt q1.num.natAbs ++ [47] ++ M.txt q1.den), fun v _ _ => IsS v (M.txt q1.num.natAbs ++ [47] ++ M.txt q1.den)] (n := 7) (by kernel_rfl) (by kernel_rfl) (by kernel_rfl) (by kernel_rfl) (by kernel_rfl) (by kernel_rfl) (by kernel_rfl) rb_refl rb_trans ⟨sC, ⟨sS, ⟨sC, ⟨sC, ⟨sS, ⟨sS, ⟨sS, trivial⟩⟩⟩⟩⟩⟩⟩ ?_ ?_
       ·refine ⟨⟨⟨⟨⟨⟨⟨trivial, ?_⟩, ?_⟩, ?_⟩, ?_⟩, ?_⟩, ?_⟩, ?_⟩
        ·refine rs_plain rfl rfl fun a wr S => ?_
         have X := rbX S.ext
         exact wp_mv (ev_of ((S.old 3 (by kernel_rfl)).trans rfl)) (done (by kernel_rfl) rbu_refl rfl)
        ·refine rs_plain rfl rfl fun a wr S => ?_
         have X := rbX S.ext
         obtain ⟨v0, e0, h0⟩ := S.got 0 (by kernel_rfl)
         exact wp_addSS ((ev_of (e0 20 (by kernel_rfl))).trans h0) ⟨_, rfl, Hx2x4.out⟩ rfl (show IsS _ [47] from ⟨_, rfl, rfl⟩) (by first | omega | (simp only [List.length_cons, List.length_nil]; omega) | (simp only [List.length_append, List.length_cons, List.length_nil]; omega)) (by first | omega | (simp only [List.length_cons, List.length_nil]; omega) | (simp only [List.length_append, List.length_cons, List.length_nil]; omega)) (fun r hr => done (by kernel_rfl) rbu_refl hr)
        ·refine rs_plain rfl rfl fun a wr S => ?_
         have X := rbX S.ext
         exact wp_qf1 (ev_of ((S.old 1 (by kernel_rfl)).trans rfl)) (done (by kernel_rfl) rbu_refl rfl)
        ·refine rs_plain rfl rfl fun a wr S => ?_
         have X := rbX S.ext
         obtain ⟨v2, e2, h2⟩ := S.got 2 (by kernel_rfl)
         exact wp_qD ((ev_of (e2 22 (by kernel_rfl))).trans h2) (P1.below X) (done (by kernel_rfl) rbu_refl rfl)
        ·refine rs_plain rfl rfl fun a wr S => ?_
         have X := rbX S.ext
         obtain ⟨v3, e3, h3⟩ := S.got 3 (by kernel_rfl)
         exact st_call cf_ref01_Text (args1 ((ev_of (e3 23 (by kernel_rfl))).trans h3)) (by kernel_rfl) rb (rText ⟨_, _, _, rfl, Ud.below X⟩ (by omega)) (fun _ _ _ h => h)
        ·refine rs_plain rfl rfl fun a wr S => ?_
         have X := rbX S.ext
         obtain ⟨v1, e1, h1⟩ := S.got 1 (by kernel_rfl)
         obtain ⟨v4, e4, h4⟩ := S.got 4 (by kernel_rfl)
         exact wp_addSS (ev_of (e1 21 (by kernel_rfl))) (show IsS _ _ from h1) (ev_of (e4 24 (by kernel_rfl))) (show IsS _ _ from h4) (by first | omega | (simp only [List.length_cons, List.length_nil]; omega) | (simp only [List.length_append, List.length_cons, List.length_nil]; omega)) (by first | omega | (simp only [List.length_cons, List.length_nil]; omega) | (simp only [List.length_append, List.length_cons, List.length_nil]; omega)) (fun r hr => done (by kernel_rfl) rbu_refl hr)
        ·refine rs_plain rfl rfl fun a wr S => ?_
         have X := rbX S.ext
         obtain ⟨v5, e5, h5⟩ := S.got 5 (by kernel_rfl)
         exact wp_as (ev_of (e5 25 (by kernel_rfl))) (done (by kernel_rfl) rbu_refl h5)
       ·intro fw9 w9 hR hv hap
        clear hap
        replace hR := rbX hR
        have f0 : fw9 0 = .string sx2x4 := (hvc (hv 0 (by omega))).elim fun _ h => h
        have f2 : fw9 2 = .pointer (some ⟨w.heap.size, 2, none⟩) := (hvc (hv 2 (by omega))).elim fun _ h => h
        have f3 : fw9 3 = .slice Bx1x1 mx1x1 dx1x1 := (hvc (hv 3 (by omega))).elim fun _ h => h
        obtain ⟨sx6x6, f6, hx6x6⟩ := (show IsS _ _ from (hvc (hv 6 (by omega))).elim fun _ h => h)
        simp only [putFn, Act.put, List.setIfInBounds_toArray, List.set_cons_zero, List.set_cons_succ, f0, f2, f3, f6]
        replace M1 := M1.below hR
        replace I1 := I1.below hR
        replace D1 := D1.below hR
        replace N1 := N1.below hR
        replace Tx1x1 := Tx1x1.below hR
        replace Un := Un.below hR
        replace Ud := Ud.below hR
        replace Td := Td.below hR
        replace P1 := P1.below hR
        replace BB := bl_trans BB hR
        clear hR hv
        have Hx6x6 := Lib.hid hx6x6
        clear hx6x6
        go_upto_region 7 with (fail)
        refine wp_seq 2 ?_
        simp only [List.take_succ_cons, List.take_zero, List.drop_succ_cons, List.drop_zero]
        refine wp_seq_list (Ext := RB) (Rel := RBu) [fun v _ _ => v = .string sx6x6, fun v _ _ => v = .string sx6x6] (n := 2) (by kernel_rfl) (by kernel_rfl) (by kernel_rfl) (by kernel_rfl) (by kernel_rfl) (by kernel_rfl) (by kernel_rfl) rb_refl rb_trans ⟨sC, ⟨sC, trivial⟩⟩ ?_ ?_
        ·refine ⟨⟨trivial, ?_⟩, ?_⟩
         ·refine rs_plain rfl rfl fun a wr S => ?_
          have X := rbX S.ext
          exact wp_mv (ev_of ((S.old 3 (by kernel_rfl)).trans rfl)) (done (by kernel_rfl) rbu_refl rfl)
         ·refine rs_plain rfl rfl fun a wr S => ?_
          have X := rbX S.ext
          obtain ⟨v0, e0, h0⟩ := S.got 0 (by kernel_rfl)
          exact wp_as ((ev_of (e0 26 (by kernel_rfl))).trans h0) (done (by kernel_rfl) rbu_refl rfl)
        ·intro fw10 w10 hR hv hap
         clear hap
         replace hR := rbX hR
         have f0 : fw10 0 = .string sx6x6 := (hvc (hv 0 (by omega))).elim fun _ h => h
         have f1 : fw10 1 = .string sx6x6 := (hvc (hv 1 (by omega))).elim fun _ h => h
         simp only [putFn, Act.put, List.setIfInBounds_toArray, List.set_cons_zero, List.set_cons_succ, f0, f1]
         replace M1 := M1.below hR
         replace I1 := I1.below hR
         replace D1 := D1.below hR
         replace N1 := N1.below hR
         replace Tx1x1 := Tx1x1.below hR
         replace Un := Un.below hR
         replace Ud := Ud.below hR
         replace Td := Td.below hR
         replace P1 := P1.below hR
         replace BB := bl_trans BB hR
         clear hR hv
         go_wp2_with fail
         go_ret
         exact ⟨_, rfl, BB, by rw [← HT.out]; exact ⟨_, rfl, Hx6x6.out⟩⟩
   ·by_cases hd : q1.den = 1
    ·have HE := Lib.hid hd
     have HT := HB.out
     rw [if_pos hd] at HT
     simp only [if_true] at HT
     have HT := Lib.hid HT
     clear hd HB
     refine wp_seq 3 ?_
     simp only [List.take_succ_cons, List.take_zero, List.drop_succ_cons, List.drop_zero]
     refine wp_seq_list (Ext := RB) (Rel := RBu) [fun v _ _ => v = .pointer (some ⟨w.heap.size, 0, none⟩), fun v _ _ => v = .pointer (some ⟨w.heap.size, 0, none⟩), fun v _ _ => v = .bool true] (n := 3) (by kernel_rfl) (by kernel_rfl) (by kernel_rfl) (by kernel_rfl) (by kernel_rfl) (by kernel_rfl) (by kernel_rfl) rb_refl rb_trans ⟨sC, ⟨sC, ⟨sC, trivial⟩⟩⟩ ?_ ?_
     ·refine ⟨⟨⟨trivial, ?_⟩, ?_⟩, ?_⟩
      ·refine rs_plain rfl rfl fun a wr S => ?_
       have X := rbX S.ext
       exact wp_qf0 (ev_of ((S.old 1 (by kernel_rfl)).trans rfl)) (done (by kernel_rfl) rbu_refl rfl)
      ·refine rs_plain rfl rfl fun a wr S => ?_
       have X := rbX S.ext
       obtain ⟨v0, e0, h0⟩ := S.got 0 (by kernel_rfl)
       exact wp_field0 ((ev_of (e0 10 (by kernel_rfl))).trans h0) (done (by kernel_rfl) rbu_refl rfl)
      ·refine rs_plain rfl rfl fun a wr S => ?_
       have X := rbX S.ext
       obtain ⟨v1, e1, h1⟩ := S.got 1 (by kernel_rfl)
       exact wp_qB ((ev_of (e1 11 (by kernel_rfl))).trans h1) (P1.below X) (done (by kernel_rfl) rbu_refl rfl)
     ·intro fw11 w11 hR hv hap
      clear hap
      replace hR := rbX hR
      have f0 : fw11 0 = .pointer (some ⟨w.heap.size, 0, none⟩) := (hvc (hv 0 (by omega))).elim fun _ h => h
      have f1 : fw11 1 = .pointer (some ⟨w.heap.size, 0, none⟩) := (hvc (hv 1 (by omega))).elim fun _ h => h
      have f2 : fw11 2 = .bool true := (hvc (hv 2 (by omega))).elim fun _ h => h
      simp only [putFn, Act.put, List.setIfInBounds_toArray, List.set_cons_zero, List.set_cons_succ, f0, f1, f2]
      replace M1 := M1.below hR
      replace I1 := I1.below hR
      replace D1 := D1.below hR
      replace N1 := N1.below hR
      replace Tx1x1 := Tx1x1.below hR
      replace Un := Un.below hR
      replace Ud := Ud.below hR
      replace Td := Td.below hR
      replace P1 := P1.below hR
      replace BB := bl_trans BB hR
      clear hR hv
      go_upto_region 4 with (fail)
      refine wp_seq 3 ?_
      simp only [List.take_succ_cons, List.take_zero, List.drop_succ_cons, List.drop_zero]
      refine wp_seq_list (Ext := RB) (Rel := RBu) [fun v _ _ => v = .string sx2x4, fun v _ _ => IsS v ([45] ++ M.txt q1.num.natAbs), fun v _ _ => IsS v ([45] ++ M.txt q1.num.natAbs)] (n := 3) (by kernel_rfl) (by kernel_rfl) (by kernel_rfl) (by kernel_rfl) (by kernel_rfl) (by kernel_rfl) (by kernel_rfl) rb_refl rb_trans ⟨sC, ⟨sS, ⟨sS, trivial⟩⟩⟩ ?_ ?_
      ·refine ⟨⟨⟨trivial, ?_⟩, ?_⟩, ?_⟩
       ·refine rs_plain rfl rfl fun a wr S => ?_
        have X := rbX S.ext
        exact wp_mv (ev_of ((S.old 3 (by kernel_rfl)).trans rfl)) (done (by kernel_rfl) rbu_refl rfl)
       ·refine rs_plain rfl rfl fun a wr S => ?_
        have X := rbX S.ext
        obtain ⟨v0, e0, h0⟩ := S.got 0 (by kernel_rfl)
        exact wp_addSS rfl (show IsS _ [45] from ⟨_, rfl, rfl⟩) ((ev_of (e0 13 (by kernel_rfl))).trans h0) ⟨_, rfl, Hx2x4.out⟩ (by first | omega | (simp only [List.length_cons, List.length_nil]; omega) | (simp only [List.length_append, List.length_cons, List.length_nil]; omega)) (by first | omega | (simp only [List.length_cons, List.length_nil]; omega) | (simp only [List.length_append, List.length_cons, List.length_nil]; omega)) (fun r hr => done (by kernel_rfl) rbu_refl hr)
       ·refine rs_plain rfl rfl fun a wr S => ?_
        have X := rbX S.ext
        obtain ⟨v1, e1, h1⟩ := S.got 1 (by kernel_rfl)
        exact wp_as (ev_of (e1 14 (by kernel_rfl))) (done (by kernel_rfl) rbu_refl h1)
      ·intro fw12 w12 hR hv hap
       clear hap
       replace hR := rbX hR
       have f0 : fw12 0 = .string sx2x4 := (hvc (hv 0 (by omega))).elim fun _ h => h
       obtain ⟨sx4x2, f2, hx4x2⟩ := (show IsS _ _ from (hvc (hv 2 (by omega))).elim fun _ h => h)
       simp only [putFn, Act.put, List.setIfInBounds_toArray, List.set_cons_zero, List.set_cons_succ, f0, f2]
       replace M1 := M1.below hR
       replace I1 := I1.below hR
       replace D1 := D1.below hR
       replace N1 := N1.below hR
       replace Tx1x1 := Tx1x1.below hR
       replace Un := Un.below hR
       replace Ud := Ud.below hR
       replace Td := Td.below hR
       replace P1 := P1.below hR
       replace BB := bl_trans BB hR
       clear hR hv
       have Hx4x2 := Lib.hid hx4x2
       clear hx4x2
       go_upto_region 5 with (fail)
       refine wp_seq 5 ?_
       simp only [List.take_succ_cons, List.take_zero, List.drop_succ_cons, List.drop_zero]
       refine wp_seq_list (Ext := RB) (Rel := RBu) [fun v _ _ => v = .pointer (some ⟨w.heap.size, 2, none⟩), fun v _ _ => v = .slice Bx1x1 mx1x1 dx1x1, fun v _ w => IsTr w v (1) 1, fun v _ _ => v = .bool true, fun v _ _ => v = .bool false] (n := 5) (by kernel_rfl) (by kernel_rfl) (by kernel_rfl) (by kernel_rfl) (by kernel_rfl) (by kernel_rfl) (by kernel_rfl) rb_refl rb_trans ⟨sC, ⟨sC, ⟨sTr, ⟨sC, ⟨sC, trivial⟩⟩⟩⟩⟩ ?_ ?_
       ·refine ⟨⟨⟨⟨⟨trivial, ?_⟩, ?_⟩, ?_⟩, ?_⟩, ?_⟩
        ·refine rs_plain rfl rfl fun a wr S => ?_
         have X := rbX S.ext
         exact wp_qf1 (ev_of ((S.old 1 (by kernel_rfl)).trans rfl)) (done (by kernel_rfl) rbu_refl rfl)
        ·refine rs_plain rfl rfl fun a wr S => ?_
         have X := rbX S.ext
         obtain ⟨v0, e0, h0⟩ := S.got 0 (by kernel_rfl)
         exact wp_qD ((ev_of (e0 15 (by kernel_rfl))).trans h0) (P1.below X) (done (by kernel_rfl) rbu_refl rfl)
        ·refine rs_plain rfl rfl fun a wr S => ?_
         have X := rbX S.ext
         exact wp_bsL1 (done' (by kernel_rfl) (rb _ _ _ (bl_alloc _ _)) (litTr1 wr))
        ·refine rs_plain rfl rfl fun a wr S => ?_
         have X := rbX S.ext
         obtain ⟨v1, e1, h1⟩ := S.got 1 (by kernel_rfl)
         obtain ⟨v2, e2, h2⟩ := S.got 2 (by kernel_rfl)
         exact st_call cf_ref01_Same (args2 ((ev_of (e1 16 (by kernel_rfl))).trans h1) (ev_of (e2 17 (by kernel_rfl)))) (by kernel_rfl) rb ((rSame (show IsTr _ _ _ _ from ⟨_, _, _, rfl, Td.below X⟩) (show IsTr _ _ _ _ from h2) (by omega) (by omega)).mono (ansB (decide_eq_true HE.out))) (fun _ _ _ h => h)
        ·refine rs_plain rfl rfl fun a wr S => ?_
         have X := rbX S.ext
         obtain ⟨v3, e3, h3⟩ := S.got 3 (by kernel_rfl)
         exact wp_not ((ev_of (e3 18 (by kernel_rfl))).trans h3) (done (by kernel_rfl) rbu_refl rfl)
       ·intro fw13 w13 hR hv hap
        clear hap
        replace hR := rbX hR
        have f0 : fw13 0 = .pointer (some ⟨w.heap.size, 2, none⟩) := (hvc (hv 0 (by omega))).elim fun _ h => h
        have f1 : fw13 1 = .slice Bx1x1 mx1x1 dx1x1 := (hvc (hv 1 (by omega))).elim fun _ h => h
        have f3 : fw13 3 = .bool true := (hvc (hv 3 (by omega))).elim fun _ h => h
        have f4 : fw13 4 = .bool false := (hvc (hv 4 (by omega))).elim fun _ h => h
        simp only [putFn, Act.put, List.setIfInBounds_toArray, List.set_cons_zero, List.set_cons_succ, f0, f1, f3, f4]
        replace M1 := M1.below hR
        replace I1 := I1.below hR
        replace D1 := D1.below hR
        replace N1 := N1.below hR
        replace Tx1x1 := Tx1x1.below hR
        replace Un := Un.below hR
        replace Ud := Ud.below hR
        replace Td := Td.below hR
        replace P1 := P1.below hR
        replace BB := bl_trans BB hR
        clear hR hv
        go_upto_region 7 with (fail)
        refine wp_seq 2 ?_
        simp only [List.take_succ_cons, List.take_zero, List.drop_succ_cons, List.drop_zero]
        refine wp_seq_list (Ext := RB) (Rel := RBu) [fun v _ _ => v = .string sx4x2, fun v _ _ => v = .string sx4x2] (n := 2) (by kernel_rfl) (by kernel_rfl) (by kernel_rfl) (by kernel_rfl) (by kernel_rfl) (by kernel_rfl) (by kernel_rfl) rb_refl rb_trans ⟨sC, ⟨sC, trivial⟩⟩ ?_ ?_
        ·refine ⟨⟨trivial, ?_⟩, ?_⟩
         ·refine rs_plain rfl rfl fun a wr S => ?_
          have X := rbX S.ext
          exact wp_mv (ev_of ((S.old 3 (by kernel_rfl)).trans rfl)) (done (by kernel_rfl) rbu_refl rfl)
         ·refine rs_plain rfl rfl fun a wr S => ?_
          have X := rbX S.ext
          obtain ⟨v0, e0, h0⟩ := S.got 0 (by kernel_rfl)
          exact wp_as ((ev_of (e0 26 (by kernel_rfl))).trans h0) (done (by kernel_rfl) rbu_refl rfl)
        ·intro fw14 w14 hR hv hap
         clear hap
         replace hR := rbX hR
         have f0 : fw14 0 = .string sx4x2 := (hvc (hv 0 (by omega))).elim fun _ h => h
         have f1 : fw14 1 = .string sx4x2 := (hvc (hv 1 (by omega))).elim fun _ h => h
         simp only [putFn, Act.put, List.setIfInBounds_toArray, List.set_cons_zero, List.set_cons_succ, f0, f1]
         replace M1 := M1.below hR
         replace I1 := I1.below hR
         replace D1 := D1.below hR
         replace N1 := N1.below hR
         replace Tx1x1 := Tx1x1.below hR
         replace Un := Un.below hR
         replace Ud := Ud.below hR
         replace Td := Td.below hR
         replace P1 := P1.below hR
         replace BB := bl_trans BB hR
         clear hR hv
         go_wp2_with fail
         go_ret
         exact ⟨_, rfl, BB, by rw [← HT.out]; exact ⟨_, rfl, Hx4x2.out⟩⟩
    ·have HE := Lib.hid hd
     have HT := HB.out
     rw [if_neg hd] at HT
     simp only [if_true] at HT
     have HT := Lib.hid HT
     clear hd HB
     refine wp_seq 3 ?_
     simp only [List.take_succ_cons, List.take_zero, List.drop_succ_cons, List.drop_zero]
     refine wp_seq_list (Ext := RB) (Rel := RBu) [fun v _ _ => v = .pointer (some ⟨w.heap.size, 0, none⟩), fun v _ _ => v = .pointer (some ⟨w.heap.size, 0, none⟩), fun v _ _ => v = .bool true] (n := 3) (by kernel_rfl) (by kernel_rfl) (by kernel_rfl) (by kernel_rfl) (by kernel_rfl) (by kernel_rfl) (by kernel_rfl) rb_refl rb_trans ⟨sC, ⟨sC, ⟨sC, trivial⟩⟩⟩ ?_ ?_
     ·refine ⟨⟨⟨trivial, ?_⟩, ?_⟩, ?_⟩
      ·refine rs_plain rfl rfl fun a wr S => ?_
       have X := rbX S.ext
       exact wp_qf0 (ev_of ((S.old 1 (by kernel_rfl)).trans rfl)) (done (by kernel_rfl) rbu_refl rfl)
      ·refine rs_plain rfl rfl fun a wr S => ?_
       have X := rbX S.ext
       obtain ⟨v0, e0, h0⟩ := S.got 0 (by kernel_rfl)
       exact wp_field0 ((ev_of (e0 10 (by kernel_rfl))).trans h0) (done (by kernel_rfl) rbu_refl rfl)
      ·refine rs_plain rfl rfl fun a wr S => ?_
       have X := rbX S.ext
       obtain ⟨v1, e1, h1⟩ := S.got 1 (by kernel_rfl)
       exact wp_qB ((ev_of (e1 11 (by kernel_rfl))).trans h1) (P1.below X) (done (by kernel_rfl) rbu_refl rfl)
     ·intro fw15 w15 hR hv hap
      clear hap
      replace hR := rbX hR
      have f0 : fw15 0 = .pointer (some ⟨w.heap.size, 0, none⟩) := (hvc (hv 0 (by omega))).elim fun _ h => h
      have f1 : fw15 1 = .pointer (some ⟨w.heap.size, 0, none⟩) := (hvc (hv 1 (by omega))).elim fun _ h => h
      have f2 : fw15 2 = .bool true := (hvc (hv 2 (by omega))).elim fun _ h => h
      simp only [putFn, Act.put, List.setIfInBounds_toArray, List.set_cons_zero, List.set_cons_succ, f0, f1, f2]
      replace M1 := M1.below hR
      replace I1 := I1.below hR
      replace D1 := D1.below hR
      replace N1 := N1.below hR
      replace Tx1x1 := Tx1x1.below hR
      replace Un := Un.below hR
      replace Ud := Ud.below hR
      replace Td := Td.below hR
      replace P1 := P1.below hR
      replace BB := bl_trans BB hR
      clear hR hv
      go_upto_region 4 with (fail)
      refine wp_seq 3 ?_
      simp only [List.take_succ_cons, List.take_zero, List.drop_succ_cons, List.drop_zero]
      refine wp_seq_list (Ext := RB) (Rel := RBu) [fun v _ _ => v = .string sx2x4, fun v _ _ => IsS v ([45] ++ M.txt q1.num.natAbs), fun v _ _ => IsS v ([45] ++ M.txt q1.num.natAbs)] (n := 3) (by kernel_rfl) (by kernel_rfl) (by kernel_rfl) (by kernel_rfl) (by kernel_rfl) (by kernel_rfl) (by kernel_rfl) rb_refl rb_trans ⟨sC, ⟨sS, ⟨sS, trivial⟩⟩⟩ ?_ ?_
      ·refine ⟨⟨⟨trivial, ?_⟩, ?_⟩, ?_⟩
       ·refine rs_plain rfl rfl fun a wr S => ?_
        have X := rbX S.ext
        exact wp_mv (ev_of ((S.old 3 (by kernel_rfl)).trans rfl)) (done (by kernel_rfl) rbu_refl rfl)
       ·refine rs_plain rfl rfl fun a wr S => ?_
        have X := rbX S.ext
        obtain ⟨v0, e0, h0⟩ := S.got 0 (by kernel_rfl)
        exact wp_addSS rfl (show IsS _ [45] from ⟨_, rfl, rfl⟩) ((ev_of (e0 13 (by kernel_rfl))).trans h0) ⟨_, rfl, Hx2x4.out⟩ (by first | omega | (simp only [List.length_cons, List.length_nil]; omega) | (simp only [List.length_append, List.length_cons, List.length_nil]; omega)) (by first | omega | (simp only [List.length_cons, List.length_nil]; omega) | (simp only [List.length_append, List.length_cons, List.length_nil]; omega)) (fun r hr => done (by kernel_rfl) rbu_refl hr)
       ·refine rs_plain rfl rfl fun a wr S => ?_
        have X := rbX S.ext
        obtain ⟨v1, e1, h1⟩ := S.got 1 (by kernel_rfl)
        exact wp_as (ev_of (e1 14 (by kernel_rfl))) (done (by kernel_rfl) rbu_refl h1)
      ·intro fw16 w16 hR hv hap
       clear hap
       replace hR := rbX hR
       have f0 : fw16 0 = .string sx2x4 := (hvc (hv 0 (by omega))).elim fun _ h => h
       obtain ⟨sx4x2, f2, hx4x2⟩ := (show IsS _ _ from (hvc (hv 2 (by omega))).elim fun _ h => h)
       simp only [putFn, Act.put, List.setIfInBounds_toArray, List.set_cons_zero, List.set_cons_succ, f0, f2]
       replace M1 := M1.below hR
       replace I1 := I1.below hR
       replace D1 := D1.below hR
       replace N1 := N1.below hR
       replace Tx1x1 := Tx1x1.below hR
       replace Un := Un.below hR
       replace Ud := Ud.below hR
       replace Td := Td.below hR
       replace P1 := P1.below hR
       replace BB := bl_trans BB hR
       clear hR hv
       have Hx4x2 := Lib.hid hx4x2
       clear hx4x2
       go_upto_region 5 with (fail)
       refine wp_seq 5 ?_
       simp only [List.take_succ_cons, List.take_zero, List.drop_succ_cons, List.drop_zero]
       refine wp_seq_list (Ext := RB) (Rel := RBu) [fun v _ _ => v = .pointer (some ⟨w.heap.size, 2, none⟩), fun v _ _ => v = .slice Bx1x1 mx1x1 dx1x1, fun v _ w => IsTr w v (1) 1, fun v _ _ => v = .bool false, fun v _ _ => v = .bool true] (n := 5) (by kernel_rfl) (by kernel_rfl) (by kernel_rfl) (by kernel_rfl) (by kernel_rfl) (by kernel_rfl) (by kernel_rfl) rb_refl rb_trans ⟨sC, ⟨sC, ⟨sTr, ⟨sC, ⟨sC, trivial⟩⟩⟩⟩⟩ ?_ ?_
       ·refine ⟨⟨⟨⟨⟨trivial, ?_⟩, ?_⟩, ?_⟩, ?_⟩, ?_⟩
        ·refine rs_plain rfl rfl fun a wr S => ?_
         have X := rbX S.ext
         exact wp_qf1 (ev_of ((S.old 1 (by kernel_rfl)).trans rfl)) (done (by kernel_rfl) rbu_refl rfl)
        ·refine rs_plain rfl rfl fun a wr S => ?_
         have X := rbX S.ext
         obtain ⟨v0, e0, h0⟩ := S.got 0 (by kernel_rfl)
         exact wp_qD ((ev_of (e0 15 (by kernel_rfl))).trans h0) (P1.below X) (done (by kernel_rfl) rbu_refl rfl)
        ·refine rs_plain rfl rfl fun a wr S => ?_
         have X := rbX S.ext
         exact wp_bsL1 (done' (by kernel_rfl) (rb _ _ _ (bl_alloc _ _)) (litTr1 wr))
        ·refine rs_plain rfl rfl fun a wr S => ?_
         have X := rbX S.ext
         obtain ⟨v1, e1, h1⟩ := S.got 1 (by kernel_rfl)
         obtain ⟨v2, e2, h2⟩ := S.got 2 (by kernel_rfl)
         exact st_call cf_ref01_Same (args2 ((ev_of (e1 16 (by kernel_rfl))).trans h1) (ev_of (e2 17 (by kernel_rfl)))) (by kernel_rfl) rb ((rSame (show IsTr _ _ _ _ from ⟨_, _, _, rfl, Td.below X⟩) (show IsTr _ _ _ _ from h2) (by omega) (by omega)).mono (ansB (decide_eq_false HE.out))) (fun _ _ _ h => h)
        ·refine rs_plain rfl rfl fun a wr S => ?_
         have X := rbX S.ext
         obtain ⟨v3, e3, h3⟩ := S.got 3 (by kernel_rfl)
         exact wp_not ((ev_of (e3 18 (by kernel_rfl))).trans h3) (done (by kernel_rfl) rbu_refl rfl)
       ·intro fw17 w17 hR hv hap
        clear hap
        replace hR := rbX hR
        have f0 : fw17 0 = .pointer (some ⟨w.heap.size, 2, none⟩) := (hvc (hv 0 (by omega))).elim fun _ h => h
        have f1 : fw17 1 = .slice Bx1x1 mx1x1 dx1x1 := (hvc (hv 1 (by omega))).elim fun _ h => h
        have f3 : fw17 3 = .bool false := (hvc (hv 3 (by omega))).elim fun _ h => h
        have f4 : fw17 4 = .bool true := (hvc (hv 4 (by omega))).elim fun _ h => h
        simp only [putFn, Act.put, List.setIfInBounds_toArray, List.set_cons_zero, List.set_cons_succ, f0, f1, f3, f4]
        replace M1 := M1.below hR
        replace I1 := I1.below hR
        replace D1 := D1.below hR
        replace N1 := N1.below hR
        replace Tx1x1 := Tx1x1.below hR
        replace Un := Un.below hR
        replace Ud := Ud.below hR
        replace Td := Td.below hR
        replace P1 := P1.below hR
        replace BB := bl_trans BB hR
        clear hR hv
        go_upto_region 6 with (fail)
        refine wp_seq 7 ?_
        simp only [List.take_succ_cons, List.take_zero, List.drop_succ_cons, List.drop_zero]
        refine wp_seq_list (Ext := RB) (Rel := RBu) [fun v _ _ => v = .string sx4x2, fun v _ _ => IsS v ([45] ++ M.txt q1.num.natAbs ++ [47]), fun v _ _ => v = .pointer (some ⟨w.heap.size, 2, none⟩), fun v _ _ => v = .slice Bx1x1 mx1x1 dx1x1, fun v _ _ => IsS v (M.txt q1.den), fun v _ _ => IsS v ([45] ++ M.txt q1.num.natAbs ++ [47] ++ M.txt q1.den), fun v _ _ => IsS v ([45] ++ M.txt q1.num.natAbs ++ [47] ++ M.txt q1.den)] (n := 7) (by kernel_rfl) (by kernel_rfl) (by kernel_rfl) (by kernel_rfl) (by kernel_rfl) (by kernel_rfl) (by kernel_rfl) rb_refl rb_trans ⟨sC, ⟨sS, ⟨sC, ⟨sC, ⟨sS, ⟨sS, ⟨sS, trivial⟩⟩⟩⟩⟩⟩⟩ ?_ ?_
        ·refine ⟨⟨⟨⟨⟨⟨⟨trivial, ?_⟩, ?_⟩, ?_⟩, ?_⟩, ?_⟩, ?_⟩, ?_⟩
         ·refine rs_plain rfl rfl fun a wr S => ?_
          have X := rbX S.ext
          exact wp_mv (ev_of ((S.old 3 (by kernel_rfl)).trans rfl)) (done (by kernel_rfl) rbu_refl rfl)
         ·refine rs_plain rfl rfl fun a wr S => ?_
          have X := rbX S.ext
          obtain ⟨v0, e0, h0⟩ := S.got 0 (by kernel_rfl)
          exact wp_addSS ((ev_of (e0 20 (by kernel_rfl))).trans h0) ⟨_, rfl, Hx4x2.out⟩ rfl (show IsS _ [47] from ⟨_, rfl, rfl⟩) (by first | omega | (simp only [List.length_cons, List.length_nil]; omega) | (simp only [List.length_append, List.length_cons, List.length_nil]; omega)) (by first | omega | (simp only [List.length_cons, List.length_nil]; omega) | (simp only [List.length_append, List.length_cons, List.length_nil]; omega)) (fun r hr => done (by kernel_rfl) rbu_refl hr)
         ·refine rs_plain rfl rfl fun a wr S => ?_
          have X := rbX S.ext
          exact wp_qf1 (ev_of ((S.old 1 (by kernel_rfl)).trans rfl)) (done (by kernel_rfl) rbu_refl rfl)
         ·refine rs_plain rfl rfl fun a wr S => ?_
          have X := rbX S.ext
          obtain ⟨v2, e2, h2⟩ := S.got 2 (by kernel_rfl)
          exact wp_qD ((ev_of (e2 22 (by kernel_rfl))).trans h2) (P1.below X) (done (by kernel_rfl) rbu_refl rfl)
         ·refine rs_plain rfl rfl fun a wr S => ?_
          have X := rbX S.ext
          obtain ⟨v3, e3, h3⟩ := S.got 3 (by kernel_rfl)
          exact st_call cf_ref01_Text (args1 ((ev_of (e3 23 (by kernel_rfl))).trans h3)) (by kernel_rfl) rb (rText ⟨_, _, _, rfl, Ud.below X⟩ (by omega)) (fun _ _ _ h => h)
         ·refine rs_plain rfl rfl fun a wr S => ?_
          have X := rbX S.ext
          obtain ⟨v1, e1, h1⟩ := S.got 1 (by kernel_rfl)
          obtain ⟨v4, e4, h4⟩ := S.got 4 (by kernel_rfl)
          exact wp_addSS (ev_of (e1 21 (by kernel_rfl))) (show IsS _ _ from h1) (ev_of (e4 24 (by kernel_rfl))) (show IsS _ _ from h4) (by first | omega | (simp only [List.length_cons, List.length_nil]; omega) | (simp only [List.length_append, List.length_cons, List.length_nil]; omega)) (by first | omega | (simp only [List.length_cons, List.length_nil]; omega) | (simp only [List.length_append, List.length_cons, List.length_nil]; omega)) (fun r hr => done (by kernel_rfl) rbu_refl hr)
         ·refine rs_plain rfl rfl fun a wr S => ?_
          have X := rbX S.ext
          obtain ⟨v5, e5, h5⟩ := S.got 5 (by kernel_rfl)
          exact wp_as (ev_of (e5 25 (by kernel_rfl))) (done (by kernel_rfl) rbu_refl h5)
        ·intro fw18 w18 hR hv hap
         clear hap
         replace hR := rbX hR
         have f0 : fw18 0 = .string sx4x2 := (hvc (hv 0 (by omega))).elim fun _ h => h
         have f2 : fw18 2 = .pointer (some ⟨w.heap.size, 2, none⟩) := (hvc (hv 2 (by omega))).elim fun _ h => h
         have f3 : fw18 3 = .slice Bx1x1 mx1x1 dx1x1 := (hvc (hv 3 (by omega))).elim fun _ h => h
         obtain ⟨sx6x6, f6, hx6x6⟩ := (show IsS _ _ from (hvc (hv 6 (by omega))).elim fun _ h => h)
         simp only [putFn, Act.put, List.setIfInBounds_toArray, List.set_cons_zero, List.set_cons_succ, f0, f2, f3, f6]
         replace M1 := M1.below hR
         replace I1 := I1.below hR
         replace D1 := D1.below hR
         replace N1 := N1.below hR
         replace Tx1x1 := Tx1x1.below hR
         replace Un := Un.below hR
         replace Ud := Ud.below hR
         replace Td := Td.below hR
         replace P1 := P1.below hR
         replace BB := bl_trans BB hR
         clear hR hv
         have Hx6x6 := Lib.hid hx6x6
         clear hx6x6
         go_upto_region 7 with (fail)
         refine wp_seq 2 ?_
         simp only [List.take_succ_cons, List.take_zero, List.drop_succ_cons, List.drop_zero]
         refine wp_seq_list (Ext := RB) (Rel := RBu) [fun v _ _ => v = .string sx6x6, fun v _ _ => v = .string sx6x6] (n := 2) (by kernel_rfl) (by kernel_rfl) (by kernel_rfl) (by kernel_rfl) (by kernel_rfl) (by kernel_rfl) (by kernel_rfl) rb_refl rb_trans ⟨sC, ⟨sC, trivial⟩⟩ ?_ ?_
         ·refine ⟨⟨trivial, ?_⟩, ?_⟩
          ·refine rs_plain rfl rfl fun a wr S => ?_
           have X := rbX S.ext
           exact wp_mv (ev_of ((S.old 3 (by kernel_rfl)).trans rfl)) (done (by kernel_rfl) rbu_refl rfl)
          ·refine rs_plain rfl rfl fun a wr S => ?_
           have X := rbX S.ext
           obtain ⟨v0, e0, h0⟩ := S.got 0 (by kernel_rfl)
           exact wp_as ((ev_of (e0 26 (by kernel_rfl))).trans h0) (done (by kernel_rfl) rbu_refl rfl)
         ·intro fw19 w19 hR hv hap
          clear hap
          replace hR := rbX hR
          have f0 : fw19 0 = .string sx6x6 := (hvc (hv 0 (by omega))).elim fun _ h => h
          have f1 : fw19 1 = .string sx6x6 := (hvc (hv 1 (by omega))).elim fun _ h => h
          simp only [putFn, Act.put, List.setIfInBounds_toArray, List.set_cons_zero, List.set_cons_succ, f0, f1]
          replace M1 := M1.below hR
          replace I1 := I1.below hR
          replace D1 := D1.below hR
          replace N1 := N1.below hR
          replace Tx1x1 := Tx1x1.below hR
          replace Un := Un.below hR
          replace Ud := Ud.below hR
          replace Td := Td.below hR
          replace P1 := P1.below hR
          replace BB := bl_trans BB hR
          clear hR hv
          go_wp2_with fail
          go_ret
          exact ⟨_, rfl, BB, by rw [← HT.out]; exact ⟨_, rfl, Hx6x6.out⟩⟩
end
end Go.Proofs.YtbhgbilhoonopaaGreat
namespace Go.Proofs.YtbhgbilhoonopaaGreat
open Go.RowKit
set_option linter.unusedVariables false
set_option maxRecDepth 100000
section
variable {a : Act} {w : World} {K : Act → World → Prop} {Q : Exit → Act → World → Prop} {dst : Option Tmp} {ty : TypeId} {pos : String} {af : Array Edge} {gd : Option (Nat × Bool)} {x y : Operand} {b : Bool} {A : Option Addr} {n c m : Nat} {u v v' : Value}
theorem wp_bQ1 (hx : a.eval x = .agg #[.bool b, .slice A n c]) (h : K (a.put dst (.agg #[.bool b, .slice A n c, .slice none 0 0])) w) : Oper.wp Tryz.prog ⟨dst, .build 26 #[(0, x)], ty, pos, af, gd⟩ a w K Q := by
 unfold Oper.wp execOp
 simp only [List.map_toArray, List.map_cons, List.map_nil, hx]
 go_simp
 exact h
end
section
variable {w : World} {g g' : Nat} {b : Bool} {A A' : Option Addr} {n c n' c' k : Nat} {z : Int} {N : Nat}
theorem Below.drewed {B : Nat} {a w : World} (h : Below B a w) : Below B a w.drew := ⟨h.os, h.tape, h.output, h.size, h.block⟩
theorem Bz.setM (h : Bz w g b A n c) : Bz (w.setCell ⟨g, 1, none⟩ (.slice A' n' c')) g b A' n' c' := ⟨heap_setCell_same w g 1 #[.bool b, .slice A n c] 24 (.slice A' n' c') h.row⟩
theorem isQm_int (h : IsM w (.agg #[.bool b, .slice A n c]) z k) (hk : 1 ≤ k) : IsQm w (.agg #[.bool b, .slice A n c, .slice none 0 0]) ((z : Int) : Rat) k := by
 obtain ⟨_, _, _, _, e, h⟩ := h
 injection e with e; injection e with e; simp only [List.cons.injEq, Value.bool.injEq, Value.slice.injEq] at e
 obtain ⟨rfl, ⟨rfl, rfl, rfl⟩, _⟩ := e
 refine ⟨_, _, _, _, _, _, _, rfl, z, 0, h, ⟨⟨_, (OwK.nil_ w 0).rd, rfl⟩, by omega⟩, ?_⟩
 rw [dOf_zero, Rat.mkRat_one]
end
end Go.Proofs.YtbhgbilhoonopaaGreat
