/- rat.Sign, From, Int, Whole, Floor, Ceil; litmusref03's looks whether two are alike; litmuslaw03.few. -/
import Derived.Test.YtbhgbilhoonopaaGreatQFun
namespace Go.Proofs.YtbhgbilhoonopaaGreat
open Go.RowKit
set_option linter.unusedVariables false
set_option maxRecDepth 100000

theorem sgn_mkRat (z : Int) {y : Nat} (hy : y ≠ 0) : sgn (mkRat z y).num = sgn z := by
  rw [Rat.num_mkRat, if_neg hy]
  have hg : (0 : Int) < (y.gcd z.natAbs : Nat) := by have := Nat.gcd_pos_of_pos_left z.natAbs (Nat.pos_of_ne_zero hy); omega
  have hd : ((y.gcd z.natAbs : Nat) : Int) ∣ z := Int.ofNat_dvd_left.2 (Nat.gcd_dvd_right _ _)
  have e := Int.ediv_mul_cancel hd
  generalize z / ((y.gcd z.natAbs : Nat) : Int) = x at e ⊢
  generalize ((y.gcd z.natAbs : Nat) : Int) = g at hg e
  subst e
  rcases Int.lt_trichotomy x 0 with h | h | h
  · rw [sgn_neg h, sgn_neg (Int.mul_neg_of_neg_of_pos h hg)]
  · rw [sgn_zero h, sgn_zero (by rw [h, Int.zero_mul])]
  · rw [sgn_pos h, sgn_pos (Int.mul_pos h hg)]
theorem floor_dq (p : Rat) : dq p.num ((p.den : Nat) : Int) = p.floor := by
  unfold dq
  rw [if_pos (by have := p.den_pos; omega), Rat.floor_def]
def IsB (v : Value) (b : Bool) : Prop := v = .bool b

section
variable {w w' : World} {v v' : Value} {p q : Rat} {z u : Int} {k j N : Nat}
set_option maxHeartbeats 2000000

theorem cQSign {s : Int} (h : IsQm w v p k) (hk : k ≤ 1000) (hs : sgn p.num = s) : Calls Tryz.prog 30 #[v] w (Ans w fun _ v => v = .int .i64 s) := by
  obtain ⟨b2, A2, n2, c2, B2, m2, d2, rfl, z, y, hz, hy, rfl⟩ := h
  rw [sgn_mkRat z (dOf_pos y)] at hs
  have PA := Bq.new w b2 A2 n2 c2 B2 m2 d2
  have BB := bl_alloc w (.cells #[.bool b2, .slice A2 n2 c2, .slice B2 m2 d2] 26)
  have ZA := hz.below BB
  have x0 := PA.c0
  have x1 := PA.c1
  have HS := Lib.hid hs
  clear hz hy hs
  go_enter Tryz.func30, Tryz.ntmps30
  go_wp2_with fail
  refine (cSign ⟨_, _, _, _, rfl, ZA⟩ hk HS.out).mono ?_
  rintro e w1 ⟨_, rfl, hb1, rfl⟩
  replace BB := bl_trans BB hb1
  clear hb1 PA x0 x1 ZA
  go_wp2_with fail
  go_ret
  exact ⟨_, rfl, BB, rfl⟩

theorem cQFrom (x : Int) (h0 : -9223372036854775808 ≤ x) (h1 : x < 9223372036854775808) : Calls Tryz.prog 43 #[.int .i64 x] w (Ans w fun w' v => IsQ w.heap.size w' v ((x : Int) : Rat) 2) := by
  have PR := Bq.new w false none 0 0 none 0 0
  have BB := bl_alloc w (.cells #[.bool false, .slice none 0 0, .slice none 0 0] 26)
  go_enter Tryz.func43, Tryz.ntmps43
  go_wp2_with fail
  refine (cFrom (N := w.heap.size + 1) x h0 h1 (by simp)).mono ?_
  rintro e w1 ⟨_, rfl, hb1, b1, A1, n1, c1, rfl, Z1⟩
  have hs1 := hb1.size
  simp only [hs_alloc] at hs1
  replace PR := PR.below hb1
  replace BB := bl_trans BB hb1
  clear hb1
  go_wp2_with fail
  refine (cFromD (N := w.heap.size + 1) 1 (by omega) (by omega)).mono ?_
  rintro e w2 ⟨_, rfl, hb2, D, m, d, rfl, O2, l2⟩
  replace Z1 := Z1.below hb2
  replace PR := PR.below hb2
  replace BB := bl_trans BB hb2
  have q2 : IsQ (w.heap.size + 1) w2 (.agg #[.bool b1, .slice A1 n1 c1, .slice D m d]) ((x : Int) : Rat) 2 := isQ_mk (q := ((x : Int) : Rat)) Z1 O2 (by omega)
  have r0 := PR.c0
  have r1 := PR.c1
  have r2 := PR.c2
  have f0 := PR.f 0
  have f1 := PR.f 1
  have f2 := PR.f 2
  clear hb2 Z1 O2
  go_wp2_with fail
  exact bodyPost_ret (v := .agg #[.bool b1, .slice A1 n1 c1, .slice D m d]) (by simp [results, Tryz.results43, go_sem, *]) rfl (fin_q q2 BB (by omega) (by omega) _ _ _)

theorem cQInt (h : IsM w v z k) (hk : k ≤ 900) (hk1 : 1 ≤ k) : Calls Tryz.prog 42 #[v] w (Ans w fun w' v => IsQ w.heap.size w' v ((z : Int) : Rat) k) := by
  obtain ⟨b, A, n, c, rfl, h⟩ := h
  obtain ⟨x, hx, rfl⟩ := h.row
  have PA := (Bz.new w b A n c).alloc (.cells #[.bool false, .slice none 0 0, .slice none 0 0] 26)
  have PR := Bq.new2 w (.cells #[.bool b, .slice A n c] 24) false none 0 0 none 0 0
  have BB := bl_trans (bl_alloc w (.cells #[.bool b, .slice A n c] 24)) (bl_alloc _ (.cells #[.bool false, .slice none 0 0, .slice none 0 0] 26))
  have NX := hx.below BB
  have x0 := PA.c0
  have x1 := PA.c1
  clear h hx
  go_enter Tryz.func42, Tryz.ntmps42
  go_wp2_with fail
  refine (cOf (N := w.heap.size + 2) b NX (by omega) (by simp)).mono ?_
  rintro e w1 ⟨_, rfl, hb1, b1, A1, n1, c1, rfl, Z1⟩
  have hs1 := hb1.size
  simp only [hs_alloc] at hs1
  replace PR := PR.below hb1
  replace BB := bl_trans BB hb1
  clear hb1 x0 x1 NX PA
  go_wp2_with fail
  refine (cFromD (N := w.heap.size + 2) 1 (by omega) (by omega)).mono ?_
  rintro e w2 ⟨_, rfl, hb2, D, m, d, rfl, O2, l2⟩
  replace Z1 := Z1.below hb2
  replace PR := PR.below hb2
  replace BB := bl_trans BB hb2
  have q2 : IsQ (w.heap.size + 2) w2 (.agg #[.bool b1, .slice A1 n1 c1, .slice D m d]) ((zv b x : Int) : Rat) k := isQ_mk (q := ((zv b x : Int) : Rat)) Z1 O2 (by omega)
  have r0 := PR.c0
  have r1 := PR.c1
  have r2 := PR.c2
  have f0 := PR.f 0
  have f1 := PR.f 1
  have f2 := PR.f 2
  clear hb2 Z1 O2
  go_wp2_with fail
  exact bodyPost_ret (v := .agg #[.bool b1, .slice A1 n1 c1, .slice D m d]) (by simp [results, Tryz.results42, go_sem, *]) rfl (fin_q q2 BB (by omega) (by omega) _ _ _)

theorem cWhole1c (h : IsQ N w v p k) (hk : k ≤ 900) : Calls Tryz.prog 96 #[v] w (Ans w fun _ v => v = .bool (decide (p.den = 1))) := by
  obtain ⟨b2, A2, n2, c2, B2, m2, d2, rfl, Z, O, l⟩ := h
  have PA := Bq.new w b2 A2 n2 c2 B2 m2 d2
  have BB := bl_alloc w (.cells #[.bool b2, .slice A2 n2 c2, .slice B2 m2 d2] 26)
  have ND : Nm _ B2 m2 d2 p.den k := Nm.below ⟨⟨_, O.rd, M.val_lims _⟩, l⟩ BB
  have x2 := PA.c2
  clear Z O l
  go_enter Tryz.func96, Tryz.ntmps96
  go_wp2_with fail
  refine (cIsOne ⟨_, _, _, rfl, ND⟩ (by omega)).mono ?_
  rintro e w1 ⟨_, rfl, hb1, rfl⟩
  replace BB := bl_trans BB hb1
  clear hb1 PA x2 ND
  go_wp2_with fail
  go_ret
  exact ⟨_, rfl, BB, rfl⟩
theorem cQWhole (h : IsQm w v p k) (hk : k ≤ 900) (hk1 : 1 ≤ k) : Calls Tryz.prog 46 #[v] w (Ans w fun _ v => v = .bool (decide (p.den = 1))) := by
  obtain ⟨b2, A2, n2, c2, B2, m2, d2, rfl, _⟩ := id h
  have PA := Bq.new w b2 A2 n2 c2 B2 m2 d2
  have BB := bl_alloc w (.cells #[.bool b2, .slice A2 n2 c2, .slice B2 m2 d2] 26)
  have HA := Lib.hid (h.below BB)
  have x0 := PA.c0
  have x1 := PA.c1
  have x2 := PA.c2
  clear h
  go_enter Tryz.func46, Tryz.ntmps46
  go_wp2_with fail
  refine (madeB_rat_Whole__1 (Post := fun v => v = .bool (decide (p.den = 1))) HA.out (by omega) hk1 fun W u hW hsz hu => cWhole1c hu (by omega)).mono ?_
  rintro e w1 ⟨_, rfl, hb1, rfl⟩
  replace BB := bl_trans BB hb1
  clear hb1 PA x0 x1 x2 HA
  go_wp2_with fail
  go_ret
  exact ⟨_, rfl, BB, rfl⟩

theorem cFloor1c (h : IsQ N w v p k) (hk : k ≤ 900) : Calls Tryz.prog 75 #[v] w (Ans w fun w' v => IsZ w.heap.size w' v p.floor (k + 1)) := by
  obtain ⟨b2, A2, n2, c2, B2, m2, d2, rfl, Z, O, l⟩ := h
  have PA := (Bq.new w b2 A2 n2 c2 B2 m2 d2).alloc (.cells #[.bool false, .slice none 0 0] 24)
  have PR := Bz.new2 w (.cells #[.bool b2, .slice A2 n2 c2, .slice B2 m2 d2] 26) false none 0 0
  have BB := bl_trans (bl_alloc w (.cells #[.bool b2, .slice A2 n2 c2, .slice B2 m2 d2] 26)) (bl_alloc _ (.cells #[.bool false, .slice none 0 0] 24))
  have ZA : IsM ((w.alloc (.cells #[.bool b2, .slice A2 n2 c2, .slice B2 m2 d2] 26)).alloc (.cells #[.bool false, .slice none 0 0] 24)) (.agg #[.bool b2, .slice A2 n2 c2]) p.num k := ⟨_, _, _, _, rfl, Z.zm.below BB⟩
  have ND : Nm ((w.alloc (.cells #[.bool b2, .slice A2 n2 c2, .slice B2 m2 d2] 26)).alloc (.cells #[.bool false, .slice none 0 0] 24)) B2 m2 d2 p.den k := Nm.below ⟨⟨_, O.rd, M.val_lims _⟩, l⟩ BB
  have HD := Lib.hid (show ((p.den : Nat) : Int) ≠ 0 by have := p.den_pos; omega)
  have HF := Lib.hid (floor_dq p)
  have hs0 : ((w.alloc (.cells #[.bool b2, .slice A2 n2 c2, .slice B2 m2 d2] 26)).alloc (.cells #[.bool false, .slice none 0 0] 24)).heap.size = w.heap.size + 1 + 1 := by simp
  clear Z O l
  go_enter Tryz.func75, Tryz.ntmps75
  go_wp2_with fail
  generalize ((w.alloc (.cells #[.bool b2, .slice A2 n2 c2, .slice B2 m2 d2] 26)).alloc (.cells #[.bool false, .slice none 0 0] 24)) = W0 at PA PR BB ZA ND hs0 ⊢
  refine wp_region_list (Ext := (BelX (W0).heap.size)) (Rel := (BelU (W0).heap.size)) [fun v _ _ => v = .pointer (some ⟨w.heap.size, 0, none⟩), fun v _ _ => v = .agg #[.bool b2, .slice A2 n2 c2], fun v _ _ => v = .pointer (some ⟨w.heap.size, 2, none⟩), fun v _ _ => v = .slice B2 m2 d2, fun v _ _ => v = .agg #[.bool false, .slice B2 m2 d2], fun v _ w => IsZE (W0).heap.size w v (dq p.num ((p.den : Nat) : Int)) (k + 1) 0, fun v _ w => IsZE (W0).heap.size w v (dq p.num ((p.den : Nat) : Int)) (k + 1) 0, fun v _ w => IsZ (W0).heap.size w v (dq p.num ((p.den : Nat) : Int)) (k + 1), fun v _ _ => v = .int .i64 0, fun v _ w => IsP (W0).heap.size v w, fun _ u w => HasZ (W0).heap.size u w (dq p.num ((p.den : Nat) : Int)) (k + 1), fun v _ _ => v = .int .i64 0] (n := 12) (by kernel_rfl) rfl (by kernel_rfl) (by kernel_rfl) (by kernel_rfl) (by kernel_rfl) (by kernel_rfl) (rx_refl _) (rxu_trans _) ⟨sC, ⟨sC, ⟨sC, ⟨sC, ⟨sC, ⟨xZE, ⟨xZE, ⟨xZ, ⟨sC, ⟨xP, ⟨xHZ, ⟨sC, trivial⟩⟩⟩⟩⟩⟩⟩⟩⟩⟩⟩⟩ ?_ ?_
  · refine ⟨⟨⟨⟨⟨⟨⟨⟨⟨⟨⟨⟨trivial, ?_⟩, ?_⟩, ?_⟩, ?_⟩, ?_⟩, ?_⟩, ?_⟩, ?_⟩, ?_⟩, ?_⟩, ?_⟩, ?_⟩
    · refine rs_plain rfl rfl fun a wr S => ?_
      have X := undrewX S.ext
      exact wp_qf0 (ev_of ((S.old 1 (by kernel_rfl)).trans rfl)) (done (by kernel_rfl) (rxu_refl _) rfl)
    · refine rs_plain rfl rfl fun a wr S => ?_
      have X := undrewX S.ext
      obtain ⟨v0, e0, h0⟩ := S.got 0 (by kernel_rfl)
      exact wp_qN ((ev_of (e0 6 (by kernel_rfl))).trans h0) (PA.below X) (done (by kernel_rfl) (rxu_refl _) rfl)
    · refine rs_plain rfl rfl fun a wr S => ?_
      have X := undrewX S.ext
      exact wp_qf1 (ev_of ((S.old 1 (by kernel_rfl)).trans rfl)) (done (by kernel_rfl) (rxu_refl _) rfl)
    · refine rs_plain rfl rfl fun a wr S => ?_
      have X := undrewX S.ext
      obtain ⟨v2, e2, h2⟩ := S.got 2 (by kernel_rfl)
      exact wp_qD ((ev_of (e2 8 (by kernel_rfl))).trans h2) (PA.below X) (done (by kernel_rfl) (rxu_refl _) rfl)
    · refine rs_plain rfl rfl fun a wr S => ?_
      have X := undrewX S.ext
      obtain ⟨v3, e3, h3⟩ := S.got 3 (by kernel_rfl)
      exact st_call cf_rat_unsigned (args1 ((ev_of (e3 9 (by kernel_rfl))).trans h3)) (by kernel_rfl) (rxu _) (cUnsigned _ _ _) (fun _ _ _ h => h)
    · refine rs_plain rfl rfl fun a wr S => ?_
      have X := undrewX S.ext
      obtain ⟨v1, e1, h1⟩ := S.got 1 (by kernel_rfl)
      obtain ⟨v4, e4, h4⟩ := S.got 4 (by kernel_rfl)
      exact st_call cf_big_Div (args2 ((ev_of (e1 7 (by kernel_rfl))).trans h1) ((ev_of (e4 10 (by kernel_rfl))).trans h4)) (by kernel_rfl) (rxu _) (cDiv (ZA.below X) (unsM (ND.below X)) (by omega) (by omega) HD.out X.size) (fun _ _ _ h => h)
    · refine rs_plain rfl rfl fun a wr S => ?_
      have X := undrewX S.ext
      obtain ⟨v5, e5, h5⟩ := S.got 5 (by kernel_rfl)
      exact wp_mv (ev_of (e5 11 (by kernel_rfl))) (done (by kernel_rfl) (rxu_refl _) h5)
    · refine rs_plain rfl rfl fun a wr S => ?_
      have X := undrewX S.ext
      obtain ⟨v6, e6, h6⟩ := S.got 6 (by kernel_rfl)
      obtain ⟨bb, AA, nn, cc, hvv, ZZ⟩ := (show IsZE _ wr _ (dq p.num ((p.den : Nat) : Int)) (k + 1) 0 from h6)
      exact wp_ext0 ((ev_of (e6 5 (by kernel_rfl))).trans hvv) (done (by kernel_rfl) (rxu_refl _) ⟨_, _, _, _, rfl, ZZ⟩)
    · refine rs_plain rfl rfl fun a wr S => ?_
      have X := undrewX S.ext
      obtain ⟨v6, e6, h6⟩ := S.got 6 (by kernel_rfl)
      obtain ⟨bb, AA, nn, cc, hvv, ZZ⟩ := (show IsZE _ wr _ (dq p.num ((p.den : Nat) : Int)) (k + 1) 0 from h6)
      exact wp_ext1 ((ev_of (e6 5 (by kernel_rfl))).trans hvv) (done (by kernel_rfl) (rxu_refl _) rfl)
    · refine rs_plain rfl rfl fun a wr S => ?_
      have X := undrewX S.ext
      refine st_alloc X.size (fun _ _ _ h => h) fun j vj u hj hs => ?_
      have hj' : j ∈ [9] := alloc_cases (by kernel_rfl) j hj
      simp only [List.mem_cons, List.not_mem_nil, or_false] at hj'
      subst hj'; exact hs
    · refine rs_plain rfl rfl fun a wr S => ?_
      have X := undrewX S.ext
      obtain ⟨v9, e9, h9⟩ := S.got 9 (by kernel_rfl)
      obtain ⟨v7, e7, h7⟩ := S.got 7 (by kernel_rfl)
      exact st_storeZ (by kernel_rfl) (by kernel_rfl) (ev_of (e9 3 (by kernel_rfl))) h9 (ev_of (e7 12 (by kernel_rfl))) h7 (fun _ _ _ h => h)
    · refine rs_plain rfl rfl fun a wr S => ?_
      have X := undrewX S.ext
      obtain ⟨v8, e8, h8⟩ := S.got 8 (by kernel_rfl)
      exact wp_as ((ev_of (e8 13 (by kernel_rfl))).trans h8) (done (by kernel_rfl) (rxu_refl _) rfl)
  · intro fa w2 hR hv
    replace hR := undrewX hR
    have f0 : fa 0 = .pointer (some ⟨w.heap.size, 0, none⟩) := (hvc (hv 0 (by omega))).elim fun _ h => h
    have f1 : fa 1 = .agg #[.bool b2, .slice A2 n2 c2] := (hvc (hv 1 (by omega))).elim fun _ h => h
    have f2 : fa 2 = .pointer (some ⟨w.heap.size, 2, none⟩) := (hvc (hv 2 (by omega))).elim fun _ h => h
    have f3 : fa 3 = .slice B2 m2 d2 := (hvc (hv 3 (by omega))).elim fun _ h => h
    have f4 : fa 4 = .agg #[.bool false, .slice B2 m2 d2] := (hvc (hv 4 (by omega))).elim fun _ h => h
    have f8 : fa 8 = .int .i64 0 := (hvc (hv 8 (by omega))).elim fun _ h => h
    have f11 : fa 11 = .int .i64 0 := (hvc (hv 11 (by omega))).elim fun _ h => h
    obtain ⟨gr, br, Ar, nr, cr, f9, hgr, Pr, Zr⟩ := (show HasZ _ (fa 9) w2 (dq p.num ((p.den : Nat) : Int)) (k + 1) from hvs (hv 10 (by omega)) (by kernel_rfl))
    simp only [putFn, Act.put, List.setIfInBounds_toArray, List.set_cons_zero, List.set_cons_succ, f0, f1, f2, f3, f4, f8, f11, f9]
    have hs2 := hR.size
    replace PR := PR.below hR
    replace BB := bl_trans BB hR
    rw [HF.out] at Zr
    have q2 : IsZ (w.heap.size + 1 + 1) w2 (.agg #[.bool br, .slice Ar nr cr]) p.floor (k + 1) := ⟨_, _, _, _, rfl, Zr.mono (by omega)⟩
    have s0 := Pr.c0
    have s1 := Pr.c1
    have r0 := PR.c0
    have r1 := PR.c1
    have f0 := PR.f 0
    have f1 := PR.f 1
    clear hR hv Zr PA ZA ND Pr hgr
    go_wp2_with fail
    exact bodyPost_ret (v := .agg #[.bool br, .slice Ar nr cr]) (by simp [results, Tryz.results75, go_sem, *]) rfl (fin_zz q2 BB (by omega) (by omega) _ _)

theorem cQFloor (h : IsQm w v p k) (hk : k ≤ 900) (hk1 : 1 ≤ k) : Calls Tryz.prog 33 #[v] w (Ans w fun w' v => IsZ w.heap.size w' v p.floor (k + 1)) := by
  obtain ⟨b2, A2, n2, c2, B2, m2, d2, rfl, _⟩ := id h
  have PA := (Bq.new w b2 A2 n2 c2 B2 m2 d2).alloc (.cells #[.bool false, .slice none 0 0] 24)
  have PR := Bz.new2 w (.cells #[.bool b2, .slice A2 n2 c2, .slice B2 m2 d2] 26) false none 0 0
  have BB := bl_trans (bl_alloc w (.cells #[.bool b2, .slice A2 n2 c2, .slice B2 m2 d2] 26)) (bl_alloc _ (.cells #[.bool false, .slice none 0 0] 24))
  have HA := Lib.hid (h.below BB)
  have x0 := PA.c0
  have x1 := PA.c1
  have x2 := PA.c2
  clear h
  go_enter Tryz.func33, Tryz.ntmps33
  go_wp2_with fail
  refine (madeZ_rat_Floor__1 (z' := p.floor) (k' := k + 1) HA.out (by omega) hk1 fun W u hW hsz hu => (cFloor1c hu (by omega)).mono fun e w' r => ?_).mono ?_
  · obtain ⟨v, rfl, hb, b, A, n, c, rfl, Z⟩ := r
    exact ⟨_, rfl, hb, b, A, n, c, rfl, Z.mono hsz⟩
  rintro e w1 ⟨_, rfl, hb1, q1⟩
  obtain ⟨b1, A1, n1, c1, rfl, _⟩ := id q1
  have hs1 := hb1.size
  simp only [hs_alloc] at hs1 q1
  replace PR := PR.below hb1
  replace BB := bl_trans BB hb1
  have r0 := PR.c0
  have r1 := PR.c1
  have f0 := PR.f 0
  have f1 := PR.f 1
  clear hb1 PA x0 x1 x2 HA
  go_wp2_with fail
  exact bodyPost_ret (v := .agg #[.bool b1, .slice A1 n1 c1]) (by simp [results, Tryz.results33, go_sem, *]) rfl (fin_zz q1 BB (by omega) (by omega) _ _)

theorem cQCeil (h : IsQm w v p k) (hk : k ≤ 18) (hk1 : 1 ≤ k) : Calls Tryz.prog 35 #[v] w (Ans w fun w' v => IsZ w.heap.size w' v p.ceil (k + 1)) := by
  obtain ⟨b2, A2, n2, c2, B2, m2, d2, rfl, _⟩ := id h
  have PA := (Bq.new w b2 A2 n2 c2 B2 m2 d2).alloc (.cells #[.bool false, .slice none 0 0] 24)
  have PR := Bz.new2 w (.cells #[.bool b2, .slice A2 n2 c2, .slice B2 m2 d2] 26) false none 0 0
  have BB := bl_trans (bl_alloc w (.cells #[.bool b2, .slice A2 n2 c2, .slice B2 m2 d2] 26)) (bl_alloc _ (.cells #[.bool false, .slice none 0 0] 24))
  have HA := Lib.hid (h.below BB)
  have x0 := PA.c0
  have x1 := PA.c1
  have x2 := PA.c2
  have HC := Lib.hid (Rat.ceil_eq_neg_floor_neg p)
  clear h
  go_enter Tryz.func35, Tryz.ntmps35
  go_wp2_with fail
  refine (cQNeg HA.out hk hk1).mono ?_
  rintro e w1 ⟨_, rfl, hb1, q1⟩
  obtain ⟨b1, A1, n1, c1, B1, m1, d1, rfl, _⟩ := id q1
  have hs1 := hb1.size
  simp only [hs_alloc] at hs1
  replace PR := PR.below hb1
  replace BB := bl_trans BB hb1
  clear hb1 PA x0 x1 x2 HA
  go_wp2_with fail
  refine (cQFloor q1.m (by omega) hk1).mono ?_
  rintro e w2 ⟨_, rfl, hb2, q2⟩
  obtain ⟨b2', A2', n2', c2', rfl, _⟩ := id q2
  have hs2 := hb2.size
  replace PR := PR.below hb2
  replace BB := bl_trans BB hb2
  clear hb2 q1
  go_wp2_with fail
  refine (cNeg (N := w.heap.size + 2) q2.m (by omega) (by omega)).mono ?_
  rw [← HC.out]
  rintro e w3 ⟨_, rfl, hb3, q3⟩
  obtain ⟨b3, A3, n3, c3, rfl, _⟩ := id q3
  replace PR := PR.below hb3
  replace BB := bl_trans BB hb3
  have r0 := PR.c0
  have r1 := PR.c1
  have f0 := PR.f 0
  have f1 := PR.f 1
  clear hb3 q2
  go_wp2_with fail
  exact bodyPost_ret (v := .agg #[.bool b3, .slice A3 n3 c3]) (by simp [results, Tryz.results35, go_sem, *]) rfl (fin_zz q3 BB (by omega) (by omega) _ _)
end

end Go.Proofs.YtbhgbilhoonopaaGreat
