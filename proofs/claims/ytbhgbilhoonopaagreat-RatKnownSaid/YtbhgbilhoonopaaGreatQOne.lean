/- rat's sums, differences, products over one D. -/
import Derived.Test.YtbhgbilhoonopaaGreatQMade
namespace Go.Proofs.YtbhgbilhoonopaaGreat
open Go.RowKit
set_option linter.unusedVariables false
set_option maxRecDepth 100000

theorem ansQ_base {w : World} {q : Rat} {k N : Nat} (hN : N ≤ w.heap.size) (e : Ending) (w' : World) (h : Ans w (fun w' v => IsQ w.heap.size w' v q k) e w') : Ans w (fun w' v => IsQ N w' v q k) e w' := by
  obtain ⟨v, rfl, hb, h⟩ := h
  exact ⟨v, rfl, hb, h.base hN⟩
def IsNgV (N : Nat) (w : World) (v s : Value) (z : Int) (k : Nat) : Prop := ∃ b A n c, v = .agg #[.bool b, .slice A n c, s] ∧ Zt w N b A n c z k
theorem sNgV {N : Nat} {s : Value} {z : Int} {k : Nat} : Stab RBu fun v _ w => IsNgV N w v s z k := fun _ _ _ _ _ r _ h => by
  obtain ⟨b, A, n, c, e, Z⟩ := h
  exact ⟨b, A, n, c, e, Z.below r⟩

section
variable {w w' : World} {v v' v'' : Value} {z u : Int} {x y k j i N : Nat} {q : Rat}
theorem IsN.mono (h : IsN w v x k) (hk : k ≤ j) : IsN w v x j := by
  obtain ⟨A, n, c, rfl, h⟩ := h
  exact ⟨A, n, c, rfl, ⟨h.row, Nat.le_trans h.le hk⟩⟩
set_option maxHeartbeats 2000000

theorem cSumOver (h : IsR2 w v z k u j) (g : IsN w v' y i) (hk : k ≤ 900) (hj : j ≤ 900) (hi : i ≤ 900) (hy : y ≠ 0) : Calls Tryz.prog 62 #[v', v] w (Ans w fun w' v => IsQ w.heap.size w' v (mkRat (z + u) y) (max (max k j + 1) i)) := by
  obtain ⟨D, l, e, rfl, g⟩ := g
  have PR := Bq.new w false none 0 0 none 0 0
  have BB := bl_alloc w (.cells #[.bool false, .slice none 0 0, .slice none 0 0] 26)
  have RR := h.below BB
  have NY := g.below BB
  obtain ⟨gr, s, A, n, c, s', A', n', c', rfl, _⟩ := id h
  have HY := Lib.hid hy
  clear h g hy
  go_enter Tryz.func62, Tryz.ntmps62
  go_wp2_with fail
  refine (cAdd2 (N := 0) RR (by omega) (by omega) (Nat.zero_le _)).mono ?_
  rintro e1 w1 ⟨_, rfl, hb1, q1⟩
  obtain ⟨b1, A1, n1, c1, rfl, Z1⟩ := id q1
  have hs1 := hb1.size
  simp only [hs_alloc] at hs1
  replace PR := PR.below hb1
  replace NY := NY.below hb1
  replace BB := bl_trans BB hb1
  clear hb1 RR Z1
  go_wp2_with fail
  refine (cLowest q1.m ⟨_, _, _, rfl, NY⟩ (by omega) (by omega) HY.out).mono ?_
  rintro e2 w2 ⟨_, rfl, hb2, q2⟩
  obtain ⟨b2, A2, n2, c2, B2, m2, d2, rfl, _⟩ := id q2
  replace PR := PR.below hb2
  replace BB := bl_trans BB hb2
  have r0 := PR.c0
  have r1 := PR.c1
  have r2 := PR.c2
  have f0 := PR.f 0
  have f1 := PR.f 1
  have f2 := PR.f 2
  clear hb2 q1 NY
  go_wp2_with fail
  exact bodyPost_ret (v := .agg #[.bool b2, .slice A2 n2 c2, .slice B2 m2 d2]) (by simp [results, Tryz.results62, go_sem, *]) rfl (fin_q q2 BB (by omega) (by omega) _ _ _)

theorem cAdd1c (h : IsM w v z k) (h' : IsM w v' u j) (g : IsN w v'' y i) (hk : k ≤ 900) (hj : j ≤ 900) (hi : i ≤ 900) (hy : y ≠ 0) : Calls Tryz.prog 61 #[v, v', v''] w (Ans w fun w' v => IsQ w.heap.size w' v (mkRat (z + u) y) (max (max k j + 1) i)) := by
  obtain ⟨b, A, n, c, rfl, h⟩ := h
  obtain ⟨t, B, m, d, rfl, h'⟩ := h'
  obtain ⟨D, l, e, rfl, g⟩ := g
  have PA := ((Bz.new w b A n c).alloc (.cells #[.bool t, .slice B m d] 24)).alloc (.cells #[.bool false, .slice none 0 0, .slice none 0 0] 26)
  have PB := (Bz.new2 w (.cells #[.bool b, .slice A n c] 24) t B m d).alloc (.cells #[.bool false, .slice none 0 0, .slice none 0 0] 26)
  have PR := Bq.new3 w (.cells #[.bool b, .slice A n c] 24) (.cells #[.bool t, .slice B m d] 24) false none 0 0 none 0 0
  have BB := bl_trans (bl_trans (bl_alloc w (.cells #[.bool b, .slice A n c] 24)) (bl_alloc _ (.cells #[.bool t, .slice B m d] 24))) (bl_alloc _ (.cells #[.bool false, .slice none 0 0, .slice none 0 0] 26))
  have ZA := h.below BB
  have ZB := h'.below BB
  have NY := g.below BB
  have HY := Lib.hid hy
  clear h h' g hy
  have a0 := PA.c0
  have a1 := PA.c1
  have b0 := PB.c0
  have b1 := PB.c1
  have RR := IsR2.new ZA ZB
  simp only [hs_alloc] at RR
  go_enter Tryz.func61, Tryz.ntmps61
  go_wp2_with fail
  refine (cSumOver RR ⟨_, _, _, rfl, NY.below (bl_alloc _ _)⟩ (by omega) (by omega) (by omega) HY.out).mono ?_
  rintro e2 w2 ⟨_, rfl, hb2, q2⟩
  simp only [hs_alloc] at q2
  replace hb2 := bl_trans (bl_alloc _ _) hb2
  obtain ⟨b2, A2, n2, c2, B2, m2, d2, rfl, _⟩ := id q2
  have hs2 := hb2.size
  replace PR := PR.below hb2
  replace BB := bl_trans BB hb2
  have r0 := PR.c0
  have r1 := PR.c1
  have r2 := PR.c2
  have f0 := PR.f 0
  have f1 := PR.f 1
  have f2 := PR.f 2
  clear hb2 RR ZA ZB NY PA PB a0 a1 b0 b1
  go_wp2_with fail
  exact bodyPost_ret (v := .agg #[.bool b2, .slice A2 n2 c2, .slice B2 m2 d2]) (by simp [results, Tryz.results61, go_sem, *]) rfl (fin_q (N := w.heap.size + 1 + 1 + 1) (q2.base (by omega)) BB (by omega) (by omega) _ _ _)

theorem cMul1c (h : IsM w v z k) (h' : IsM w v' u j) (g : IsN w v'' y i) (hk : k ≤ 900) (hj : j ≤ 900) (hi : i < 40) (hm : min k j < 40) (hy : y ≠ 0) : Calls Tryz.prog 65 #[v, v', v''] w (Ans w fun w' v => IsQ w.heap.size w' v (mkRat (z * u) (y * y)) (max (k + j) (i + i))) := by
  obtain ⟨b, A, n, c, rfl, h⟩ := h
  obtain ⟨t, B, m, d, rfl, h'⟩ := h'
  obtain ⟨D, l, e, rfl, g⟩ := g
  have PA := ((Bz.new w b A n c).alloc (.cells #[.bool t, .slice B m d] 24)).alloc (.cells #[.bool false, .slice none 0 0, .slice none 0 0] 26)
  have PB := (Bz.new2 w (.cells #[.bool b, .slice A n c] 24) t B m d).alloc (.cells #[.bool false, .slice none 0 0, .slice none 0 0] 26)
  have PR := Bq.new3 w (.cells #[.bool b, .slice A n c] 24) (.cells #[.bool t, .slice B m d] 24) false none 0 0 none 0 0
  have BB := bl_trans (bl_trans (bl_alloc w (.cells #[.bool b, .slice A n c] 24)) (bl_alloc _ (.cells #[.bool t, .slice B m d] 24))) (bl_alloc _ (.cells #[.bool false, .slice none 0 0, .slice none 0 0] 26))
  have ZA := h.below BB
  have ZB := h'.below BB
  have NY := g.below BB
  have HY := Lib.hid hy
  clear h h' g hy
  have a0 := PA.c0
  have a1 := PA.c1
  have b0 := PB.c0
  have b1 := PB.c1
  have RR := IsR2.new ZA ZB
  simp only [hs_alloc] at RR
  go_enter Tryz.func65, Tryz.ntmps65
  go_wp2_with fail
  refine (cMul2 (N := 0) RR (by omega) (by omega) hm (Nat.zero_le _)).mono ?_
  rintro e1 w1 ⟨_, rfl, hb1, q1⟩
  replace hb1 := bl_trans (bl_alloc _ _) hb1
  obtain ⟨b1', A1, n1, c1, rfl, _⟩ := id q1
  replace NY := NY.below hb1
  replace PR := PR.below hb1
  replace BB := bl_trans BB hb1
  clear hb1 RR ZA ZB PA PB a0 a1 b0 b1
  go_wp2_with fail
  refine (cMulD (N := 0) ⟨_, _, _, rfl, NY⟩ ⟨_, _, _, rfl, NY⟩ (by omega) (by omega) (by omega) (Nat.zero_le _)).mono ?_
  rintro e3 w3 ⟨_, rfl, hb3, q3⟩
  obtain ⟨A3, n3, c3, rfl, _⟩ := id q3
  replace q1 := q1.below hb3
  replace PR := PR.below hb3
  replace BB := bl_trans BB hb3
  have hl3 := PR.lt
  clear hb3 NY
  go_wp2_with fail
  refine (cLowest q1.m q3.n (by omega) (by omega) (Nat.mul_ne_zero HY.out HY.out)).mono ?_
  rintro e2 w2 ⟨_, rfl, hb2, q2⟩
  obtain ⟨b2, A2, n2, c2, B2, m2, d2, rfl, _⟩ := id q2
  have hs2 := hb2.size
  replace PR := PR.below hb2
  replace BB := bl_trans BB hb2
  have r0 := PR.c0
  have r1 := PR.c1
  have r2 := PR.c2
  have f0 := PR.f 0
  have f1 := PR.f 1
  have f2 := PR.f 2
  clear hb2 q1 q3
  go_wp2_with fail
  exact bodyPost_ret (v := .agg #[.bool b2, .slice A2 n2 c2, .slice B2 m2 d2]) (by simp [results, Tryz.results65, go_sem, *]) rfl (fin_q (N := w3.heap.size) (q2.base (by omega)) BB (by omega) (by omega) _ _ _)

theorem cCmp1c {p : Int} (h : IsM w v z k) (h' : IsM w v' u j) (g : IsN w v'' y i) (hk : k ≤ 900) (hj : j ≤ 900) (hi : i ≤ 900) (hp : cmpI z u = p) : Calls Tryz.prog 70 #[v, v', v''] w (Ans w fun _ v => v = .int .i64 p) := by
  obtain ⟨b, A, n, c, rfl, h⟩ := h
  obtain ⟨t, B, m, d, rfl, h'⟩ := h'
  obtain ⟨D, l, e, rfl, g⟩ := g
  have PA := (Bz.new w b A n c).alloc (.cells #[.bool t, .slice B m d] 24)
  have PB := Bz.new2 w (.cells #[.bool b, .slice A n c] 24) t B m d
  have BB := bl_trans (bl_alloc w (.cells #[.bool b, .slice A n c] 24)) (bl_alloc _ (.cells #[.bool t, .slice B m d] 24))
  have ZA := h.below BB
  have ZB := h'.below BB
  have NY := g.below BB
  clear h h' g
  have a0 := PA.c0
  have a1 := PA.c1
  have b0 := PB.c0
  have b1 := PB.c1
  go_enter Tryz.func70, Tryz.ntmps70
  go_wp2_with fail
  refine (cCmp ⟨_, _, _, _, rfl, ZA⟩ ⟨_, _, _, _, rfl, ZB⟩ (by omega) (by omega) hp).mono ?_
  rintro e1 w1 ⟨_, rfl, hb1, rfl⟩
  replace BB := bl_trans BB hb1
  clear hb1 ZA ZB NY PA PB a0 a1 b0 b1
  go_wp2_with fail
  go_ret
  exact ⟨_, rfl, BB, rfl⟩

theorem cSub1c (h : IsM w v z k) (h' : IsM w v' u j) (g : IsN w v'' y i) (hk : k ≤ 900) (hj : j ≤ 900) (hi : i ≤ 900) (hy : y ≠ 0) : Calls Tryz.prog 64 #[v, v', v''] w (Ans w fun w' v => IsQ w.heap.size w' v (mkRat (z + -u) y) (max (max k j + 1) i)) := by
  obtain ⟨b, A, n, c, rfl, h⟩ := h
  obtain ⟨t, B, m, d, rfl, h'⟩ := h'
  obtain ⟨D, l, e, rfl, g⟩ := g
  have PA := ((Bz.new w b A n c).alloc (.cells #[.bool t, .slice B m d] 24)).alloc (.cells #[.bool false, .slice none 0 0, .slice none 0 0] 26)
  have PB := (Bz.new2 w (.cells #[.bool b, .slice A n c] 24) t B m d).alloc (.cells #[.bool false, .slice none 0 0, .slice none 0 0] 26)
  have PR := Bq.new3 w (.cells #[.bool b, .slice A n c] 24) (.cells #[.bool t, .slice B m d] 24) false none 0 0 none 0 0
  have BB := bl_trans (bl_trans (bl_alloc w (.cells #[.bool b, .slice A n c] 24)) (bl_alloc _ (.cells #[.bool t, .slice B m d] 24))) (bl_alloc _ (.cells #[.bool false, .slice none 0 0, .slice none 0 0] 26))
  have ZA := h.below BB
  have ZB := h'.below BB
  have NY := g.below BB
  have HY := Lib.hid hy
  clear h h' g hy
  have a0 := PA.c0
  have a1 := PA.c1
  have b0 := PB.c0
  have b1 := PB.c1
  have QA : IsM _ (.agg #[.bool b, .slice A n c]) z k := ⟨_, _, _, _, rfl, ZA⟩
  have QB : IsM _ (.agg #[.bool t, .slice B m d]) u j := ⟨_, _, _, _, rfl, ZB⟩
  have IY : IsN _ (.slice D l e) y i := ⟨_, _, _, rfl, NY⟩
  clear a0 a1 b0 b1
  go_enter Tryz.func64, Tryz.ntmps64
  go_wp2_with fail
  have hs0 : (((w.alloc (.cells #[.bool b, .slice A n c] 24)).alloc (.cells #[.bool t, .slice B m d] 24)).alloc (.cells #[.bool false, .slice none 0 0, .slice none 0 0] 26)).heap.size = w.heap.size + 1 + 1 + 1 := by simp
  generalize (((w.alloc (.cells #[.bool b, .slice A n c] 24)).alloc (.cells #[.bool t, .slice B m d] 24)).alloc (.cells #[.bool false, .slice none 0 0, .slice none 0 0] 26)) = W0 at PA PB PR BB QA QB IY hs0 ⊢
  clear ZA ZB NY
  refine wp_cut (by kernel_rfl) 6 ?_
  simp only [List.take_succ_cons, List.take_zero, List.drop_succ_cons, List.drop_zero]
  refine wp_cut_list (Ext := RB) (Rel := RBu) [fun v _ _ => v = .slice D l e, fun v _ _ => v = .agg #[.bool b, .slice A n c], fun v _ _ => v = .agg #[.bool t, .slice B m d], fun v _ w => IsZ (W0).heap.size w v (-u) j, fun v _ w => IsR2 w v (z) k (-u) j, fun v _ w => IsQ (W0).heap.size w v (mkRat (z + (-u)) y) (max (max k j + 1) i)] (n := 6) (by kernel_rfl) (by kernel_rfl) (by kernel_rfl) (by kernel_rfl) (by kernel_rfl) (by kernel_rfl) (by kernel_rfl) (by kernel_rfl) (by kernel_rfl) rb_refl rb_trans ⟨sC, ⟨sC, ⟨sC, ⟨sZ, ⟨sR2, ⟨sQ, trivial⟩⟩⟩⟩⟩⟩ ?_ ?_
  · refine ⟨⟨⟨⟨⟨⟨trivial, ?_⟩, ?_⟩, ?_⟩, ?_⟩, ?_⟩, ?_⟩
    · refine rs_plain rfl rfl fun a wr S => ?_
      have X := undrew S.ext
      exact wp_mv (ev_of ((S.old 2 (by kernel_rfl)).trans rfl)) (done (by kernel_rfl) rbu_refl rfl)
    · refine rs_plain rfl rfl fun a wr S => ?_
      have X := undrew S.ext
      exact wp_load (ev_of ((S.old 3 (by kernel_rfl)).trans rfl)) (PA.below X) (done (by kernel_rfl) rbu_refl rfl)
    · refine rs_plain rfl rfl fun a wr S => ?_
      have X := undrew S.ext
      exact wp_load (ev_of ((S.old 4 (by kernel_rfl)).trans rfl)) (PB.below X) (done (by kernel_rfl) rbu_refl rfl)
    · refine rs_plain rfl rfl fun a wr S => ?_
      have X := undrew S.ext
      obtain ⟨v2, e2, h2⟩ := S.got 2 (by kernel_rfl)
      exact st_call cf_big_Neg (args1 ((ev_of (e2 9 (by kernel_rfl))).trans h2)) (by kernel_rfl) rb (cNeg (QB.below X) (by omega) X.size) (fun _ _ _ h => h)
    · refine rs_plain rfl rfl fun a wr S => ?_
      have X := undrew S.ext
      obtain ⟨v1, e1, h1⟩ := S.got 1 (by kernel_rfl)
      obtain ⟨v3, e3, h3⟩ := S.got 3 (by kernel_rfl)
      obtain ⟨b0, A0, n0, c0, hv0, Z0⟩ := (show IsM wr _ _ _ from (QA.below X))
      obtain ⟨b1, A1, n1, c1, hv1, Z1⟩ := (show IsM wr _ _ _ from h3.m)
      exact wp_bs2 (((ev_of (e1 8 (by kernel_rfl))).trans h1).trans hv0) ((ev_of (e3 10 (by kernel_rfl))).trans hv1) (done' (by kernel_rfl) (rb _ _ _ (bl_alloc _ _)) (IsR2.new Z0 Z1))
    · refine rs_plain rfl rfl fun a wr S => ?_
      have X := undrew S.ext
      obtain ⟨v0, e0, h0⟩ := S.got 0 (by kernel_rfl)
      obtain ⟨v4, e4, h4⟩ := S.got 4 (by kernel_rfl)
      exact st_call cf_rat_sumOver (args2 ((ev_of (e0 7 (by kernel_rfl))).trans h0) (ev_of (e4 11 (by kernel_rfl)))) (by kernel_rfl) rb ((cSumOver (show IsR2 _ _ _ _ _ _ from h4) (IY.below X) (by omega) (by omega) (by omega) HY.out).mono (ansQ_base X.size)) (fun _ _ _ h => h)
  · intro fa w2 hR hv hap
    clear hap
    replace hR := undrew hR
    have f0 : fa 0 = .slice D l e := (hvc (hv 0 (by omega))).elim fun _ h => h
    have f1 : fa 1 = .agg #[.bool b, .slice A n c] := (hvc (hv 1 (by omega))).elim fun _ h => h
    have f2 : fa 2 = .agg #[.bool t, .slice B m d] := (hvc (hv 2 (by omega))).elim fun _ h => h
    obtain ⟨bq, Aq, nq, cq, Bq, mq, dq, f5, Zq, Oq, lq⟩ := (show IsQ _ w2 _ (mkRat (z + (-u)) y) (max (max k j + 1) i) from (hvc (hv 5 (by omega))).elim fun _ h => h)
    simp only [putFn, Act.put, List.setIfInBounds_toArray, List.set_cons_zero, List.set_cons_succ, f0, f1, f2, f5]
    have hs2 := hR.size
    have q2 : IsQ (w.heap.size + 1 + 1 + 1) w2 (.agg #[.bool bq, .slice Aq nq cq, .slice Bq mq dq]) (mkRat (z + -u) y) (max (max k j + 1) i) := ⟨_, _, _, _, _, _, _, rfl, Zq.mono (by omega), Oq.mono (by omega), lq⟩
    replace PR := PR.below hR
    replace BB := bl_trans BB hR
    have r0 := PR.c0
    have r1 := PR.c1
    have r2 := PR.c2
    have f0 := PR.f 0
    have f1 := PR.f 1
    have f2 := PR.f 2
    clear hR hv Zq Oq lq QA QB IY PA PB
    go_wp2_with fail
    exact bodyPost_ret (v := .agg #[.bool bq, .slice Aq nq cq, .slice Bq mq dq]) (by simp [results, Tryz.results64, go_sem, *]) rfl (fin_q q2 BB (by omega) (by omega) _ _ _)

theorem cNeg1c (h : IsQ N w v q k) (hk : k ≤ 900) (hN : N ≤ w.heap.size) : Calls Tryz.prog 58 #[v] w (Ans w fun w' v => IsQ N w' v (-q) k) := by
  obtain ⟨b, A, n, c, B, m, d, rfl, Z, O, l⟩ := h
  have PA := (Bq.new w b A n c B m d).alloc (.cells #[.bool false, .slice none 0 0, .slice none 0 0] 26)
  have PR := Bq.new2 w (.cells #[.bool b, .slice A n c, .slice B m d] 26) false none 0 0 none 0 0
  have BB := bl_trans (bl_alloc w (.cells #[.bool b, .slice A n c, .slice B m d] 26)) (bl_alloc _ (.cells #[.bool false, .slice none 0 0, .slice none 0 0] 26))
  have QA : IsM _ (.agg #[.bool b, .slice A n c]) q.num k := ⟨_, _, _, _, rfl, Z.zm.below BB⟩
  have ND : Nm _ B m d q.den k := ⟨⟨_, O.rd.below BB, M.val_lims _⟩, l⟩
  have HO := Lib.hid O
  have HL := Lib.hid l
  clear Z O l
  go_enter Tryz.func58, Tryz.ntmps58
  go_wp2_with fail
  have hs0 : ((w.alloc (.cells #[.bool b, .slice A n c, .slice B m d] 26)).alloc (.cells #[.bool false, .slice none 0 0, .slice none 0 0] 26)).heap.size = w.heap.size + 1 + 1 := by simp
  generalize ((w.alloc (.cells #[.bool b, .slice A n c, .slice B m d] 26)).alloc (.cells #[.bool false, .slice none 0 0, .slice none 0 0] 26)) = W0 at PA PR BB QA ND hs0 ⊢
  refine wp_cut (by kernel_rfl) 6 ?_
  simp only [List.take_succ_cons, List.take_zero, List.drop_succ_cons, List.drop_zero]
  refine wp_cut_list (Ext := RB) (Rel := RBu) [fun v _ _ => v = .pointer (some ⟨w.heap.size, 0, none⟩), fun v _ _ => v = .agg #[.bool b, .slice A n c], fun v _ w => IsZ (W0).heap.size w v (-q.num) k, fun v _ _ => v = .pointer (some ⟨w.heap.size, 2, none⟩), fun v _ _ => v = .slice B m d, fun v _ w => IsNgV (W0).heap.size w v (.slice B m d) (-q.num) k] (n := 6) (by kernel_rfl) (by kernel_rfl) (by kernel_rfl) (by kernel_rfl) (by kernel_rfl) (by kernel_rfl) (by kernel_rfl) (by kernel_rfl) (by kernel_rfl) rb_refl rb_trans ⟨sC, ⟨sC, ⟨sZ, ⟨sC, ⟨sC, ⟨sNgV, trivial⟩⟩⟩⟩⟩⟩ ?_ ?_
  · refine ⟨⟨⟨⟨⟨⟨trivial, ?_⟩, ?_⟩, ?_⟩, ?_⟩, ?_⟩, ?_⟩
    · refine rs_plain rfl rfl fun a wr S => ?_
      have X := undrew S.ext
      exact wp_qf0 (ev_of ((S.old 1 (by kernel_rfl)).trans rfl)) (done (by kernel_rfl) rbu_refl rfl)
    · refine rs_plain rfl rfl fun a wr S => ?_
      have X := undrew S.ext
      obtain ⟨v0, e0, h0⟩ := S.got 0 (by kernel_rfl)
      exact wp_qN ((ev_of (e0 3 (by kernel_rfl))).trans h0) (PA.below X) (done (by kernel_rfl) rbu_refl rfl)
    · refine rs_plain rfl rfl fun a wr S => ?_
      have X := undrew S.ext
      obtain ⟨v1, e1, h1⟩ := S.got 1 (by kernel_rfl)
      exact st_call cf_big_Neg (args1 ((ev_of (e1 4 (by kernel_rfl))).trans h1)) (by kernel_rfl) rb (cNeg (QA.below X) (by omega) X.size) (fun _ _ _ h => h)
    · refine rs_plain rfl rfl fun a wr S => ?_
      have X := undrew S.ext
      exact wp_qf1 (ev_of ((S.old 1 (by kernel_rfl)).trans rfl)) (done (by kernel_rfl) rbu_refl rfl)
    · refine rs_plain rfl rfl fun a wr S => ?_
      have X := undrew S.ext
      obtain ⟨v3, e3, h3⟩ := S.got 3 (by kernel_rfl)
      exact wp_qD ((ev_of (e3 6 (by kernel_rfl))).trans h3) (PA.below X) (done (by kernel_rfl) rbu_refl rfl)
    · refine rs_plain rfl rfl fun a wr S => ?_
      have X := undrew S.ext
      obtain ⟨v2, e2, h2⟩ := S.got 2 (by kernel_rfl)
      obtain ⟨v4, e4, h4⟩ := S.got 4 (by kernel_rfl)
      obtain ⟨bb, AA, nn, cc, hvv, ZZ⟩ := (show IsZ _ wr _ (-q.num) k from h2)
      exact wp_bQ ((ev_of (e2 5 (by kernel_rfl))).trans hvv) ((ev_of (e4 7 (by kernel_rfl))).trans h4) (done (by kernel_rfl) rbu_refl ⟨_, _, _, _, rfl, ZZ⟩)
  · intro fa w2 hR hv hap
    clear hap
    replace hR := undrew hR
    have f0 : fa 0 = .pointer (some ⟨w.heap.size, 0, none⟩) := (hvc (hv 0 (by omega))).elim fun _ h => h
    have f1 : fa 1 = .agg #[.bool b, .slice A n c] := (hvc (hv 1 (by omega))).elim fun _ h => h
    have f3 : fa 3 = .pointer (some ⟨w.heap.size, 2, none⟩) := (hvc (hv 3 (by omega))).elim fun _ h => h
    have f4 : fa 4 = .slice B m d := (hvc (hv 4 (by omega))).elim fun _ h => h
    obtain ⟨bq, Aq, nq, cq, f5, Zq⟩ := (show IsNgV _ w2 _ _ _ _ from (hvc (hv 5 (by omega))).elim fun _ h => h)
    simp only [putFn, Act.put, List.setIfInBounds_toArray, List.set_cons_zero, List.set_cons_succ, f0, f1, f3, f4, f5]
    have hs2 := hR.size
    replace PR := PR.below hR
    replace BB := bl_trans BB hR
    have r0 := PR.c0
    have r1 := PR.c1
    have r2 := PR.c2
    have f0 := PR.f 0
    have f1 := PR.f 1
    have f2 := PR.f 2
    have HB := Lib.hid (((BB.setCell (p := ⟨w.heap.size + 1, 0, none⟩) (by simp) (.bool bq)).setCell (p := ⟨w.heap.size + 1, 1, none⟩) (by simp) (.slice Aq nq cq)).setCell (p := ⟨w.heap.size + 1, 2, none⟩) (by simp) (.slice B m d))
    have HZ := Lib.hid (((Zq.stored (g := w.heap.size + 1) (by omega) 0 (.bool bq)).stored (g := w.heap.size + 1) (by omega) 1 (.slice Aq nq cq)).stored (g := w.heap.size + 1) (by omega) 2 (.slice B m d))
    clear hR hv Zq QA ND PA BB
    go_wp2_with fail
    exact bodyPost_ret (v := .agg #[.bool bq, .slice Aq nq cq, .slice B m d]) (by simp [results, Tryz.results58, go_sem, *]) rfl ⟨_, rfl, HB.out, isQ_mk (HZ.out.mono (by omega)) (HO.out.below HB.out) HL.out⟩

end

end Go.Proofs.YtbhgbilhoonopaaGreat
