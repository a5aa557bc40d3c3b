/- rat.Div, of what is not 0. -/
import Derived.Test.YtbhgbilhoonopaaGreatQE
namespace Go.Proofs.YtbhgbilhoonopaaGreat
open Go.RowKit
set_option linter.unusedVariables false
set_option maxRecDepth 100000

set_option maxHeartbeats 2000000 in
theorem madeE_ofTwoR1 {w : World} {v : Value} {q : Rat} {k : Nat} {cap0 cap1 : Value} {q' : Rat} {k' ge : Nat} {o : Int} (h : IsQm w v q k) (hk : k ≤ 900) (hk1 : 1 ≤ k) (hge : ge < w.heap.size) (hf : ∀ W u, Below w.heap.size w W → w.heap.size + 2 ≤ W.heap.size → IsQ (w.heap.size + 2) W u q k → Calls Tryz.prog 97 #[u, cap0, cap1] W (AnsE ge W fun w' v => IsQ (w.heap.size + 2) w' v q' k' ∧ Be w' ge o)) : Calls Tryz.prog 57 #[v, .func (Fn.func 97) #[] #[cap0, cap1]] w (AnsE ge w fun w' v => IsQ w.heap.size w' v q' k' ∧ Be w' ge o) := by
  obtain ⟨b, A, n, c, B, m, d, rfl, z, y, hz, hy, rfl⟩ := h
  have PA := (Bq.new w b A n c B m d).alloc (.cells #[.bool false, .slice none 0 0, .slice none 0 0] 26)
  have PR := Bq.new2 w (.cells #[.bool b, .slice A n c, .slice B m d] 26) false none 0 0 none 0 0
  have BB := bl_trans (bl_alloc w (.cells #[.bool b, .slice A n c, .slice B m d] 26)) (bl_alloc _ (.cells #[.bool false, .slice none 0 0, .slice none 0 0] 26))
  have HF := Lib.hid hf
  have ZA := hz.below BB
  have NY := hy.below BB
  have HZ := Lib.hid hz
  clear hf hz hy
  have p2 := PA.c2
  go_enter Tryz.func57, Tryz.ntmps57
  go_wp2_with fail
  refine (cmpN NY (nilN _) (by omega) (Nat.zero_le _)).mono ?_
  rintro e w1 ⟨rfl, hb1⟩
  have hs1 := hb1.size
  simp only [hs_alloc] at hs1
  replace PA := PA.below hb1
  replace ZA := ZA.below hb1
  replace NY := NY.below hb1
  replace PR := PR.below hb1
  replace BB := bl_trans BB hb1
  clear hb1 p2
  by_cases hy0 : y = 0
  · subst hy0
    rw [cmpV_eq]
    have p1 := PA.c2
    have g2 := PA.f 2
    go_wp2_with fail
    refine (cFromD (N := w.heap.size + 2) 1 (by omega) (by omega)).mono ?_
    rintro e w2 ⟨_, rfl, hb2, D1, n1, c1, rfl, o1, l1⟩
    have hs2 := hb2.size
    replace PA := PA.below hb2
    replace PR := PR.below hb2
    replace ZA := ZA.below hb2
    replace BB := bl_trans BB hb2
    clear hb2 p1 g2 NY
    have p0 := PA.c0
    have p1 := PA.c1
    have p2 := PA.c2
    have g2 := PA.f 2
    go_wp2_with fail
    clear p0 p1 p2 g2
    replace PA := PA.setD D1 n1 c1
    replace PR := PR.other (g' := w.heap.size) (i := 2) (v := .slice D1 n1 c1) (by omega)
    replace BB := BB.setCell (p := ⟨w.heap.size, 2, none⟩) (Nat.le_refl _) (.slice D1 n1 c1)
    replace ZA := HZ.out.below BB
    have ND : Nm (w2.setCell ⟨w.heap.size, 2, none⟩ (.slice D1 n1 c1)) D1 n1 c1 1 1 := ⟨⟨_, (OwK.rd (o1.grown (grownBy_setCell w2 ⟨w.heap.size, 2, none⟩ (.slice D1 n1 c1)) (fun p hp e => by injection e with e; have := (OwK.lt o1 hp).1; dsimp only at e; omega))), M.val_lims 1⟩, l1⟩
    have hs4 : w.heap.size + 2 ≤ (w2.setCell ⟨w.heap.size, 2, none⟩ (.slice D1 n1 c1)).heap.size := by simp [World.setCell]; omega
    generalize w2.setCell ⟨w.heap.size, 2, none⟩ (.slice D1 n1 c1) = W2 at PA PR BB ZA ND hs4 ⊢
    clear o1 l1
    refine (cLowest ⟨_, _, _, _, rfl, ZA⟩ ⟨_, _, _, rfl, ND⟩ (by omega) (by omega) (by omega)).mono ?_
    rintro e w3 ⟨u, rfl, hb3, q3⟩
    have hs3 := hb3.size
    have q3' := (q3.mono (show max k 1 ≤ k by omega)).base (N' := w.heap.size + 2) (by omega)
    replace PR := PR.below hb3
    replace BB := bl_trans BB hb3
    clear hb3 q3  PA ZA ND
    go_wp2_with fail
    refine (HF.out _ _ BB (by omega) (by rw [dOf_zero]; exact q3')).mono ?_
    rintro e w4 ⟨r, rfl, hb4, q4, he4⟩
    obtain ⟨b4, A4, n4, c4, B4, m4, d4, rfl, q4'⟩ := id q4
    replace PR := PR.blE hb4 (by omega)
    have r0 := PR.c0
    have f0 := PR.f 0
    have r1 := PR.c1
    have f1 := PR.f 1
    have r2 := PR.c2
    have f2 := PR.f 2
    have BE := BlE.of BB hb4
    clear hb4 q3' HF
    clear q4'
    go_wp2_with fail
    exact bodyPost_ret (v := .agg #[.bool b4, .slice A4 n4 c4, .slice B4 m4 d4]) (by simp [results, Tryz.results57, go_sem, *]) rfl (fin_qE q4 he4 BE hge (by omega) (by omega) _ _ _)
  · have HY := Lib.hid hy0
    have hc : (cmpV y 0 == 0) = false := by rw [cmpV_gt (by omega)]; rfl
    rw [cmpV_gt (show 0 < y by omega)]
    clear hc hy0
    have p0 := PA.c0
    have p1 := PA.c1
    have p2 := PA.c2
    go_wp2_with fail
    refine (cLowest ⟨_, _, _, _, rfl, ZA⟩ ⟨_, _, _, rfl, NY⟩ (by omega) (by omega) HY.out).mono ?_
    rintro e w3 ⟨u, rfl, hb3, q3⟩
    have hs3 := hb3.size
    have q3' := (q3.mono (show max k k ≤ k by omega)).base (N' := w.heap.size + 2) (by omega)
    replace PR := PR.below hb3
    replace BB := bl_trans BB hb3
    clear hb3 q3 p0 p1 p2 PA ZA NY
    go_wp2_with fail
    refine (HF.out _ _ BB (by omega) (by rw [dOf_of HY.out]; exact q3')).mono ?_
    rintro e w4 ⟨r, rfl, hb4, q4, he4⟩
    obtain ⟨b4, A4, n4, c4, B4, m4, d4, rfl, q4'⟩ := id q4
    replace PR := PR.blE hb4 (by omega)
    have r0 := PR.c0
    have f0 := PR.f 0
    have r1 := PR.c1
    have f1 := PR.f 1
    have r2 := PR.c2
    have f2 := PR.f 2
    have BE := BlE.of BB hb4
    clear hb4 q3' HF
    clear q4'
    go_wp2_with fail
    exact bodyPost_ret (v := .agg #[.bool b4, .slice A4 n4 c4, .slice B4 m4 d4]) (by simp [results, Tryz.results57, go_sem, *]) rfl (fin_qE q4 he4 BE hge (by omega) (by omega) _ _ _)

set_option maxHeartbeats 2000000 in
theorem madeE_ofTwoR2 {w : World} {v : Value} {q : Rat} {k : Nat} {cap0 cap1 : Value} {q' : Rat} {k' ge : Nat} {o : Int} (h : IsQm w v q k) (hk : k ≤ 900) (hk1 : 1 ≤ k) (hge : ge < w.heap.size) (hf : ∀ W u, Below w.heap.size w W → w.heap.size + 2 ≤ W.heap.size → IsQ (w.heap.size + 2) W u q k → Calls Tryz.prog 98 #[u, cap0, cap1] W (AnsE ge W fun w' v => IsQ (w.heap.size + 2) w' v q' k' ∧ Be w' ge o)) : Calls Tryz.prog 57 #[v, .func (Fn.func 98) #[] #[cap0, cap1]] w (AnsE ge w fun w' v => IsQ w.heap.size w' v q' k' ∧ Be w' ge o) := by
  obtain ⟨b, A, n, c, B, m, d, rfl, z, y, hz, hy, rfl⟩ := h
  have PA := (Bq.new w b A n c B m d).alloc (.cells #[.bool false, .slice none 0 0, .slice none 0 0] 26)
  have PR := Bq.new2 w (.cells #[.bool b, .slice A n c, .slice B m d] 26) false none 0 0 none 0 0
  have BB := bl_trans (bl_alloc w (.cells #[.bool b, .slice A n c, .slice B m d] 26)) (bl_alloc _ (.cells #[.bool false, .slice none 0 0, .slice none 0 0] 26))
  have HF := Lib.hid hf
  have ZA := hz.below BB
  have NY := hy.below BB
  have HZ := Lib.hid hz
  clear hf hz hy
  have p2 := PA.c2
  go_enter Tryz.func57, Tryz.ntmps57
  go_wp2_with fail
  refine (cmpN NY (nilN _) (by omega) (Nat.zero_le _)).mono ?_
  rintro e w1 ⟨rfl, hb1⟩
  have hs1 := hb1.size
  simp only [hs_alloc] at hs1
  replace PA := PA.below hb1
  replace ZA := ZA.below hb1
  replace NY := NY.below hb1
  replace PR := PR.below hb1
  replace BB := bl_trans BB hb1
  clear hb1 p2
  by_cases hy0 : y = 0
  · subst hy0
    rw [cmpV_eq]
    have p1 := PA.c2
    have g2 := PA.f 2
    go_wp2_with fail
    refine (cFromD (N := w.heap.size + 2) 1 (by omega) (by omega)).mono ?_
    rintro e w2 ⟨_, rfl, hb2, D1, n1, c1, rfl, o1, l1⟩
    have hs2 := hb2.size
    replace PA := PA.below hb2
    replace PR := PR.below hb2
    replace ZA := ZA.below hb2
    replace BB := bl_trans BB hb2
    clear hb2 p1 g2 NY
    have p0 := PA.c0
    have p1 := PA.c1
    have p2 := PA.c2
    have g2 := PA.f 2
    go_wp2_with fail
    clear p0 p1 p2 g2
    replace PA := PA.setD D1 n1 c1
    replace PR := PR.other (g' := w.heap.size) (i := 2) (v := .slice D1 n1 c1) (by omega)
    replace BB := BB.setCell (p := ⟨w.heap.size, 2, none⟩) (Nat.le_refl _) (.slice D1 n1 c1)
    replace ZA := HZ.out.below BB
    have ND : Nm (w2.setCell ⟨w.heap.size, 2, none⟩ (.slice D1 n1 c1)) D1 n1 c1 1 1 := ⟨⟨_, (OwK.rd (o1.grown (grownBy_setCell w2 ⟨w.heap.size, 2, none⟩ (.slice D1 n1 c1)) (fun p hp e => by injection e with e; have := (OwK.lt o1 hp).1; dsimp only at e; omega))), M.val_lims 1⟩, l1⟩
    have hs4 : w.heap.size + 2 ≤ (w2.setCell ⟨w.heap.size, 2, none⟩ (.slice D1 n1 c1)).heap.size := by simp [World.setCell]; omega
    generalize w2.setCell ⟨w.heap.size, 2, none⟩ (.slice D1 n1 c1) = W2 at PA PR BB ZA ND hs4 ⊢
    clear o1 l1
    refine (cLowest ⟨_, _, _, _, rfl, ZA⟩ ⟨_, _, _, rfl, ND⟩ (by omega) (by omega) (by omega)).mono ?_
    rintro e w3 ⟨u, rfl, hb3, q3⟩
    have hs3 := hb3.size
    have q3' := (q3.mono (show max k 1 ≤ k by omega)).base (N' := w.heap.size + 2) (by omega)
    replace PR := PR.below hb3
    replace BB := bl_trans BB hb3
    clear hb3 q3  PA ZA ND
    go_wp2_with fail
    refine (HF.out _ _ BB (by omega) (by rw [dOf_zero]; exact q3')).mono ?_
    rintro e w4 ⟨r, rfl, hb4, q4, he4⟩
    obtain ⟨b4, A4, n4, c4, B4, m4, d4, rfl, q4'⟩ := id q4
    replace PR := PR.blE hb4 (by omega)
    have r0 := PR.c0
    have f0 := PR.f 0
    have r1 := PR.c1
    have f1 := PR.f 1
    have r2 := PR.c2
    have f2 := PR.f 2
    have BE := BlE.of BB hb4
    clear hb4 q3' HF
    clear q4'
    go_wp2_with fail
    exact bodyPost_ret (v := .agg #[.bool b4, .slice A4 n4 c4, .slice B4 m4 d4]) (by simp [results, Tryz.results57, go_sem, *]) rfl (fin_qE q4 he4 BE hge (by omega) (by omega) _ _ _)
  · have HY := Lib.hid hy0
    have hc : (cmpV y 0 == 0) = false := by rw [cmpV_gt (by omega)]; rfl
    rw [cmpV_gt (show 0 < y by omega)]
    clear hc hy0
    have p0 := PA.c0
    have p1 := PA.c1
    have p2 := PA.c2
    go_wp2_with fail
    refine (cLowest ⟨_, _, _, _, rfl, ZA⟩ ⟨_, _, _, rfl, NY⟩ (by omega) (by omega) HY.out).mono ?_
    rintro e w3 ⟨u, rfl, hb3, q3⟩
    have hs3 := hb3.size
    have q3' := (q3.mono (show max k k ≤ k by omega)).base (N' := w.heap.size + 2) (by omega)
    replace PR := PR.below hb3
    replace BB := bl_trans BB hb3
    clear hb3 q3 p0 p1 p2 PA ZA NY
    go_wp2_with fail
    refine (HF.out _ _ BB (by omega) (by rw [dOf_of HY.out]; exact q3')).mono ?_
    rintro e w4 ⟨r, rfl, hb4, q4, he4⟩
    obtain ⟨b4, A4, n4, c4, B4, m4, d4, rfl, q4'⟩ := id q4
    replace PR := PR.blE hb4 (by omega)
    have r0 := PR.c0
    have f0 := PR.f 0
    have r1 := PR.c1
    have f1 := PR.f 1
    have r2 := PR.c2
    have f2 := PR.f 2
    have BE := BlE.of BB hb4
    clear hb4 q3' HF
    clear q4'
    go_wp2_with fail
    exact bodyPost_ret (v := .agg #[.bool b4, .slice A4 n4 c4, .slice B4 m4 d4]) (by simp [results, Tryz.results57, go_sem, *]) rfl (fin_qE q4 he4 BE hge (by omega) (by omega) _ _ _)

theorem one_le_of {x k : Nat} (h : x ≠ 0) (g : x < M.R ^ k) : 1 ≤ k := by
  rcases k with _ | k
  · rw [Nat.pow_zero] at g; omega
  · omega
theorem eO_eQ (p q : Rat) : eO (q.num * ((ofB p q : Nat) : Int)) = eQ q := by
  unfold eO eQ
  by_cases h : q = 0
  · rw [if_pos h, if_pos (by rw [h]; simp)]
  · rw [if_neg h, if_neg (Int.mul_ne_zero (fun e => h (Rat.num_eq_zero.1 e)) (by have := two_B_pos p q; omega))]
set_option maxHeartbeats 4000000 in
theorem two2_Div {w : World} {v : Value} {p q : Rat} {k j N ga gt ge : Nat} {o : Int} {b : Bool} {A B : Option Addr} {n c m d : Nat} (hb : IsQ N w v q j) (PA : Bq w ga b A n c B m d) (QP : IsQt w (.agg #[.bool b, .slice A n c, .slice B m d]) p k) (PT : Bf w gt (.func (Fn.func 49) #[] #[.pointer (some ⟨ge, 0, none⟩)]) 58) (PE : Be w ge o) (hk : k ≤ 18) (hj : j ≤ 18) : Calls Tryz.prog 98 #[v, .pointer (some ⟨ga, 0, none⟩), .pointer (some ⟨gt, 0, none⟩)] w (AnsE ge w fun w' v => IsQ w.heap.size w' v (p / q) (k + j) ∧ Be w' ge (eQ q)) := by
  obtain ⟨t, A', n', c', B', m', d', rfl, Zb, Ob, lb⟩ := hb
  have h1 := QP.num_lt
  have h2 := QP.den_lt
  have h3 : q.num.natAbs < M.R ^ j := Zb.tm.nm.lt
  have h4 : q.den < M.R ^ j := by rw [← M.lims_length_le, Ob.len]; exact lb
  obtain ⟨_, _, _, _, _, _, _, ea, Ta, hsa, Da⟩ := QP
  cases ea
  have HG := Lib.hid (show p.den.gcd q.den ≠ 0 by have := two_g p q; omega)
  have PB := (Bq.new w t A' n' c' B' m' d').alloc (.cells #[.bool false, .slice none 0 0, .slice none 0 0] 26)
  have PR := Bq.new2 w (.cells #[.bool t, .slice A' n' c', .slice B' m' d'] 26) false none 0 0 none 0 0
  have BB := bl_trans (bl_alloc w (.cells #[.bool t, .slice A' n' c', .slice B' m' d'] 26)) (bl_alloc _ (.cells #[.bool false, .slice none 0 0, .slice none 0 0] 26))
  have hge := PE.lt
  replace PE := PE.below BB
  have HM := Lib.hid (eO_eQ p q)
  have HT := Lib.hid (two_div p q)
  have hga := PA.lt
  have hgt := PT.lt
  replace PA := PA.below BB
  replace PT := PT.below BB
  have NA : Nm _ B m d p.den k := (Da.nm).below BB
  have NB : Nm _ B' m' d' q.den j := Nm.below ⟨⟨_, Ob.rd, M.val_lims _⟩, lb⟩ BB
  have ZA : IsM ((w.alloc (.cells #[.bool t, .slice A' n' c', .slice B' m' d'] 26)).alloc (.cells #[.bool false, .slice none 0 0, .slice none 0 0] 26)) (.agg #[.bool b, .slice A n c]) p.num k := by
    refine ⟨_, _, _, _, rfl, ⟨⟨_, Ta.nm.below BB, ?_⟩⟩⟩
    rw [hsa]
    by_cases h : p.num < 0
    · rw [decide_eq_true h, zv_true]; omega
    · rw [decide_eq_false h, zv_false]; omega
  have ZB : IsM ((w.alloc (.cells #[.bool t, .slice A' n' c', .slice B' m' d'] 26)).alloc (.cells #[.bool false, .slice none 0 0, .slice none 0 0] 26)) (.agg #[.bool t, .slice A' n' c']) q.num j := ⟨_, _, _, _, rfl, Zb.zm.below BB⟩
  have hs0 : ((w.alloc (.cells #[.bool t, .slice A' n' c', .slice B' m' d'] 26)).alloc (.cells #[.bool false, .slice none 0 0, .slice none 0 0] 26)).heap.size = w.heap.size + 2 := by simp
  clear Zb Ob lb Ta hsa Da
  have a2 := PA.c2
  have b2 := PB.c2
  go_enter Tryz.func98, Tryz.ntmps98
  go_wp2_with fail
  clear a2 b2
  generalize ((w.alloc (.cells #[.bool t, .slice A' n' c', .slice B' m' d'] 26)).alloc (.cells #[.bool false, .slice none 0 0, .slice none 0 0] 26)) = W0 at PA PB PT PR PE NA NB ZA ZB BB hs0 ⊢
  refine (cGcd (N := 0) ⟨_, _, _, rfl, NA⟩ ⟨_, _, _, rfl, NB⟩ (by omega) (by omega) (Nat.zero_le _)).mono ?_
  rintro e w1 ⟨_, rfl, hb1, G, gn, gc, rfl, og, lg⟩
  have NG : Nm w1 G gn gc (p.den.gcd q.den) (max k j) := ⟨⟨_, og.rd, M.val_lims _⟩, lg⟩
  have hs1 := hb1.size
  replace PA := PA.below hb1
  replace PB := PB.below hb1
  replace PT := PT.below hb1
  replace PR := PR.below hb1
  replace PE := PE.below hb1
  replace NA := NA.below hb1
  replace NB := NB.below hb1
  replace ZA := ZA.below hb1
  replace ZB := ZB.below hb1
  replace BB := bl_trans BB hb1
  clear hb1 og lg
  go_wp2_with fail
  refine wp_region_list (Ext := RB) (Rel := RBu) [fun v _ _ => v = .pointer (some ⟨w.heap.size, 2, none⟩), fun v _ _ => v = .slice B' m' d', fun v _ _ => v = .slice G gn gc, fun v _ w => IsD (w1).heap.size w v (q.den / (p.den.gcd q.den)) j, fun v _ _ => v = .pointer (some ⟨ga, 2, none⟩), fun v _ _ => v = .slice B m d, fun v _ _ => v = .slice G gn gc, fun v _ w => IsD (w1).heap.size w v (p.den / (p.den.gcd q.den)) k, fun v _ w => IsD (w1).heap.size w v (q.den / (p.den.gcd q.den)) j, fun v _ w => IsD (w1).heap.size w v (p.den / (p.den.gcd q.den)) k] (n := 10) (by kernel_rfl) rfl (by kernel_rfl) (by kernel_rfl) (by kernel_rfl) (by kernel_rfl) (by kernel_rfl) rb_refl rb_trans ⟨sC, ⟨sC, ⟨sC, ⟨sD, ⟨sC, ⟨sC, ⟨sC, ⟨sD, ⟨sD, ⟨sD, trivial⟩⟩⟩⟩⟩⟩⟩⟩⟩⟩ ?_ ?_
  · refine ⟨⟨⟨⟨⟨⟨⟨⟨⟨⟨trivial, ?_⟩, ?_⟩, ?_⟩, ?_⟩, ?_⟩, ?_⟩, ?_⟩, ?_⟩, ?_⟩, ?_⟩
    · refine rs_plain rfl rfl fun a wr S => ?_
      have X := undrew S.ext
      exact wp_qf1 (ev_of ((S.old 3 (by kernel_rfl)).trans rfl)) (done (by kernel_rfl) rbu_refl rfl)
    · refine rs_plain rfl rfl fun a wr S => ?_
      have X := undrew S.ext
      obtain ⟨v0, e0, h0⟩ := S.got 0 (by kernel_rfl)
      exact wp_qD ((ev_of (e0 15 (by kernel_rfl))).trans h0) (PB.below X) (done (by kernel_rfl) rbu_refl rfl)
    · refine rs_plain rfl rfl fun a wr S => ?_
      have X := undrew S.ext
      exact wp_mv (ev_of ((S.old 5 (by kernel_rfl)).trans rfl)) (done (by kernel_rfl) rbu_refl rfl)
    · refine rs_plain rfl rfl fun a wr S => ?_
      have X := undrew S.ext
      obtain ⟨v1, e1, h1⟩ := S.got 1 (by kernel_rfl)
      obtain ⟨v2, e2, h2⟩ := S.got 2 (by kernel_rfl)
      exact st_call cf_rat_without (args2 ((ev_of (e1 16 (by kernel_rfl))).trans h1) ((ev_of (e2 17 (by kernel_rfl))).trans h2)) (by kernel_rfl) rb (cWithout ⟨_, _, _, rfl, NB.below X⟩ ⟨_, _, _, rfl, NG.below X⟩ (by omega) (by omega) HG.out X.size) (fun _ _ _ h => h)
    · refine rs_plain rfl rfl fun a wr S => ?_
      have X := undrew S.ext
      exact wp_qf1 (ev_of ((S.old 1 (by kernel_rfl)).trans rfl)) (done (by kernel_rfl) rbu_refl rfl)
    · refine rs_plain rfl rfl fun a wr S => ?_
      have X := undrew S.ext
      obtain ⟨v4, e4, h4⟩ := S.got 4 (by kernel_rfl)
      exact wp_qD ((ev_of (e4 19 (by kernel_rfl))).trans h4) (PA.below X) (done (by kernel_rfl) rbu_refl rfl)
    · refine rs_plain rfl rfl fun a wr S => ?_
      have X := undrew S.ext
      exact wp_mv (ev_of ((S.old 5 (by kernel_rfl)).trans rfl)) (done (by kernel_rfl) rbu_refl rfl)
    · refine rs_plain rfl rfl fun a wr S => ?_
      have X := undrew S.ext
      obtain ⟨v5, e5, h5⟩ := S.got 5 (by kernel_rfl)
      obtain ⟨v6, e6, h6⟩ := S.got 6 (by kernel_rfl)
      exact st_call cf_rat_without (args2 ((ev_of (e5 20 (by kernel_rfl))).trans h5) ((ev_of (e6 21 (by kernel_rfl))).trans h6)) (by kernel_rfl) rb (cWithout ⟨_, _, _, rfl, NA.below X⟩ ⟨_, _, _, rfl, NG.below X⟩ (by omega) (by omega) HG.out X.size) (fun _ _ _ h => h)
    · refine rs_plain rfl rfl fun a wr S => ?_
      have X := undrew S.ext
      obtain ⟨v3, e3, h3⟩ := S.got 3 (by kernel_rfl)
      exact wp_as (ev_of (e3 18 (by kernel_rfl))) (done (by kernel_rfl) rbu_refl h3)
    · refine rs_plain rfl rfl fun a wr S => ?_
      have X := undrew S.ext
      obtain ⟨v7, e7, h7⟩ := S.got 7 (by kernel_rfl)
      exact wp_as (ev_of (e7 22 (by kernel_rfl))) (done (by kernel_rfl) rbu_refl h7)
  · intro fa w2 hR hv
    replace hR := undrew hR
    have f0 : fa 0 = .pointer (some ⟨w.heap.size, 2, none⟩) := (hvc (hv 0 (by omega))).elim fun _ h => h
    have f1 : fa 1 = .slice B' m' d' := (hvc (hv 1 (by omega))).elim fun _ h => h
    have f2 : fa 2 = .slice G gn gc := (hvc (hv 2 (by omega))).elim fun _ h => h
    have f4 : fa 4 = .pointer (some ⟨ga, 2, none⟩) := (hvc (hv 4 (by omega))).elim fun _ h => h
    have f5 : fa 5 = .slice B m d := (hvc (hv 5 (by omega))).elim fun _ h => h
    have f6 : fa 6 = .slice G gn gc := (hvc (hv 6 (by omega))).elim fun _ h => h
    obtain ⟨Ax, nx, cx, f8, Ox, lx⟩ := (show IsD _ w2 _ (q.den / (p.den.gcd q.den)) j from (hvc (hv 8 (by omega))).elim fun _ h => h)
    obtain ⟨Ay, ny, cy, f9, Oy, ly⟩ := (show IsD _ w2 _ (p.den / (p.den.gcd q.den)) k from (hvc (hv 9 (by omega))).elim fun _ h => h)
    simp only [putFn, Act.put, List.setIfInBounds_toArray, List.set_cons_zero, List.set_cons_succ, f0, f1, f2, f4, f5, f6, f8, f9]
    have NX : Nm w2 Ax nx cx (ofA p q) j := ⟨⟨_, Ox.rd, M.val_lims _⟩, lx⟩
    have NY : Nm w2 Ay ny cy (ofB p q) k := ⟨⟨_, Oy.rd, M.val_lims _⟩, ly⟩
    have hs2 := hR.size
    replace PA := PA.below hR
    replace PB := PB.below hR
    replace PT := PT.below hR
    replace PR := PR.below hR
    replace PE := PE.below hR
    replace NA := NA.below hR
    replace NB := NB.below hR
    replace ZA := ZA.below hR
    replace ZB := ZB.below hR
    replace BB := bl_trans BB hR
    clear hR hv Ox lx Oy ly NG NB
    go_wp2_with fail
    refine wp_region_list (Ext := (BelX (w2).heap.size)) (Rel := (BelU (w2).heap.size)) [fun v _ _ => v = .pointer (some ⟨ga, 0, none⟩), fun v _ _ => v = .agg #[.bool b, .slice A n c], fun v _ _ => v = .slice Ax nx cx, fun v _ _ => v = .agg #[.bool false, .slice Ax nx cx], fun v _ w => IsR2 w v (p.num) k (((ofA p q : Nat) : Int)) j, fun v _ w => IsZ (w2).heap.size w v (p.num * (((ofA p q : Nat) : Int))) (k + j), fun v _ w => IsP (w2).heap.size v w, fun _ u w => HasZ (w2).heap.size u w (p.num * (((ofA p q : Nat) : Int))) (k + j)] (n := 8) (by kernel_rfl) rfl (by kernel_rfl) (by kernel_rfl) (by kernel_rfl) (by kernel_rfl) (by kernel_rfl) (rx_refl _) (rxu_trans _) ⟨sC, ⟨sC, ⟨sC, ⟨sC, ⟨xR2, ⟨xZ, ⟨xP, ⟨xHZ, trivial⟩⟩⟩⟩⟩⟩⟩⟩ ?_ ?_
    · refine ⟨⟨⟨⟨⟨⟨⟨⟨trivial, ?_⟩, ?_⟩, ?_⟩, ?_⟩, ?_⟩, ?_⟩, ?_⟩, ?_⟩
      · refine rs_plain rfl rfl fun a wr S => ?_
        have X := undrewX S.ext
        exact wp_qf0 (ev_of ((S.old 1 (by kernel_rfl)).trans rfl)) (done (by kernel_rfl) (rxu_refl _) rfl)
      · refine rs_plain rfl rfl fun a wr S => ?_
        have X := undrewX S.ext
        obtain ⟨v0, e0, h0⟩ := S.got 0 (by kernel_rfl)
        exact wp_qN ((ev_of (e0 23 (by kernel_rfl))).trans h0) (PA.below X) (done (by kernel_rfl) (rxu_refl _) rfl)
      · refine rs_plain rfl rfl fun a wr S => ?_
        have X := undrewX S.ext
        exact wp_mv (ev_of ((S.old 6 (by kernel_rfl)).trans rfl)) (done (by kernel_rfl) (rxu_refl _) rfl)
      · refine rs_plain rfl rfl fun a wr S => ?_
        have X := undrewX S.ext
        obtain ⟨v2, e2, h2⟩ := S.got 2 (by kernel_rfl)
        exact st_call cf_rat_unsigned (args1 ((ev_of (e2 25 (by kernel_rfl))).trans h2)) (by kernel_rfl) (rxu _) (cUnsigned _ _ _) (fun _ _ _ h => h)
      · refine rs_plain rfl rfl fun a wr S => ?_
        have X := undrewX S.ext
        obtain ⟨v1, e1, h1⟩ := S.got 1 (by kernel_rfl)
        obtain ⟨v3, e3, h3⟩ := S.got 3 (by kernel_rfl)
        obtain ⟨b0, A0, n0, c0, hv0, Z0⟩ := (show IsM wr _ _ _ from (ZA.below X))
        obtain ⟨b1, A1, n1, c1, hv1, Z1⟩ := (show IsM wr _ _ _ from (unsM (NX.below X)))
        exact wp_bs2 (((ev_of (e1 24 (by kernel_rfl))).trans h1).trans hv0) (((ev_of (e3 26 (by kernel_rfl))).trans h3).trans hv1) (done' (by kernel_rfl) ((rxu _) _ _ _ (bl_alloc _ _)) (IsR2.new Z0 Z1))
      · refine rs_plain rfl rfl fun a wr S => ?_
        have X := undrewX S.ext
        obtain ⟨v4, e4, h4⟩ := S.got 4 (by kernel_rfl)
        exact st_call cf_big_Mul (args1 (ev_of (e4 27 (by kernel_rfl)))) (by kernel_rfl) (rxu _) (cMul2 (z := p.num) (u := (((ofA p q : Nat) : Int))) h4 (by omega) (by omega) (by omega) X.size) (fun _ _ _ h => h)
      · refine rs_plain rfl rfl fun a wr S => ?_
        have X := undrewX S.ext
        refine st_alloc X.size (fun _ _ _ h => h) fun j vj u hj hs => ?_
        have hj' : j ∈ [6] := alloc_cases (by kernel_rfl) j hj
        simp only [List.mem_cons, List.not_mem_nil, or_false] at hj'
        subst hj'; exact hs
      · refine rs_plain rfl rfl fun a wr S => ?_
        have X := undrewX S.ext
        obtain ⟨v6, e6, h6⟩ := S.got 6 (by kernel_rfl)
        obtain ⟨v5, e5, h5⟩ := S.got 5 (by kernel_rfl)
        exact st_storeZ (by kernel_rfl) (by kernel_rfl) (ev_of (e6 8 (by kernel_rfl))) h6 (ev_of (e5 28 (by kernel_rfl))) h5 (fun _ _ _ h => h)
    · intro fb w3 hR hv
      replace hR := undrewX hR
      have f0 : fb 0 = .pointer (some ⟨ga, 0, none⟩) := (hvc (hv 0 (by omega))).elim fun _ h => h
      have f1 : fb 1 = .agg #[.bool b, .slice A n c] := (hvc (hv 1 (by omega))).elim fun _ h => h
      have f2 : fb 2 = .slice Ax nx cx := (hvc (hv 2 (by omega))).elim fun _ h => h
      have f3 : fb 3 = .agg #[.bool false, .slice Ax nx cx] := (hvc (hv 3 (by omega))).elim fun _ h => h
      obtain ⟨gn, bn, An, nn, cn, f6, hgn, Pn, Zn⟩ := (show HasZ _ (fb 6) w3 (p.num * (((ofA p q : Nat) : Int))) (k + j) from hvs (hv 7 (by omega)) (by kernel_rfl))
      simp only [putFn, Act.put, List.setIfInBounds_toArray, List.set_cons_zero, List.set_cons_succ, f0, f1, f2, f3, f6]
      have hs3 := hR.size
      replace PA := PA.below hR
      replace PB := PB.below hR
      replace PT := PT.below hR
      replace PR := PR.below hR
      replace PE := PE.below hR
      replace NA := NA.below hR
      replace ZA := ZA.below hR
      replace ZB := ZB.below hR
      replace NX := NX.below hR
      replace NY := NY.below hR
      replace BB := bl_trans BB hR
      have QN : IsM w3 (.agg #[.bool bn, .slice An nn cn]) (p.num * ((ofA p q : Nat) : Int)) (k + j) := ⟨_, _, _, _, rfl, Zn.zm⟩
      clear hR hv Zn hgn ZA
      go_wp2_with fail
      refine wp_region_list (Ext := (BelX (w3).heap.size)) (Rel := (BelU (w3).heap.size)) [fun v _ _ => v = .pointer (some ⟨w.heap.size, 0, none⟩), fun v _ _ => v = .agg #[.bool t, .slice A' n' c'], fun v _ _ => v = .slice Ay ny cy, fun v _ _ => v = .agg #[.bool false, .slice Ay ny cy], fun v _ w => IsR2 w v (q.num) j (((ofB p q : Nat) : Int)) k, fun v _ w => IsZ (w3).heap.size w v (q.num * (((ofB p q : Nat) : Int))) (j + k), fun v _ w => IsP (w3).heap.size v w, fun _ u w => HasZ (w3).heap.size u w (q.num * (((ofB p q : Nat) : Int))) (j + k)] (n := 8) (by kernel_rfl) rfl (by kernel_rfl) (by kernel_rfl) (by kernel_rfl) (by kernel_rfl) (by kernel_rfl) (rx_refl _) (rxu_trans _) ⟨sC, ⟨sC, ⟨sC, ⟨sC, ⟨xR2, ⟨xZ, ⟨xP, ⟨xHZ, trivial⟩⟩⟩⟩⟩⟩⟩⟩ ?_ ?_
      · refine ⟨⟨⟨⟨⟨⟨⟨⟨trivial, ?_⟩, ?_⟩, ?_⟩, ?_⟩, ?_⟩, ?_⟩, ?_⟩, ?_⟩
        · refine rs_plain rfl rfl fun a wr S => ?_
          have X := undrewX S.ext
          exact wp_qf0 (ev_of ((S.old 3 (by kernel_rfl)).trans rfl)) (done (by kernel_rfl) (rxu_refl _) rfl)
        · refine rs_plain rfl rfl fun a wr S => ?_
          have X := undrewX S.ext
          obtain ⟨v0, e0, h0⟩ := S.got 0 (by kernel_rfl)
          exact wp_qN ((ev_of (e0 29 (by kernel_rfl))).trans h0) (PB.below X) (done (by kernel_rfl) (rxu_refl _) rfl)
        · refine rs_plain rfl rfl fun a wr S => ?_
          have X := undrewX S.ext
          exact wp_mv (ev_of ((S.old 7 (by kernel_rfl)).trans rfl)) (done (by kernel_rfl) (rxu_refl _) rfl)
        · refine rs_plain rfl rfl fun a wr S => ?_
          have X := undrewX S.ext
          obtain ⟨v2, e2, h2⟩ := S.got 2 (by kernel_rfl)
          exact st_call cf_rat_unsigned (args1 ((ev_of (e2 31 (by kernel_rfl))).trans h2)) (by kernel_rfl) (rxu _) (cUnsigned _ _ _) (fun _ _ _ h => h)
        · refine rs_plain rfl rfl fun a wr S => ?_
          have X := undrewX S.ext
          obtain ⟨v1, e1, h1⟩ := S.got 1 (by kernel_rfl)
          obtain ⟨v3, e3, h3⟩ := S.got 3 (by kernel_rfl)
          obtain ⟨b0, A0, n0, c0, hv0, Z0⟩ := (show IsM wr _ _ _ from (ZB.below X))
          obtain ⟨b1, A1, n1, c1, hv1, Z1⟩ := (show IsM wr _ _ _ from (unsM (NY.below X)))
          exact wp_bs2 (((ev_of (e1 30 (by kernel_rfl))).trans h1).trans hv0) (((ev_of (e3 32 (by kernel_rfl))).trans h3).trans hv1) (done' (by kernel_rfl) ((rxu _) _ _ _ (bl_alloc _ _)) (IsR2.new Z0 Z1))
        · refine rs_plain rfl rfl fun a wr S => ?_
          have X := undrewX S.ext
          obtain ⟨v4, e4, h4⟩ := S.got 4 (by kernel_rfl)
          exact st_call cf_big_Mul (args1 (ev_of (e4 33 (by kernel_rfl)))) (by kernel_rfl) (rxu _) (cMul2 (z := q.num) (u := (((ofB p q : Nat) : Int))) h4 (by omega) (by omega) (by omega) X.size) (fun _ _ _ h => h)
        · refine rs_plain rfl rfl fun a wr S => ?_
          have X := undrewX S.ext
          refine st_alloc X.size (fun _ _ _ h => h) fun j vj u hj hs => ?_
          have hj' : j ∈ [6] := alloc_cases (by kernel_rfl) j hj
          simp only [List.mem_cons, List.not_mem_nil, or_false] at hj'
          subst hj'; exact hs
        · refine rs_plain rfl rfl fun a wr S => ?_
          have X := undrewX S.ext
          obtain ⟨v6, e6, h6⟩ := S.got 6 (by kernel_rfl)
          obtain ⟨v5, e5, h5⟩ := S.got 5 (by kernel_rfl)
          exact st_storeZ (by kernel_rfl) (by kernel_rfl) (ev_of (e6 9 (by kernel_rfl))) h6 (ev_of (e5 34 (by kernel_rfl))) h5 (fun _ _ _ h => h)
      · intro fc w4 hR hv
        replace hR := undrewX hR
        have f0 : fc 0 = .pointer (some ⟨w.heap.size, 0, none⟩) := (hvc (hv 0 (by omega))).elim fun _ h => h
        have f1 : fc 1 = .agg #[.bool t, .slice A' n' c'] := (hvc (hv 1 (by omega))).elim fun _ h => h
        have f2 : fc 2 = .slice Ay ny cy := (hvc (hv 2 (by omega))).elim fun _ h => h
        have f3 : fc 3 = .agg #[.bool false, .slice Ay ny cy] := (hvc (hv 3 (by omega))).elim fun _ h => h
        obtain ⟨gm, bm, Am, nm, cm, f6, hgm, Pm, Zm⟩ := (show HasZ _ (fc 6) w4 (q.num * (((ofB p q : Nat) : Int))) (j + k) from hvs (hv 7 (by omega)) (by kernel_rfl))
        simp only [putFn, Act.put, List.setIfInBounds_toArray, List.set_cons_zero, List.set_cons_succ, f0, f1, f2, f3, f6]
        have hs4 := hR.size
        replace PA := PA.below hR
        replace PB := PB.below hR
        replace PT := PT.below hR
        replace PR := PR.below hR
        replace PE := PE.below hR
        replace NA := NA.below hR
        replace ZB := ZB.below hR
        replace NX := NX.below hR
        replace NY := NY.below hR
        replace Pn := Pn.below hR
        replace QN := QN.below hR
        replace BB := bl_trans BB hR
        have QM : IsM w4 (.agg #[.bool bm, .slice Am nm cm]) (q.num * ((ofB p q : Nat) : Int)) (j + k) := ⟨_, _, _, _, rfl, Zm.zm⟩
        clear hR hv Zm hgm ZB NY PB
        go_wp2_with fail
        refine wp_cut (by kernel_rfl) 7 ?_
        simp only [List.take_succ_cons, List.take_zero, List.drop_succ_cons, List.drop_zero]
        refine wp_cut_list (Ext := RB) (Rel := RBu) [fun v _ _ => v = .func (Fn.func 49) #[] #[.pointer (some ⟨ge, 0, none⟩)], fun v _ _ => v = .agg #[.bool bn, .slice An nn cn], fun v _ _ => v = .agg #[.bool bm, .slice Am nm cm], fun v _ _ => v = .pointer (some ⟨ga, 2, none⟩), fun v _ _ => v = .slice B m d, fun v _ _ => v = .slice Ax nx cx, fun v _ w => IsD (w4).heap.size w v (p.den * (ofA p q)) (k + j)] (n := 7) (by kernel_rfl) (by kernel_rfl) (by kernel_rfl) (by kernel_rfl) (by kernel_rfl) (by kernel_rfl) (by kernel_rfl) (by kernel_rfl) (by kernel_rfl) rb_refl rb_trans ⟨sC, ⟨sC, ⟨sC, ⟨sC, ⟨sC, ⟨sC, ⟨sD, trivial⟩⟩⟩⟩⟩⟩⟩ ?_ ?_
        · refine ⟨⟨⟨⟨⟨⟨⟨trivial, ?_⟩, ?_⟩, ?_⟩, ?_⟩, ?_⟩, ?_⟩, ?_⟩
          · refine rs_plain rfl rfl fun a wr S => ?_
            have X := undrew S.ext
            exact wp_floadR (ev_of ((S.old 2 (by kernel_rfl)).trans rfl)) (PT.below X) (done (by kernel_rfl) rbu_refl rfl)
          · refine rs_plain rfl rfl fun a wr S => ?_
            have X := undrew S.ext
            exact wp_load (ev_of ((S.old 8 (by kernel_rfl)).trans rfl)) (Pn.below X) (done (by kernel_rfl) rbu_refl rfl)
          · refine rs_plain rfl rfl fun a wr S => ?_
            have X := undrew S.ext
            exact wp_load (ev_of ((S.old 9 (by kernel_rfl)).trans rfl)) (Pm.below X) (done (by kernel_rfl) rbu_refl rfl)
          · refine rs_plain rfl rfl fun a wr S => ?_
            have X := undrew S.ext
            exact wp_qf1 (ev_of ((S.old 1 (by kernel_rfl)).trans rfl)) (done (by kernel_rfl) rbu_refl rfl)
          · refine rs_plain rfl rfl fun a wr S => ?_
            have X := undrew S.ext
            obtain ⟨v3, e3, h3⟩ := S.got 3 (by kernel_rfl)
            exact wp_qD ((ev_of (e3 38 (by kernel_rfl))).trans h3) (PA.below X) (done (by kernel_rfl) rbu_refl rfl)
          · refine rs_plain rfl rfl fun a wr S => ?_
            have X := undrew S.ext
            exact wp_mv (ev_of ((S.old 6 (by kernel_rfl)).trans rfl)) (done (by kernel_rfl) rbu_refl rfl)
          · refine rs_plain rfl rfl fun a wr S => ?_
            have X := undrew S.ext
            obtain ⟨v4, e4, h4⟩ := S.got 4 (by kernel_rfl)
            obtain ⟨v5, e5, h5⟩ := S.got 5 (by kernel_rfl)
            exact st_call cf_nat_Mul (args2 ((ev_of (e4 39 (by kernel_rfl))).trans h4) ((ev_of (e5 40 (by kernel_rfl))).trans h5)) (by kernel_rfl) rb (cMulD ⟨_, _, _, rfl, NA.below X⟩ ⟨_, _, _, rfl, NX.below X⟩ (by omega) (by omega) (by omega) X.size) (fun _ _ _ h => h)
        · intro fd w5 hR hv hap
          clear hap
          replace hR := undrew hR
          have f0 : fd 0 = .func (Fn.func 49) #[] #[.pointer (some ⟨ge, 0, none⟩)] := (hvc (hv 0 (by omega))).elim fun _ h => h
          have f1 : fd 1 = .agg #[.bool bn, .slice An nn cn] := (hvc (hv 1 (by omega))).elim fun _ h => h
          have f2 : fd 2 = .agg #[.bool bm, .slice Am nm cm] := (hvc (hv 2 (by omega))).elim fun _ h => h
          have f3 : fd 3 = .pointer (some ⟨ga, 2, none⟩) := (hvc (hv 3 (by omega))).elim fun _ h => h
          have f4 : fd 4 = .slice B m d := (hvc (hv 4 (by omega))).elim fun _ h => h
          have f5 : fd 5 = .slice Ax nx cx := (hvc (hv 5 (by omega))).elim fun _ h => h
          obtain ⟨Az, nz, cz, f6, Oz, lz⟩ := (show IsD _ w5 _ (p.den * (ofA p q)) (k + j) from (hvc (hv 6 (by omega))).elim fun _ h => h)
          simp only [putFn, Act.put, List.setIfInBounds_toArray, List.set_cons_zero, List.set_cons_succ, f0, f1, f2, f3, f4, f5, f6]
          have hs5 := hR.size
          replace QN := QN.below hR
          replace QM := QM.below hR
          replace PR := PR.below hR
          replace PE := PE.below hR
          replace BB := bl_trans BB hR
          have ND : IsN w5 (.slice Az nz cz) (p.den * ofA p q) (k + j) := ⟨_, _, _, rfl, ⟨⟨_, Oz.rd, M.val_lims _⟩, lz⟩⟩
          have hd0 : p.den * ofA p q ≠ 0 := Nat.mul_ne_zero p.den_nz (two_A_pos p q)
          clear hR hv Oz lz PA PT NA NX Pn Pm
          go_wp2_with fail
          refine (cDiv1e QN QM PE (by omega) (by omega) (one_le_of hd0 ND.lt)).mono ?_
          rintro e w6 ⟨_, rfl, hb6, q6, he6⟩
          rw [HT.out] at q6
          replace he6 := HM.out ▸ he6
          replace q6 := q6.mono (show _ ≤ k + j by omega)
          obtain ⟨b6, A6, n6, c6, B6, m6, d6, rfl, _⟩ := id q6
          replace PR := PR.blE hb6 (by omega)
          have BE := BlE.of BB hb6
          have r0 := PR.c0
          have f0 := PR.f 0
          have r1 := PR.c1
          have f1 := PR.f 1
          have r2 := PR.c2
          have f2 := PR.f 2
          clear hb6 QN QM ND
          go_wp2_with fail
          exact bodyPost_ret (v := .agg #[.bool b6, .slice A6 n6 c6, .slice B6 m6 d6]) (by simp [results, Tryz.results98, go_sem, *]) rfl (fin_qE q6 he6 BE hge (by omega) (by omega) _ _ _)

set_option maxHeartbeats 4000000 in
theorem two1_Div {w : World} {v : Value} {p q : Rat} {k j N gb gt ge : Nat} {o : Int} {b2 : Bool} {A2 B2 : Option Addr} {n2 c2 m2 d2 : Nat} (hp : IsQ N w v p k) (PB : Bq w gb b2 A2 n2 c2 B2 m2 d2) (QB : IsQm w (.agg #[.bool b2, .slice A2 n2 c2, .slice B2 m2 d2]) q j) (PT : Bf w gt (.func (Fn.func 49) #[] #[.pointer (some ⟨ge, 0, none⟩)]) 58) (PE : Be w ge o) (hk : k ≤ 18) (hj : j ≤ 18) (hj1 : 1 ≤ j) : Calls Tryz.prog 97 #[v, .pointer (some ⟨gb, 0, none⟩), .pointer (some ⟨gt, 0, none⟩)] w (AnsE ge w fun w' v => IsQ w.heap.size w' v (p / q) (k + j) ∧ Be w' ge (eQ q)) := by
  have hpt := hp.t
  obtain ⟨b0, A0, n0, c0, B0, m0, d0, rfl, _⟩ := hp
  have PA := (Bq.new w b0 A0 n0 c0 B0 m0 d0).alloc (.cells #[.bool false, .slice none 0 0, .slice none 0 0] 26)
  have PR := Bq.new2 w (.cells #[.bool b0, .slice A0 n0 c0, .slice B0 m0 d0] 26) false none 0 0 none 0 0
  have BB := bl_trans (bl_alloc w (.cells #[.bool b0, .slice A0 n0 c0, .slice B0 m0 d0] 26)) (bl_alloc _ (.cells #[.bool false, .slice none 0 0, .slice none 0 0] 26))
  have hge := PE.lt
  have HE := Lib.hid (PE.below BB)
  clear PE
  have HP := Lib.hid (hpt.below BB)
  have HA := Lib.hid PA
  replace PB := PB.below BB
  have HT := Lib.hid (PT.below BB)
  have HB := Lib.hid (QB.below BB)
  clear hpt QB PT PA
  have y0 := PB.c0
  have y1 := PB.c1
  have y2 := PB.c2
  go_enter Tryz.func97, Tryz.ntmps97
  go_wp2_with fail
  refine (madeE_ofTwoR2 (q' := (p / q)) (k' := (k + j)) (ge := ge) (o := eQ q) HB.out (by omega) hj1 (by simp; omega) fun W u hW hsz hu => (two2_Div hu (HA.out.below hW) (HP.out.below hW) (HT.out.below hW) (HE.out.below hW) hk hj).mono fun e w' r => ?_).mono ?_
  · exact ansE_base hsz e w' r
  clear y0 y1 y2 PB HA HB HT HP
  rintro e w1 ⟨_, rfl, hb1, q1, he1⟩
  obtain ⟨b1, A1, n1, c1, B1, m1, d1, rfl, _⟩ := id q1
  replace PR := PR.blE hb1 (by omega)
  have BE := BlE.of BB hb1
  have r0 := PR.c0
  have f0 := PR.f 0
  have r1 := PR.c1
  have f1 := PR.f 1
  have r2 := PR.c2
  have f2 := PR.f 2
  clear hb1
  go_wp2_with fail
  exact bodyPost_ret (v := .agg #[.bool b1, .slice A1 n1 c1, .slice B1 m1 d1]) (by simp [results, Tryz.results97, go_sem, *]) rfl (fin_qE (N := w.heap.size + 1 + 1) (q1.base (by simp)) he1 BE hge (by omega) (by omega) _ _ _)

set_option maxHeartbeats 4000000 in
theorem two0_Div {w : World} {v v' : Value} {p q : Rat} {k j ge : Nat} {o : Int} (ha : IsQm w v p k) (hb : IsQm w v' q j) (PE : Be w ge o) (hk : k ≤ 18) (hj : j ≤ 18) (hk1 : 1 ≤ k) (hj1 : 1 ≤ j) : Calls Tryz.prog 48 #[v, v', .func (Fn.func 49) #[] #[.pointer (some ⟨ge, 0, none⟩)]] w (AnsE ge w fun w' v => IsQ w.heap.size w' v (p / q) (k + j) ∧ Be w' ge (eQ q)) := by
  obtain ⟨b2, A2, n2, c2, B2, m2, d2, rfl, _⟩ := id ha
  obtain ⟨b3, A3, n3, c3, B3, m3, d3, rfl, _⟩ := id hb
  have BB := (bl_trans (bl_trans (bl_trans (bl_alloc w (.cells #[.bool b2, .slice A2 n2 c2, .slice B2 m2 d2] 26)) (bl_alloc _ (.cells #[.bool b3, .slice A3 n3 c3, .slice B3 m3 d3] 26))) (bl_alloc _ (.cells #[.func (Fn.func 49) #[] #[.pointer (some ⟨ge, 0, none⟩)]] 58))) (bl_alloc _ (.cells #[.bool false, .slice none 0 0, .slice none 0 0] 26)))
  have PA := ((Bq.new w b2 A2 n2 c2 B2 m2 d2).alloc (.cells #[.bool b3, .slice A3 n3 c3, .slice B3 m3 d3] 26)).alloc (.cells #[.func (Fn.func 49) #[] #[.pointer (some ⟨ge, 0, none⟩)]] 58)
  have PB := (Bq.new2 w (.cells #[.bool b2, .slice A2 n2 c2, .slice B2 m2 d2] 26) b3 A3 n3 c3 B3 m3 d3).alloc (.cells #[.func (Fn.func 49) #[] #[.pointer (some ⟨ge, 0, none⟩)]] 58)
  have PT := Bf.new3 w (.cells #[.bool b2, .slice A2 n2 c2, .slice B2 m2 d2] 26) (.cells #[.bool b3, .slice A3 n3 c3, .slice B3 m3 d3] 26) (.func (Fn.func 49) #[] #[.pointer (some ⟨ge, 0, none⟩)]) 58
  replace PA := PA.alloc (.cells #[.bool false, .slice none 0 0, .slice none 0 0] 26)
  replace PB := PB.alloc (.cells #[.bool false, .slice none 0 0, .slice none 0 0] 26)
  replace PT := PT.below (bl_alloc _ (.cells #[.bool false, .slice none 0 0, .slice none 0 0] 26))
  have PR := Bq.new4 w (.cells #[.bool b2, .slice A2 n2 c2, .slice B2 m2 d2] 26) (.cells #[.bool b3, .slice A3 n3 c3, .slice B3 m3 d3] 26) (.cells #[.func (Fn.func 49) #[] #[.pointer (some ⟨ge, 0, none⟩)]] 58) false none 0 0 none 0 0
  have hge := PE.lt
  have HE := Lib.hid (PE.below BB)
  clear PE
  have HA := Lib.hid (ha.below BB)
  have HB := Lib.hid (hb.below BB)
  have HPB := Lib.hid PB
  have HPT := Lib.hid PT
  clear ha hb PB PT
  have x0 := PA.c0
  have x1 := PA.c1
  have x2 := PA.c2
  go_enter Tryz.func48, Tryz.ntmps48
  go_wp2_with fail
  refine (madeE_ofTwoR1 (q' := (p / q)) (k' := (k + j)) (ge := ge) (o := eQ q) HA.out (by omega) hk1 (by simp; omega) fun W u hW hsz hu => (two1_Div hu (HPB.out.below hW) (HB.out.below hW) (HPT.out.below hW) (HE.out.below hW) hk hj hj1).mono fun e w' r => ?_).mono ?_
  · exact ansE_base hsz e w' r
  clear x0 x1 x2 PA HA HB HPB HPT
  rintro e w1 ⟨_, rfl, hb1, q1, he1⟩
  obtain ⟨b1, A1, n1, c1, B1, m1, d1, rfl, _⟩ := id q1
  replace PR := PR.blE hb1 (by omega)
  have BE := BlE.of BB hb1
  have r0 := PR.c0
  have f0 := PR.f 0
  have r1 := PR.c1
  have f1 := PR.f 1
  have r2 := PR.c2
  have f2 := PR.f 2
  clear hb1
  go_wp2_with fail
  exact bodyPost_ret (v := .agg #[.bool b1, .slice A1 n1 c1, .slice B1 m1 d1]) (by simp [results, Tryz.results48, go_sem, *]) rfl (fin_qE (N := w.heap.size + 1 + 1 + 1 + 1) (q1.base (by simp)) he1 BE hge (by omega) (by omega) _ _ _)

set_option maxHeartbeats 4000000 in
theorem cQDiv {w : World} {v v' : Value} {p q : Rat} {k j : Nat} (ha : IsQm w v p k) (hb : IsQm w v' q j) (hk : k ≤ 18) (hj : j ≤ 18) (hk1 : 1 ≤ k) (hj1 : 1 ≤ j) : Calls Tryz.prog 13 #[v, v'] w (Ans w fun w' v => IsQE w.heap.size w' v (p / q) (k + j) (eQ q)) := by
  obtain ⟨b2, A2, n2, c2, B2, m2, d2, rfl, y1⟩ := id ha
  obtain ⟨b3, A3, n3, c3, B3, m3, d3, rfl, y2⟩ := id hb
  clear y1 y2
  have BB := bl_trans (bl_trans (bl_trans (bl_alloc w (.cells #[.bool b2, .slice A2 n2 c2, .slice B2 m2 d2] 26)) (bl_alloc _ (.cells #[.bool b3, .slice A3 n3 c3, .slice B3 m3 d3] 26))) (bl_alloc _ (.cells #[.bool false, .slice none 0 0, .slice none 0 0] 26))) (bl_alloc _ (.cells #[.int .i64 0] 28))
  have PA := (((Bq.new w b2 A2 n2 c2 B2 m2 d2).alloc (.cells #[.bool b3, .slice A3 n3 c3, .slice B3 m3 d3] 26)).alloc (.cells #[.bool false, .slice none 0 0, .slice none 0 0] 26)).alloc (.cells #[.int .i64 0] 28)
  have PB := ((Bq.new2 w (.cells #[.bool b2, .slice A2 n2 c2, .slice B2 m2 d2] 26) b3 A3 n3 c3 B3 m3 d3).alloc (.cells #[.bool false, .slice none 0 0, .slice none 0 0] 26)).alloc (.cells #[.int .i64 0] 28)
  have PR := (Bq.new3 w (.cells #[.bool b2, .slice A2 n2 c2, .slice B2 m2 d2] 26) (.cells #[.bool b3, .slice A3 n3 c3, .slice B3 m3 d3] 26) false none 0 0 none 0 0).alloc (.cells #[.int .i64 0] 28)
  have PE := Be.new4 w (.cells #[.bool b2, .slice A2 n2 c2, .slice B2 m2 d2] 26) (.cells #[.bool b3, .slice A3 n3 c3, .slice B3 m3 d3] 26) (.cells #[.bool false, .slice none 0 0, .slice none 0 0] 26) 0
  have HA := Lib.hid (ha.below BB)
  have HB := Lib.hid (hb.below BB)
  have HE := Lib.hid PE
  have x0 := PA.c0
  have x1 := PA.c1
  have x2 := PA.c2
  have y0 := PB.c0
  have y1 := PB.c1
  have y2 := PB.c2
  generalize hq9 : eQ q = o9
  have H9 := Lib.hid hq9
  clear ha hb hq9
  go_enter Tryz.func13, Tryz.ntmps13
  go_wp2_with fail
  refine (two0_Div HA.out HB.out HE.out hk hj hk1 hj1).mono ?_
  rw [H9.out]
  rintro e w1 ⟨_, rfl, hb1, q1, he1⟩
  obtain ⟨b1, A1, n1, c1, B1, m1, d1, rfl, yy⟩ := id q1
  clear yy
  have hs1 := hb1.size
  simp only [hs_alloc] at hs1 q1
  replace PR := PR.blE hb1 (by omega)
  have BW := BlE.below hb1 (by omega) BB
  have OO : Below w1.heap.size w1 (w1.alloc (.cells #[.bool b1, .slice A1 n1 c1, .slice B1 m1 d1] 26)) := bl_alloc _ _
  have PQ := Bq.new w1 b1 A1 n1 c1 B1 m1 d1
  replace q1 := q1.below OO
  replace PR := PR.below OO
  replace he1 := he1.below OO
  replace BW := bl_trans BW OO
  have e0 := he1.c0
  have p0 := PQ.c0
  have p1 := PQ.c1
  have p2 := PQ.c2
  have r0 := PR.c0
  have r1 := PR.c1
  have r2 := PR.c2
  have f0 := PR.f 0
  have f1 := PR.f 1
  have f2 := PR.f 2
  clear x0 x1 x2 y0 y1 y2 PA PB HA HB HE BB PE hb1 OO
  go_wp2_with fail
  go_region
  go_wp2_with fail
  have PF := (PR.set3 (b' := b1) (A' := A1) (n' := n1) (c' := c1) (B' := B1) (m' := m1) (d' := d1)).drew
  obtain ⟨_, e1, fb, fq⟩ := fin_q (g := w.heap.size + 1 + 1) q1 BW (by omega) (by omega) (.bool b1) (.slice A1 n1 c1) (.slice B1 m1 d1)
  cases e1
  replace fq := fq.below (Below.drew (Below.refl _ _))
  replace fb := Below.drew fb
  clear e0 p0 p1 p2 r0 r1 r2 f0 f1 f2 PQ he1 BW q1 PR
  generalize World.drew _ = W9 at PF fq fb ⊢
  have z0 := PF.c0
  have z1 := PF.c1
  have z2 := PF.c2
  exact bodyPost_ret (v := .tuple #[.agg #[.bool b1, .slice A1 n1 c1, .slice B1 m1 d1], .int .i64 o9]) (by simp [results, Tryz.results13, go_sem, z0, z1, z2]) rfl ⟨_, rfl, fb, _, _, _, _, _, _, _, rfl, fq⟩

end Go.Proofs.YtbhgbilhoonopaaGreat
