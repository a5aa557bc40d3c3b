/- Contracts of the program's functions, as far as the claims ask for them (4 of 6). -/
import Derived.Deep.Cut
import Derived.Deep.LoopGhost
import Derived.Test.YtbhgbilhoonopaaGreatV3
namespace Go.Proofs.YtbhgbilhoonopaaGreat
open Go.RowKit
set_option linter.unusedVariables false
set_option maxRecDepth 100000

set_option maxHeartbeats 2000000 in
theorem madeE_ofTwoR1 {w : World} {v : Value} {q : Rat} {k : Nat} {cap0 cap1 : Value} {q' : Rat} {k' ge : Nat} {o : Int} (h : IsQm w v q k) (hk : k ≤ 900) (hk1 : 1 ≤ k) (hge : ge < w.heap.size) (hf : ∀ W u, Below w.heap.size w W → w.heap.size + 2 ≤ W.heap.size → IsQ (w.heap.size + 2) W u q k → Calls Tryz.prog 97 #[u, cap0, cap1] W (AnsE ge W fun w' v => IsQ (w.heap.size + 2) w' v q' k' ∧ Be w' ge o)) : Calls Tryz.prog 57 #[v, .func (Fn.func 97) #[] #[cap0, cap1]] w (AnsE ge w fun w' v => IsQ w.heap.size w' v q' k' ∧ Be w' ge o) := by
 obtain ⟨b, A, n, c, B, m, d, rfl, z, y, hz, hy, rfl⟩ := h
 have PA := (Bq.new w b A n c B m d).alloc (.cells #[.bool false, .slice none 0 0, .slice none 0 0] 26)
 have PR := Bq.new2 w (.cells #[.bool b, .slice A n c, .slice B m d] 26) false none 0 0 none 0 0
 have BB := bl_trans (bl_alloc w (.cells #[.bool b, .slice A n c, .slice B m d] 26)) (bl_alloc _ (.cells #[.bool false, .slice none 0 0, .slice none 0 0] 26))
 have HF := Lib.hid hf
 have ZA := hz.below BB
 have NY := hy.below BB
 have HZ := Lib.hid hz
 clear hf hz hy
 have p2 := PA.c2
 go_enter Tryz.func57, Tryz.ntmps57
 go_wp2_with fail
 refine (cmpN NY (nilN _) (by omega) (Nat.zero_le _)).mono ?_
 rintro e w1 ⟨rfl, hb1⟩
 have hs1 := hb1.size
 simp only [hs_alloc] at hs1
 replace PA := PA.below hb1
 replace ZA := ZA.below hb1
 replace NY := NY.below hb1
 replace PR := PR.below hb1
 replace BB := bl_trans BB hb1
 clear hb1 p2
 by_cases hy0 : y = 0
 ·subst hy0
  rw [cmpV_eq]
  have p1 := PA.c2
  have g2 := PA.f 2
  go_wp2_with fail
  refine (cFromD (N := w.heap.size + 2) 1 (by omega) (by omega)).mono ?_
  rintro e w2 ⟨_, rfl, hb2, D1, n1, c1, rfl, o1, l1⟩
  have hs2 := hb2.size
  replace PA := PA.below hb2
  replace PR := PR.below hb2
  replace ZA := ZA.below hb2
  replace BB := bl_trans BB hb2
  clear hb2 p1 g2 NY
  have p0 := PA.c0
  have p1 := PA.c1
  have p2 := PA.c2
  have g2 := PA.f 2
  go_wp2_with fail
  clear p0 p1 p2 g2
  replace PA := PA.setD D1 n1 c1
  replace PR := PR.other (g' := w.heap.size) (i := 2) (v := .slice D1 n1 c1) (by omega)
  replace BB := BB.setCell (p := ⟨w.heap.size, 2, none⟩) (Nat.le_refl _) (.slice D1 n1 c1)
  replace ZA := HZ.out.below BB
  have ND : Nm (w2.setCell ⟨w.heap.size, 2, none⟩ (.slice D1 n1 c1)) D1 n1 c1 1 1 := ⟨⟨_, (OwK.rd (o1.grown (grownBy_setCell w2 ⟨w.heap.size, 2, none⟩ (.slice D1 n1 c1)) (fun p hp e => by injection e with e; have := (OwK.lt o1 hp).1; dsimp only at e; omega))), M.val_lims 1⟩, l1⟩
  have hs4 : w.heap.size + 2 ≤ (w2.setCell ⟨w.heap.size, 2, none⟩ (.slice D1 n1 c1)).heap.size := by simp [World.setCell]; omega
  generalize w2.setCell ⟨w.heap.size, 2, none⟩ (.slice D1 n1 c1) = W2 at PA PR BB ZA ND hs4 ⊢
  clear o1 l1
  refine (cLowest ⟨_, _, _, _, rfl, ZA⟩ ⟨_, _, _, rfl, ND⟩ (by omega) (by omega) (by omega)).mono ?_
  rintro e w3 ⟨u, rfl, hb3, q3⟩
  have hs3 := hb3.size
  have q3' := (q3.mono (show max k 1 ≤ k by omega)).base (N' := w.heap.size + 2) (by omega)
  replace PR := PR.below hb3
  replace BB := bl_trans BB hb3
  clear hb3 q3  PA ZA ND
  go_wp2_with fail
  refine (HF.out _ _ BB (by omega) (by rw [dOf_zero]; exact q3')).mono ?_
  rintro e w4 ⟨r, rfl, hb4, q4, he4⟩
  obtain ⟨b4, A4, n4, c4, B4, m4, d4, rfl, q4'⟩ := id q4
  replace PR := PR.blE hb4 (by omega)
  have r0 := PR.c0
  have f0 := PR.f 0
  have r1 := PR.c1
  have f1 := PR.f 1
  have r2 := PR.c2
  have f2 := PR.f 2
  have BE := BlE.of BB hb4
  clear hb4 q3' HF
  clear q4'
  go_wp2_with fail
  exact bodyPost_ret (v := .agg #[.bool b4, .slice A4 n4 c4, .slice B4 m4 d4]) (by simp [results, Tryz.results57, go_sem, *]) rfl (fin_qE q4 he4 BE hge (by omega) (by omega) _ _ _)
 ·have HY := Lib.hid hy0
  have hc : (cmpV y 0 == 0) = false := by rw [cmpV_gt (by omega)]; rfl
  rw [cmpV_gt (show 0 < y by omega)]
  clear hc hy0
  have p0 := PA.c0
  have p1 := PA.c1
  have p2 := PA.c2
  go_wp2_with fail
  refine (cLowest ⟨_, _, _, _, rfl, ZA⟩ ⟨_, _, _, rfl, NY⟩ (by omega) (by omega) HY.out).mono ?_
  rintro e w3 ⟨u, rfl, hb3, q3⟩
  have hs3 := hb3.size
  have q3' := (q3.mono (show max k k ≤ k by omega)).base (N' := w.heap.size + 2) (by omega)
  replace PR := PR.below hb3
  replace BB := bl_trans BB hb3
  clear hb3 q3 p0 p1 p2 PA ZA NY
  go_wp2_with fail
  refine (HF.out _ _ BB (by omega) (by rw [dOf_of HY.out]; exact q3')).mono ?_
  rintro e w4 ⟨r, rfl, hb4, q4, he4⟩
  obtain ⟨b4, A4, n4, c4, B4, m4, d4, rfl, q4'⟩ := id q4
  replace PR := PR.blE hb4 (by omega)
  have r0 := PR.c0
  have f0 := PR.f 0
  have r1 := PR.c1
  have f1 := PR.f 1
  have r2 := PR.c2
  have f2 := PR.f 2
  have BE := BlE.of BB hb4
  clear hb4 q3' HF
  clear q4'
  go_wp2_with fail
  exact bodyPost_ret (v := .agg #[.bool b4, .slice A4 n4 c4, .slice B4 m4 d4]) (by simp [results, Tryz.results57, go_sem, *]) rfl (fin_qE q4 he4 BE hge (by omega) (by omega) _ _ _)

set_option maxHeartbeats 2000000 in
theorem madeE_ofTwoR2 {w : World} {v : Value} {q : Rat} {k : Nat} {cap0 cap1 : Value} {q' : Rat} {k' ge : Nat} {o : Int} (h : IsQm w v q k) (hk : k ≤ 900) (hk1 : 1 ≤ k) (hge : ge < w.heap.size) (hf : ∀ W u, Below w.heap.size w W → w.heap.size + 2 ≤ W.heap.size → IsQ (w.heap.size + 2) W u q k → Calls Tryz.prog 98 #[u, cap0, cap1] W (AnsE ge W fun w' v => IsQ (w.heap.size + 2) w' v q' k' ∧ Be w' ge o)) : Calls Tryz.prog 57 #[v, .func (Fn.func 98) #[] #[cap0, cap1]] w (AnsE ge w fun w' v => IsQ w.heap.size w' v q' k' ∧ Be w' ge o) := by
 obtain ⟨b, A, n, c, B, m, d, rfl, z, y, hz, hy, rfl⟩ := h
 have PA := (Bq.new w b A n c B m d).alloc (.cells #[.bool false, .slice none 0 0, .slice none 0 0] 26)
 have PR := Bq.new2 w (.cells #[.bool b, .slice A n c, .slice B m d] 26) false none 0 0 none 0 0
 have BB := bl_trans (bl_alloc w (.cells #[.bool b, .slice A n c, .slice B m d] 26)) (bl_alloc _ (.cells #[.bool false, .slice none 0 0, .slice none 0 0] 26))
 have HF := Lib.hid hf
 have ZA := hz.below BB
 have NY := hy.below BB
 have HZ := Lib.hid hz
 clear hf hz hy
 have p2 := PA.c2
 go_enter Tryz.func57, Tryz.ntmps57
 go_wp2_with fail
 refine (cmpN NY (nilN _) (by omega) (Nat.zero_le _)).mono ?_
 rintro e w1 ⟨rfl, hb1⟩
 have hs1 := hb1.size
 simp only [hs_alloc] at hs1
 replace PA := PA.below hb1
 replace ZA := ZA.below hb1
 replace NY := NY.below hb1
 replace PR := PR.below hb1
 replace BB := bl_trans BB hb1
 clear hb1 p2
 by_cases hy0 : y = 0
 ·subst hy0
  rw [cmpV_eq]
  have p1 := PA.c2
  have g2 := PA.f 2
  go_wp2_with fail
  refine (cFromD (N := w.heap.size + 2) 1 (by omega) (by omega)).mono ?_
  rintro e w2 ⟨_, rfl, hb2, D1, n1, c1, rfl, o1, l1⟩
  have hs2 := hb2.size
  replace PA := PA.below hb2
  replace PR := PR.below hb2
  replace ZA := ZA.below hb2
  replace BB := bl_trans BB hb2
  clear hb2 p1 g2 NY
  have p0 := PA.c0
  have p1 := PA.c1
  have p2 := PA.c2
  have g2 := PA.f 2
  go_wp2_with fail
  clear p0 p1 p2 g2
  replace PA := PA.setD D1 n1 c1
  replace PR := PR.other (g' := w.heap.size) (i := 2) (v := .slice D1 n1 c1) (by omega)
  replace BB := BB.setCell (p := ⟨w.heap.size, 2, none⟩) (Nat.le_refl _) (.slice D1 n1 c1)
  replace ZA := HZ.out.below BB
  have ND : Nm (w2.setCell ⟨w.heap.size, 2, none⟩ (.slice D1 n1 c1)) D1 n1 c1 1 1 := ⟨⟨_, (OwK.rd (o1.grown (grownBy_setCell w2 ⟨w.heap.size, 2, none⟩ (.slice D1 n1 c1)) (fun p hp e => by injection e with e; have := (OwK.lt o1 hp).1; dsimp only at e; omega))), M.val_lims 1⟩, l1⟩
  have hs4 : w.heap.size + 2 ≤ (w2.setCell ⟨w.heap.size, 2, none⟩ (.slice D1 n1 c1)).heap.size := by simp [World.setCell]; omega
  generalize w2.setCell ⟨w.heap.size, 2, none⟩ (.slice D1 n1 c1) = W2 at PA PR BB ZA ND hs4 ⊢
  clear o1 l1
  refine (cLowest ⟨_, _, _, _, rfl, ZA⟩ ⟨_, _, _, rfl, ND⟩ (by omega) (by omega) (by omega)).mono ?_
  rintro e w3 ⟨u, rfl, hb3, q3⟩
  have hs3 := hb3.size
  have q3' := (q3.mono (show max k 1 ≤ k by omega)).base (N' := w.heap.size + 2) (by omega)
  replace PR := PR.below hb3
  replace BB := bl_trans BB hb3
  clear hb3 q3  PA ZA ND
  go_wp2_with fail
  refine (HF.out _ _ BB (by omega) (by rw [dOf_zero]; exact q3')).mono ?_
  rintro e w4 ⟨r, rfl, hb4, q4, he4⟩
  obtain ⟨b4, A4, n4, c4, B4, m4, d4, rfl, q4'⟩ := id q4
  replace PR := PR.blE hb4 (by omega)
  have r0 := PR.c0
  have f0 := PR.f 0
  have r1 := PR.c1
  have f1 := PR.f 1
  have r2 := PR.c2
  have f2 := PR.f 2
  have BE := BlE.of BB hb4
  clear hb4 q3' HF
  clear q4'
  go_wp2_with fail
  exact bodyPost_ret (v := .agg #[.bool b4, .slice A4 n4 c4, .slice B4 m4 d4]) (by simp [results, Tryz.results57, go_sem, *]) rfl (fin_qE q4 he4 BE hge (by omega) (by omega) _ _ _)
 ·have HY := Lib.hid hy0
  have hc : (cmpV y 0 == 0) = false := by rw [cmpV_gt (by omega)]; rfl
  rw [cmpV_gt (show 0 < y by omega)]
  clear hc hy0
  have p0 := PA.c0
  have p1 := PA.c1
  have p2 := PA.c2
  go_wp2_with fail
  refine (cLowest ⟨_, _, _, _, rfl, ZA⟩ ⟨_, _, _, rfl, NY⟩ (by omega) (by omega) HY.out).mono ?_
  rintro e w3 ⟨u, rfl, hb3, q3⟩
  have hs3 := hb3.size
  have q3' := (q3.mono (show max k k ≤ k by omega)).base (N' := w.heap.size + 2) (by omega)
  replace PR := PR.below hb3
  replace BB := bl_trans BB hb3
  clear hb3 q3 p0 p1 p2 PA ZA NY
  go_wp2_with fail
  refine (HF.out _ _ BB (by omega) (by rw [dOf_of HY.out]; exact q3')).mono ?_
  rintro e w4 ⟨r, rfl, hb4, q4, he4⟩
  obtain ⟨b4, A4, n4, c4, B4, m4, d4, rfl, q4'⟩ := id q4
  replace PR := PR.blE hb4 (by omega)
  have r0 := PR.c0
  have f0 := PR.f 0
  have r1 := PR.c1
  have f1 := PR.f 1
  have r2 := PR.c2
  have f2 := PR.f 2
  have BE := BlE.of BB hb4
  clear hb4 q3' HF
  clear q4'
  go_wp2_with fail
  exact bodyPost_ret (v := .agg #[.bool b4, .slice A4 n4 c4, .slice B4 m4 d4]) (by simp [results, Tryz.results57, go_sem, *]) rfl (fin_qE q4 he4 BE hge (by omega) (by omega) _ _ _)

theorem one_le_of {x k : Nat} (h : x ≠ 0) (g : x < M.R ^ k) : 1 ≤ k := by
 rcases k with _ | k
 ·rw [Nat.pow_zero] at g; omega
 ·omega
theorem eO_eQ (p q : Rat) : eO (q.num * ((ofB p q : Nat) : Int)) = eQ q := by
 unfold eO eQ
 by_cases h : q = 0
 ·rw [if_pos h, if_pos (by rw [h]; simp)]
 ·rw [if_neg h, if_neg (Int.mul_ne_zero (fun e => h (Rat.num_eq_zero.1 e)) (by have := two_B_pos p q; omega))]
set_option maxHeartbeats 4000000 in
theorem two2_Div {w : World} {v : Value} {p q : Rat} {k j N ga gt ge : Nat} {o : Int} {b : Bool} {A B : Option Addr} {n c m d : Nat} (hb : IsQ N w v q j) (PA : Bq w ga b A n c B m d) (QP : IsQt w (.agg #[.bool b, .slice A n c, .slice B m d]) p k) (PT : Bf w gt (.func (Fn.func 49) #[] #[.pointer (some ⟨ge, 0, none⟩)]) 58) (PE : Be w ge o) (hk : k ≤ 18) (hj : j ≤ 18) : Calls Tryz.prog 98 #[v, .pointer (some ⟨ga, 0, none⟩), .pointer (some ⟨gt, 0, none⟩)] w (AnsE ge w fun w' v => IsQ w.heap.size w' v (p / q) (k + j) ∧ Be w' ge (eQ q)) := by
 obtain ⟨t, A', n', c', B', m', d', rfl, Zb, Ob, lb⟩ := hb
 have h1 := QP.num_lt
 have h2 := QP.den_lt
 have h3 : q.num.natAbs < M.R ^ j := Zb.tm.nm.lt
 have h4 : q.den < M.R ^ j := by rw [← M.lims_length_le, Ob.len]; exact lb
 obtain ⟨_, _, _, _, _, _, _, ea, Ta, hsa, Da⟩ := QP
 cases ea
 have HG := Lib.hid (show p.den.gcd q.den ≠ 0 by have := two_g p q; omega)
 have PB := (Bq.new w t A' n' c' B' m' d').alloc (.cells #[.bool false, .slice none 0 0, .slice none 0 0] 26)
 have PR := Bq.new2 w (.cells #[.bool t, .slice A' n' c', .slice B' m' d'] 26) false none 0 0 none 0 0
 have BB := bl_trans (bl_alloc w (.cells #[.bool t, .slice A' n' c', .slice B' m' d'] 26)) (bl_alloc _ (.cells #[.bool false, .slice none 0 0, .slice none 0 0] 26))
 have hge := PE.lt
 replace PE := PE.below BB
 have HM := Lib.hid (eO_eQ p q)
 have HT := Lib.hid (two_div p q)
 have hga := PA.lt
 have hgt := PT.lt
 replace PA := PA.below BB
 replace PT := PT.below BB
 have NA : Nm _ B m d p.den k := (Da.nm).below BB
 have NB : Nm _ B' m' d' q.den j := Nm.below ⟨⟨_, Ob.rd, M.val_lims _⟩, lb⟩ BB
 have ZA : IsM ((w.alloc (.cells #[.bool t, .slice A' n' c', .slice B' m' d'] 26)).alloc (.cells #[.bool false, .slice none 0 0, .slice none 0 0] 26)) (.agg #[.bool b, .slice A n c]) p.num k := by
  refine ⟨_, _, _, _, rfl, ⟨⟨_, Ta.nm.below BB, ?_⟩⟩⟩
  rw [hsa]
  by_cases h : p.num < 0
  ·rw [decide_eq_true h, zv_true]; omega
  ·rw [decide_eq_false h, zv_false]; omega
 have ZB : IsM ((w.alloc (.cells #[.bool t, .slice A' n' c', .slice B' m' d'] 26)).alloc (.cells #[.bool false, .slice none 0 0, .slice none 0 0] 26)) (.agg #[.bool t, .slice A' n' c']) q.num j := ⟨_, _, _, _, rfl, Zb.zm.below BB⟩
 have hs0 : ((w.alloc (.cells #[.bool t, .slice A' n' c', .slice B' m' d'] 26)).alloc (.cells #[.bool false, .slice none 0 0, .slice none 0 0] 26)).heap.size = w.heap.size + 2 := by simp
 clear Zb Ob lb Ta hsa Da
 have a2 := PA.c2
 have b2 := PB.c2
 go_enter Tryz.func98, Tryz.ntmps98
 go_wp2_with fail
 clear a2 b2
 generalize ((w.alloc (.cells #[.bool t, .slice A' n' c', .slice B' m' d'] 26)).alloc (.cells #[.bool false, .slice none 0 0, .slice none 0 0] 26)) = W0 at PA PB PT PR PE NA NB ZA ZB BB hs0 ⊢
 refine (cGcd (N := 0) ⟨_, _, _, rfl, NA⟩ ⟨_, _, _, rfl, NB⟩ (by omega) (by omega) (Nat.zero_le _)).mono ?_
 rintro e w1 ⟨_, rfl, hb1, G, gn, gc, rfl, og, lg⟩
 have NG : Nm w1 G gn gc (p.den.gcd q.den) (max k j) := ⟨⟨_, og.rd, M.val_lims _⟩, lg⟩
 have hs1 := hb1.size
 replace PA := PA.below hb1
 replace PB := PB.below hb1
 replace PT := PT.below hb1
 replace PR := PR.below hb1
 replace PE := PE.below hb1
 replace NA := NA.below hb1
 replace NB := NB.below hb1
 replace ZA := ZA.below hb1
 replace ZB := ZB.below hb1
 replace BB := bl_trans BB hb1
 clear hb1 og lg
 go_wp2_with fail
 refine wp_region_list (Ext := RB) (Rel := RBu) [fun v _ _ => v = .pointer (some ⟨w.heap.size, 2, none⟩), fun v _ _ => v = .slice B' m' d', fun v _ _ => v = .slice G gn gc, fun v _ w => IsD (w1).heap.size w v (q.den / (p.den.gcd q.den)) j, fun v _ _ => v = .pointer (some ⟨ga, 2, none⟩), fun v _ _ => v = .slice B m d, fun v _ _ => v = .slice G gn gc, fun v _ w => IsD (w1).heap.size w v (p.den / (p.den.gcd q.den)) k, fun v _ w => IsD (w1).heap.size w v (q.den / (p.den.gcd q.den)) j, fun v _ w => IsD (w1).heap.size w v (p.den / (p.den.gcd q.den)) k] (n := 10) (by kernel_rfl) rfl (by kernel_rfl) (by kernel_rfl) (by kernel_rfl) (by kernel_rfl) (by kernel_rfl) rb_refl rb_trans ⟨sC, ⟨sC, ⟨sC, ⟨sD, ⟨sC, ⟨sC, ⟨sC, ⟨sD, ⟨sD, ⟨sD, trivial⟩⟩⟩⟩⟩⟩⟩⟩⟩⟩ ?_ ?_
 ·refine ⟨⟨⟨⟨⟨⟨⟨⟨⟨⟨trivial, ?_⟩, ?_⟩, ?_⟩, ?_⟩, ?_⟩, ?_⟩, ?_⟩, ?_⟩, ?_⟩, ?_⟩
  ·refine rs_plain rfl rfl fun a wr S => ?_
   have X := undrew S.ext
   exact wp_qf1 (ev_of ((S.old 3 (by kernel_rfl)).trans rfl)) (done (by kernel_rfl) rbu_refl rfl)
  ·refine rs_plain rfl rfl fun a wr S => ?_
   have X := undrew S.ext
   obtain ⟨v0, e0, h0⟩ := S.got 0 (by kernel_rfl)
   exact wp_qD ((ev_of (e0 15 (by kernel_rfl))).trans h0) (PB.below X) (done (by kernel_rfl) rbu_refl rfl)
  ·refine rs_plain rfl rfl fun a wr S => ?_
   have X := undrew S.ext
   exact wp_mv (ev_of ((S.old 5 (by kernel_rfl)).trans rfl)) (done (by kernel_rfl) rbu_refl rfl)
  ·refine rs_plain rfl rfl fun a wr S => ?_
   have X := undrew S.ext
   obtain ⟨v1, e1, h1⟩ := S.got 1 (by kernel_rfl)
   obtain ⟨v2, e2, h2⟩ := S.got 2 (by kernel_rfl)
   exact st_call cf_rat_without (args2 ((ev_of (e1 16 (by kernel_rfl))).trans h1) ((ev_of (e2 17 (by kernel_rfl))).trans h2)) (by kernel_rfl) rb (cWithout ⟨_, _, _, rfl, NB.below X⟩ ⟨_, _, _, rfl, NG.below X⟩ (by omega) (by omega) HG.out X.size) (fun _ _ _ h => h)
  ·refine rs_plain rfl rfl fun a wr S => ?_
   have X := undrew S.ext
   exact wp_qf1 (ev_of ((S.old 1 (by kernel_rfl)).trans rfl)) (done (by kernel_rfl) rbu_refl rfl)
  ·refine rs_plain rfl rfl fun a wr S => ?_
   have X := undrew S.ext
   obtain ⟨v4, e4, h4⟩ := S.got 4 (by kernel_rfl)
   exact wp_qD ((ev_of (e4 19 (by kernel_rfl))).trans h4) (PA.below X) (done (by kernel_rfl) rbu_refl rfl)
  ·refine rs_plain rfl rfl fun a wr S => ?_
   have X := undrew S.ext
   exact wp_mv (ev_of ((S.old 5 (by kernel_rfl)).trans rfl)) (done (by kernel_rfl) rbu_refl rfl)
  ·refine rs_plain rfl rfl fun a wr S => ?_
   have X := undrew S.ext
   obtain ⟨v5, e5, h5⟩ := S.got 5 (by kernel_rfl)
   obtain ⟨v6, e6, h6⟩ := S.got 6 (by kernel_rfl)
   exact st_call cf_rat_without (args2 ((ev_of (e5 20 (by kernel_rfl))).trans h5) ((ev_of (e6 21 (by kernel_rfl))).trans h6)) (by kernel_rfl) rb (cWithout ⟨_, _, _, rfl, NA.below X⟩ ⟨_, _, _, rfl, NG.below X⟩ (by omega) (by omega) HG.out X.size) (fun _ _ _ h => h)
  ·refine rs_plain rfl rfl fun a wr S => ?_
   have X := undrew S.ext
   obtain ⟨v3, e3, h3⟩ := S.got 3 (by kernel_rfl)
   exact wp_as (ev_of (e3 18 (by kernel_rfl))) (done (by kernel_rfl) rbu_refl h3)
  ·refine rs_plain rfl rfl fun a wr S => ?_
   have X := undrew S.ext
   obtain ⟨v7, e7, h7⟩ := S.got 7 (by kernel_rfl)
   exact wp_as (ev_of (e7 22 (by kernel_rfl))) (done (by kernel_rfl) rbu_refl h7)
 ·intro fa w2 hR hv
  replace hR := undrew hR
  have f0 : fa 0 = .pointer (some ⟨w.heap.size, 2, none⟩) := (hvc (hv 0 (by omega))).elim fun _ h => h
  have f1 : fa 1 = .slice B' m' d' := (hvc (hv 1 (by omega))).elim fun _ h => h
  have f2 : fa 2 = .slice G gn gc := (hvc (hv 2 (by omega))).elim fun _ h => h
  have f4 : fa 4 = .pointer (some ⟨ga, 2, none⟩) := (hvc (hv 4 (by omega))).elim fun _ h => h
  have f5 : fa 5 = .slice B m d := (hvc (hv 5 (by omega))).elim fun _ h => h
  have f6 : fa 6 = .slice G gn gc := (hvc (hv 6 (by omega))).elim fun _ h => h
  obtain ⟨Ax, nx, cx, f8, Ox, lx⟩ := (show IsD _ w2 _ (q.den / (p.den.gcd q.den)) j from (hvc (hv 8 (by omega))).elim fun _ h => h)
  obtain ⟨Ay, ny, cy, f9, Oy, ly⟩ := (show IsD _ w2 _ (p.den / (p.den.gcd q.den)) k from (hvc (hv 9 (by omega))).elim fun _ h => h)
  simp only [putFn, Act.put, List.setIfInBounds_toArray, List.set_cons_zero, List.set_cons_succ, f0, f1, f2, f4, f5, f6, f8, f9]
  have NX : Nm w2 Ax nx cx (ofA p q) j := ⟨⟨_, Ox.rd, M.val_lims _⟩, lx⟩
  have NY : Nm w2 Ay ny cy (ofB p q) k := ⟨⟨_, Oy.rd, M.val_lims _⟩, ly⟩
  have hs2 := hR.size
  replace PA := PA.below hR
  replace PB := PB.below hR
  replace PT := PT.below hR
  replace PR := PR.below hR
  replace PE := PE.below hR
  replace NA := NA.below hR
  replace NB := NB.below hR
  replace ZA := ZA.below hR
  replace ZB := ZB.below hR
  replace BB := bl_trans BB hR
  clear hR hv Ox lx Oy ly NG NB
  go_wp2_with fail
  refine wp_region_list (Ext := (BelX (w2).heap.size)) (Rel := (BelU (w2).heap.size)) [fun v _ _ => v = .pointer (some ⟨ga, 0, none⟩), fun v _ _ => v = .agg #[.bool b, .slice A n c], fun v _ _ => v = .slice Ax nx cx, fun v _ _ => v = .agg #[.bool false, .slice Ax nx cx], fun v _ w => IsR2 w v (p.num) k (((ofA p q : Nat) : Int)) j, fun v _ w => IsZ (w2).heap.size w v (p.num * (((ofA p q : Nat) : Int))) (k + j), fun v _ w => IsP (w2).heap.size v w, fun _ u w => HasZ (w2).heap.size u w (p.num * (((ofA p q : Nat) : Int))) (k + j)] (n := 8) (by kernel_rfl) rfl (by kernel_rfl) (by kernel_rfl) (by kernel_rfl) (by kernel_rfl) (by kernel_rfl) (rx_refl _) (rxu_trans _) ⟨sC, ⟨sC, ⟨sC, ⟨sC, ⟨xR2, ⟨xZ, ⟨xP, ⟨xHZ, trivial⟩⟩⟩⟩⟩⟩⟩⟩ ?_ ?_
  ·refine ⟨⟨⟨⟨⟨⟨⟨⟨trivial, ?_⟩, ?_⟩, ?_⟩, ?_⟩, ?_⟩, ?_⟩, ?_⟩, ?_⟩
   ·refine rs_plain rfl rfl fun a wr S => ?_
    have X := undrewX S.ext
    exact wp_qf0 (ev_of ((S.old 1 (by kernel_rfl)).trans rfl)) (done (by kernel_rfl) (rxu_refl _) rfl)
   ·refine rs_plain rfl rfl fun a wr S => ?_
    have X := undrewX S.ext
    obtain ⟨v0, e0, h0⟩ := S.got 0 (by kernel_rfl)
    exact wp_qN ((ev_of (e0 23 (by kernel_rfl))).trans h0) (PA.below X) (done (by kernel_rfl) (rxu_refl _) rfl)
   ·refine rs_plain rfl rfl fun a wr S => ?_
    have X := undrewX S.ext
    exact wp_mv (ev_of ((S.old 6 (by kernel_rfl)).trans rfl)) (done (by kernel_rfl) (rxu_refl _) rfl)
   ·refine rs_plain rfl rfl fun a wr S => ?_
    have X := undrewX S.ext
    obtain ⟨v2, e2, h2⟩ := S.got 2 (by kernel_rfl)
    exact st_call cf_rat_unsigned (args1 ((ev_of (e2 25 (by kernel_rfl))).trans h2)) (by kernel_rfl) (rxu _) (cUnsigned _ _ _) (fun _ _ _ h => h)
   ·refine rs_plain rfl rfl fun a wr S => ?_
    have X := undrewX S.ext
    obtain ⟨v1, e1, h1⟩ := S.got 1 (by kernel_rfl)
    obtain ⟨v3, e3, h3⟩ := S.got 3 (by kernel_rfl)
    obtain ⟨b0, A0, n0, c0, hv0, Z0⟩ := (show IsM wr _ _ _ from (ZA.below X))
    obtain ⟨b1, A1, n1, c1, hv1, Z1⟩ := (show IsM wr _ _ _ from (unsM (NX.below X)))
    exact wp_bs2 (((ev_of (e1 24 (by kernel_rfl))).trans h1).trans hv0) (((ev_of (e3 26 (by kernel_rfl))).trans h3).trans hv1) (done' (by kernel_rfl) ((rxu _) _ _ _ (bl_alloc _ _)) (IsR2.new Z0 Z1))
   ·refine rs_plain rfl rfl fun a wr S => ?_
    have X := undrewX S.ext
    obtain ⟨v4, e4, h4⟩ := S.got 4 (by kernel_rfl)
    exact st_call cf_big_Mul (args1 (ev_of (e4 27 (by kernel_rfl)))) (by kernel_rfl) (rxu _) (cMul2 (z := p.num) (u := (((ofA p q : Nat) : Int))) h4 (by omega) (by omega) (by omega) X.size) (fun _ _ _ h => h)
   ·refine rs_plain rfl rfl fun a wr S => ?_
    have X := undrewX S.ext
    refine st_alloc X.size (fun _ _ _ h => h) fun j vj u hj hs => ?_
    have hj' : j ∈ [6] := alloc_cases (by kernel_rfl) j hj
    simp only [List.mem_cons, List.not_mem_nil, or_false] at hj'
    subst hj'; exact hs
   ·refine rs_plain rfl rfl fun a wr S => ?_
    have X := undrewX S.ext
    obtain ⟨v6, e6, h6⟩ := S.got 6 (by kernel_rfl)
    obtain ⟨v5, e5, h5⟩ := S.got 5 (by kernel_rfl)
    exact st_storeZ (by kernel_rfl) (by kernel_rfl) (ev_of (e6 8 (by kernel_rfl))) h6 (ev_of (e5 28 (by kernel_rfl))) h5 (fun _ _ _ h => h)
  ·intro fb w3 hR hv
   replace hR := undrewX hR
   have f0 : fb 0 = .pointer (some ⟨ga, 0, none⟩) := (hvc (hv 0 (by omega))).elim fun _ h => h
   have f1 : fb 1 = .agg #[.bool b, .slice A n c] := (hvc (hv 1 (by omega))).elim fun _ h => h
   have f2 : fb 2 = .slice Ax nx cx := (hvc (hv 2 (by omega))).elim fun _ h => h
   have f3 : fb 3 = .agg #[.bool false, .slice Ax nx cx] := (hvc (hv 3 (by omega))).elim fun _ h => h
   obtain ⟨gn, bn, An, nn, cn, f6, hgn, Pn, Zn⟩ := (show HasZ _ (fb 6) w3 (p.num * (((ofA p q : Nat) : Int))) (k + j) from hvs (hv 7 (by omega)) (by kernel_rfl))
   simp only [putFn, Act.put, List.setIfInBounds_toArray, List.set_cons_zero, List.set_cons_succ, f0, f1, f2, f3, f6]
   have hs3 := hR.size
   replace PA := PA.below hR
   replace PB := PB.below hR
   replace PT := PT.below hR
   replace PR := PR.below hR
   replace PE := PE.below hR
   replace NA := NA.below hR
   replace ZA := ZA.below hR
   replace ZB := ZB.below hR
   replace NX := NX.below hR
   replace NY := NY.below hR
   replace BB := bl_trans BB hR
   have QN : IsM w3 (.agg #[.bool bn, .slice An nn cn]) (p.num * ((ofA p q : Nat) : Int)) (k + j) := ⟨_, _, _, _, rfl, Zn.zm⟩
   clear hR hv Zn hgn ZA
   go_wp2_with fail
   refine wp_region_list (Ext := (BelX (w3).heap.size)) (Rel := (BelU (w3).heap.size)) [fun v _ _ => v = .pointer (some ⟨w.heap.size, 0, none⟩), fun v _ _ => v = .agg #[.bool t, .slice A' n' c'], fun v _ _ => v = .slice Ay ny cy, fun v _ _ => v = .agg #[.bool false, .slice Ay ny cy], fun v _ w => IsR2 w v (q.num) j (((ofB p q : Nat) : Int)) k, fun v _ w => IsZ (w3).heap.size w v (q.num * (((ofB p q : Nat) : Int))) (j + k), fun v _ w => IsP (w3).heap.size v w, fun _ u w => HasZ (w3).heap.size u w (q.num * (((ofB p q : Nat) : Int))) (j + k)] (n := 8) (by kernel_rfl) rfl (by kernel_rfl) (by kernel_rfl) (by kernel_rfl) (by kernel_rfl) (by kernel_rfl) (rx_refl _) (rxu_trans _) ⟨sC, ⟨sC, ⟨sC, ⟨sC, ⟨xR2, ⟨xZ, ⟨xP, ⟨xHZ, trivial⟩⟩⟩⟩⟩⟩⟩⟩ ?_ ?_
   ·refine ⟨⟨⟨⟨⟨⟨⟨⟨trivial, ?_⟩, ?_⟩, ?_⟩, ?_⟩, ?_⟩, ?_⟩, ?_⟩, ?_⟩
    ·refine rs_plain rfl rfl fun a wr S => ?_
     have X := undrewX S.ext
     exact wp_qf0 (ev_of ((S.old 3 (by kernel_rfl)).trans rfl)) (done (by kernel_rfl) (rxu_refl _) rfl)
    ·refine rs_plain rfl rfl fun a wr S => ?_
     have X := undrewX S.ext
     obtain ⟨v0, e0, h0⟩ := S.got 0 (by kernel_rfl)
     exact wp_qN ((ev_of (e0 29 (by kernel_rfl))).trans h0) (PB.below X) (done (by kernel_rfl) (rxu_refl _) rfl)
    ·refine rs_plain rfl rfl fun a wr S => ?_
     have X := undrewX S.ext
     exact wp_mv (ev_of ((S.old 7 (by kernel_rfl)).trans rfl)) (done (by kernel_rfl) (rxu_refl _) rfl)
    ·refine rs_plain rfl rfl fun a wr S => ?_
     have X := undrewX S.ext
     obtain ⟨v2, e2, h2⟩ := S.got 2 (by kernel_rfl)
     exact st_call cf_rat_unsigned (args1 ((ev_of (e2 31 (by kernel_rfl))).trans h2)) (by kernel_rfl) (rxu _) (cUnsigned _ _ _) (fun _ _ _ h => h)
    ·refine rs_plain rfl rfl fun a wr S => ?_
     have X := undrewX S.ext
     obtain ⟨v1, e1, h1⟩ := S.got 1 (by kernel_rfl)
     obtain ⟨v3, e3, h3⟩ := S.got 3 (by kernel_rfl)
     obtain ⟨b0, A0, n0, c0, hv0, Z0⟩ := (show IsM wr _ _ _ from (ZB.below X))
     obtain ⟨b1, A1, n1, c1, hv1, Z1⟩ := (show IsM wr _ _ _ from (unsM (NY.below X)))
     exact wp_bs2 (((ev_of (e1 30 (by kernel_rfl))).trans h1).trans hv0) (((ev_of (e3 32 (by kernel_rfl))).trans h3).trans hv1) (done' (by kernel_rfl) ((rxu _) _ _ _ (bl_alloc _ _)) (IsR2.new Z0 Z1))
    ·refine rs_plain rfl rfl fun a wr S => ?_
     have X := undrewX S.ext
     obtain ⟨v4, e4, h4⟩ := S.got 4 (by kernel_rfl)
     exact st_call cf_big_Mul (args1 (ev_of (e4 33 (by kernel_rfl)))) (by kernel_rfl) (rxu _) (cMul2 (z := q.num) (u := (((ofB p q : Nat) : Int))) h4 (by omega) (by omega) (by omega) X.size) (fun _ _ _ h => h)
    ·refine rs_plain rfl rfl fun a wr S => ?_
     have X := undrewX S.ext
     refine st_alloc X.size (fun _ _ _ h => h) fun j vj u hj hs => ?_
     have hj' : j ∈ [6] := alloc_cases (by kernel_rfl) j hj
     simp only [List.mem_cons, List.not_mem_nil, or_false] at hj'
     subst hj'; exact hs
    ·refine rs_plain rfl rfl fun a wr S => ?_
     have X := undrewX S.ext
     obtain ⟨v6, e6, h6⟩ := S.got 6 (by kernel_rfl)
     obtain ⟨v5, e5, h5⟩ := S.got 5 (by kernel_rfl)
     exact st_storeZ (by kernel_rfl) (by kernel_rfl) (ev_of (e6 9 (by kernel_rfl))) h6 (ev_of (e5 34 (by kernel_rfl))) h5 (fun _ _ _ h => h)
   ·intro fc w4 hR hv
    replace hR := undrewX hR
    have f0 : fc 0 = .pointer (some ⟨w.heap.size, 0, none⟩) := (hvc (hv 0 (by omega))).elim fun _ h => h
    have f1 : fc 1 = .agg #[.bool t, .slice A' n' c'] := (hvc (hv 1 (by omega))).elim fun _ h => h
    have f2 : fc 2 = .slice Ay ny cy := (hvc (hv 2 (by omega))).elim fun _ h => h
    have f3 : fc 3 = .agg #[.bool false, .slice Ay ny cy] := (hvc (hv 3 (by omega))).elim fun _ h => h
    obtain ⟨gm, bm, Am, nm, cm, f6, hgm, Pm, Zm⟩ := (show HasZ _ (fc 6) w4 (q.num * (((ofB p q : Nat) : Int))) (j + k) from hvs (hv 7 (by omega)) (by kernel_rfl))
    simp only [putFn, Act.put, List.setIfInBounds_toArray, List.set_cons_zero, List.set_cons_succ, f0, f1, f2, f3, f6]
    have hs4 := hR.size
    replace PA := PA.below hR
    replace PB := PB.below hR
    replace PT := PT.below hR
    replace PR := PR.below hR
    replace PE := PE.below hR
    replace NA := NA.below hR
    replace ZB := ZB.below hR
    replace NX := NX.below hR
    replace NY := NY.below hR
    replace Pn := Pn.below hR
    replace QN := QN.below hR
    replace BB := bl_trans BB hR
    have QM : IsM w4 (.agg #[.bool bm, .slice Am nm cm]) (q.num * ((ofB p q : Nat) : Int)) (j + k) := ⟨_, _, _, _, rfl, Zm.zm⟩
    clear hR hv Zm hgm ZB NY PB
    go_wp2_with fail
    refine wp_cut (by kernel_rfl) 7 ?_
    simp only [List.take_succ_cons, List.take_zero, List.drop_succ_cons, List.drop_zero]
    refine wp_cut_list (Ext := RB) (Rel := RBu) [fun v _ _ => v = .func (Fn.func 49) #[] #[.pointer (some ⟨ge, 0, none⟩)], fun v _ _ => v = .agg #[.bool bn, .slice An nn cn], fun v _ _ => v = .agg #[.bool bm, .slice Am nm cm], fun v _ _ => v = .pointer (some ⟨ga, 2, none⟩), fun v _ _ => v = .slice B m d, fun v _ _ => v = .slice Ax nx cx, fun v _ w => IsD (w4).heap.size w v (p.den * (ofA p q)) (k + j)] (n := 7) (by kernel_rfl) (by kernel_rfl) (by kernel_rfl) (by kernel_rfl) (by kernel_rfl) (by kernel_rfl) (by kernel_rfl) (by kernel_rfl) (by kernel_rfl) rb_refl rb_trans ⟨sC, ⟨sC, ⟨sC, ⟨sC, ⟨sC, ⟨sC, ⟨sD, trivial⟩⟩⟩⟩⟩⟩⟩ ?_ ?_
    ·refine ⟨⟨⟨⟨⟨⟨⟨trivial, ?_⟩, ?_⟩, ?_⟩, ?_⟩, ?_⟩, ?_⟩, ?_⟩
     ·refine rs_plain rfl rfl fun a wr S => ?_
      have X := undrew S.ext
      exact wp_floadR (ev_of ((S.old 2 (by kernel_rfl)).trans rfl)) (PT.below X) (done (by kernel_rfl) rbu_refl rfl)
     ·refine rs_plain rfl rfl fun a wr S => ?_
      have X := undrew S.ext
      exact wp_load (ev_of ((S.old 8 (by kernel_rfl)).trans rfl)) (Pn.below X) (done (by kernel_rfl) rbu_refl rfl)
     ·refine rs_plain rfl rfl fun a wr S => ?_
      have X := undrew S.ext
      exact wp_load (ev_of ((S.old 9 (by kernel_rfl)).trans rfl)) (Pm.below X) (done (by kernel_rfl) rbu_refl rfl)
     ·refine rs_plain rfl rfl fun a wr S => ?_
      have X := undrew S.ext
      exact wp_qf1 (ev_of ((S.old 1 (by kernel_rfl)).trans rfl)) (done (by kernel_rfl) rbu_refl rfl)
     ·refine rs_plain rfl rfl fun a wr S => ?_
      have X := undrew S.ext
      obtain ⟨v3, e3, h3⟩ := S.got 3 (by kernel_rfl)
      exact wp_qD ((ev_of (e3 38 (by kernel_rfl))).trans h3) (PA.below X) (done (by kernel_rfl) rbu_refl rfl)
     ·refine rs_plain rfl rfl fun a wr S => ?_
      have X := undrew S.ext
      exact wp_mv (ev_of ((S.old 6 (by kernel_rfl)).trans rfl)) (done (by kernel_rfl) rbu_refl rfl)
     ·refine rs_plain rfl rfl fun a wr S => ?_
      have X := undrew S.ext
      obtain ⟨v4, e4, h4⟩ := S.got 4 (by kernel_rfl)
      obtain ⟨v5, e5, h5⟩ := S.got 5 (by kernel_rfl)
      exact st_call cf_nat_Mul (args2 ((ev_of (e4 39 (by kernel_rfl))).trans h4) ((ev_of (e5 40 (by kernel_rfl))).trans h5)) (by kernel_rfl) rb (cMulD ⟨_, _, _, rfl, NA.below X⟩ ⟨_, _, _, rfl, NX.below X⟩ (by omega) (by omega) (by omega) X.size) (fun _ _ _ h => h)
    ·intro fd w5 hR hv hap
     clear hap
     replace hR := undrew hR
     have f0 : fd 0 = .func (Fn.func 49) #[] #[.pointer (some ⟨ge, 0, none⟩)] := (hvc (hv 0 (by omega))).elim fun _ h => h
     have f1 : fd 1 = .agg #[.bool bn, .slice An nn cn] := (hvc (hv 1 (by omega))).elim fun _ h => h
     have f2 : fd 2 = .agg #[.bool bm, .slice Am nm cm] := (hvc (hv 2 (by omega))).elim fun _ h => h
     have f3 : fd 3 = .pointer (some ⟨ga, 2, none⟩) := (hvc (hv 3 (by omega))).elim fun _ h => h
     have f4 : fd 4 = .slice B m d := (hvc (hv 4 (by omega))).elim fun _ h => h
     have f5 : fd 5 = .slice Ax nx cx := (hvc (hv 5 (by omega))).elim fun _ h => h
     obtain ⟨Az, nz, cz, f6, Oz, lz⟩ := (show IsD _ w5 _ (p.den * (ofA p q)) (k + j) from (hvc (hv 6 (by omega))).elim fun _ h => h)
     simp only [putFn, Act.put, List.setIfInBounds_toArray, List.set_cons_zero, List.set_cons_succ, f0, f1, f2, f3, f4, f5, f6]
     have hs5 := hR.size
     replace QN := QN.below hR
     replace QM := QM.below hR
     replace PR := PR.below hR
     replace PE := PE.below hR
     replace BB := bl_trans BB hR
     have ND : IsN w5 (.slice Az nz cz) (p.den * ofA p q) (k + j) := ⟨_, _, _, rfl, ⟨⟨_, Oz.rd, M.val_lims _⟩, lz⟩⟩
     have hd0 : p.den * ofA p q ≠ 0 := Nat.mul_ne_zero p.den_nz (two_A_pos p q)
     clear hR hv Oz lz PA PT NA NX Pn Pm
     go_wp2_with fail
     refine (cDiv1e QN QM PE (by omega) (by omega) (one_le_of hd0 ND.lt)).mono ?_
     rintro e w6 ⟨_, rfl, hb6, q6, he6⟩
     rw [HT.out] at q6
     replace he6 := HM.out ▸ he6
     replace q6 := q6.mono (show _ ≤ k + j by omega)
     obtain ⟨b6, A6, n6, c6, B6, m6, d6, rfl, _⟩ := id q6
     replace PR := PR.blE hb6 (by omega)
     have BE := BlE.of BB hb6
     have r0 := PR.c0
     have f0 := PR.f 0
     have r1 := PR.c1
     have f1 := PR.f 1
     have r2 := PR.c2
     have f2 := PR.f 2
     clear hb6 QN QM ND
     go_wp2_with fail
     exact bodyPost_ret (v := .agg #[.bool b6, .slice A6 n6 c6, .slice B6 m6 d6]) (by simp [results, Tryz.results98, go_sem, *]) rfl (fin_qE q6 he6 BE hge (by omega) (by omega) _ _ _)

set_option maxHeartbeats 4000000 in
theorem two1_Div {w : World} {v : Value} {p q : Rat} {k j N gb gt ge : Nat} {o : Int} {b2 : Bool} {A2 B2 : Option Addr} {n2 c2 m2 d2 : Nat} (hp : IsQ N w v p k) (PB : Bq w gb b2 A2 n2 c2 B2 m2 d2) (QB : IsQm w (.agg #[.bool b2, .slice A2 n2 c2, .slice B2 m2 d2]) q j) (PT : Bf w gt (.func (Fn.func 49) #[] #[.pointer (some ⟨ge, 0, none⟩)]) 58) (PE : Be w ge o) (hk : k ≤ 18) (hj : j ≤ 18) (hj1 : 1 ≤ j) : Calls Tryz.prog 97 #[v, .pointer (some ⟨gb, 0, none⟩), .pointer (some ⟨gt, 0, none⟩)] w (AnsE ge w fun w' v => IsQ w.heap.size w' v (p / q) (k + j) ∧ Be w' ge (eQ q)) := by
 have hpt := hp.t
 obtain ⟨b0, A0, n0, c0, B0, m0, d0, rfl, _⟩ := hp
 have PA := (Bq.new w b0 A0 n0 c0 B0 m0 d0).alloc (.cells #[.bool false, .slice none 0 0, .slice none 0 0] 26)
 have PR := Bq.new2 w (.cells #[.bool b0, .slice A0 n0 c0, .slice B0 m0 d0] 26) false none 0 0 none 0 0
 have BB := bl_trans (bl_alloc w (.cells #[.bool b0, .slice A0 n0 c0, .slice B0 m0 d0] 26)) (bl_alloc _ (.cells #[.bool false, .slice none 0 0, .slice none 0 0] 26))
 have hge := PE.lt
 have HE := Lib.hid (PE.below BB)
 clear PE
 have HP := Lib.hid (hpt.below BB)
 have HA := Lib.hid PA
 replace PB := PB.below BB
 have HT := Lib.hid (PT.below BB)
 have HB := Lib.hid (QB.below BB)
 clear hpt QB PT PA
 have y0 := PB.c0
 have y1 := PB.c1
 have y2 := PB.c2
 go_enter Tryz.func97, Tryz.ntmps97
 go_wp2_with fail
 refine (madeE_ofTwoR2 (q' := (p / q)) (k' := (k + j)) (ge := ge) (o := eQ q) HB.out (by omega) hj1 (by simp; omega) fun W u hW hsz hu => (two2_Div hu (HA.out.below hW) (HP.out.below hW) (HT.out.below hW) (HE.out.below hW) hk hj).mono fun e w' r => ?_).mono ?_
 ·exact ansE_base hsz e w' r
 clear y0 y1 y2 PB HA HB HT HP
 rintro e w1 ⟨_, rfl, hb1, q1, he1⟩
 obtain ⟨b1, A1, n1, c1, B1, m1, d1, rfl, _⟩ := id q1
 replace PR := PR.blE hb1 (by omega)
 have BE := BlE.of BB hb1
 have r0 := PR.c0
 have f0 := PR.f 0
 have r1 := PR.c1
 have f1 := PR.f 1
 have r2 := PR.c2
 have f2 := PR.f 2
 clear hb1
 go_wp2_with fail
 exact bodyPost_ret (v := .agg #[.bool b1, .slice A1 n1 c1, .slice B1 m1 d1]) (by simp [results, Tryz.results97, go_sem, *]) rfl (fin_qE (N := w.heap.size + 1 + 1) (q1.base (by simp)) he1 BE hge (by omega) (by omega) _ _ _)

set_option maxHeartbeats 4000000 in
theorem two0_Div {w : World} {v v' : Value} {p q : Rat} {k j ge : Nat} {o : Int} (ha : IsQm w v p k) (hb : IsQm w v' q j) (PE : Be w ge o) (hk : k ≤ 18) (hj : j ≤ 18) (hk1 : 1 ≤ k) (hj1 : 1 ≤ j) : Calls Tryz.prog 48 #[v, v', .func (Fn.func 49) #[] #[.pointer (some ⟨ge, 0, none⟩)]] w (AnsE ge w fun w' v => IsQ w.heap.size w' v (p / q) (k + j) ∧ Be w' ge (eQ q)) := by
 obtain ⟨b2, A2, n2, c2, B2, m2, d2, rfl, _⟩ := id ha
 obtain ⟨b3, A3, n3, c3, B3, m3, d3, rfl, _⟩ := id hb
 have BB := (bl_trans (bl_trans (bl_trans (bl_alloc w (.cells #[.bool b2, .slice A2 n2 c2, .slice B2 m2 d2] 26)) (bl_alloc _ (.cells #[.bool b3, .slice A3 n3 c3, .slice B3 m3 d3] 26))) (bl_alloc _ (.cells #[.func (Fn.func 49) #[] #[.pointer (some ⟨ge, 0, none⟩)]] 58))) (bl_alloc _ (.cells #[.bool false, .slice none 0 0, .slice none 0 0] 26)))
 have PA := ((Bq.new w b2 A2 n2 c2 B2 m2 d2).alloc (.cells #[.bool b3, .slice A3 n3 c3, .slice B3 m3 d3] 26)).alloc (.cells #[.func (Fn.func 49) #[] #[.pointer (some ⟨ge, 0, none⟩)]] 58)
 have PB := (Bq.new2 w (.cells #[.bool b2, .slice A2 n2 c2, .slice B2 m2 d2] 26) b3 A3 n3 c3 B3 m3 d3).alloc (.cells #[.func (Fn.func 49) #[] #[.pointer (some ⟨ge, 0, none⟩)]] 58)
 have PT := Bf.new3 w (.cells #[.bool b2, .slice A2 n2 c2, .slice B2 m2 d2] 26) (.cells #[.bool b3, .slice A3 n3 c3, .slice B3 m3 d3] 26) (.func (Fn.func 49) #[] #[.pointer (some ⟨ge, 0, none⟩)]) 58
 replace PA := PA.alloc (.cells #[.bool false, .slice none 0 0, .slice none 0 0] 26)
 replace PB := PB.alloc (.cells #[.bool false, .slice none 0 0, .slice none 0 0] 26)
 replace PT := PT.below (bl_alloc _ (.cells #[.bool false, .slice none 0 0, .slice none 0 0] 26))
 have PR := Bq.new4 w (.cells #[.bool b2, .slice A2 n2 c2, .slice B2 m2 d2] 26) (.cells #[.bool b3, .slice A3 n3 c3, .slice B3 m3 d3] 26) (.cells #[.func (Fn.func 49) #[] #[.pointer (some ⟨ge, 0, none⟩)]] 58) false none 0 0 none 0 0
 have hge := PE.lt
 have HE := Lib.hid (PE.below BB)
 clear PE
 have HA := Lib.hid (ha.below BB)
 have HB := Lib.hid (hb.below BB)
 have HPB := Lib.hid PB
 have HPT := Lib.hid PT
 clear ha hb PB PT
 have x0 := PA.c0
 have x1 := PA.c1
 have x2 := PA.c2
 go_enter Tryz.func48, Tryz.ntmps48
 go_wp2_with fail
 refine (madeE_ofTwoR1 (q' := (p / q)) (k' := (k + j)) (ge := ge) (o := eQ q) HA.out (by omega) hk1 (by simp; omega) fun W u hW hsz hu => (two1_Div hu (HPB.out.below hW) (HB.out.below hW) (HPT.out.below hW) (HE.out.below hW) hk hj hj1).mono fun e w' r => ?_).mono ?_
 ·exact ansE_base hsz e w' r
 clear x0 x1 x2 PA HA HB HPB HPT
 rintro e w1 ⟨_, rfl, hb1, q1, he1⟩
 obtain ⟨b1, A1, n1, c1, B1, m1, d1, rfl, _⟩ := id q1
 replace PR := PR.blE hb1 (by omega)
 have BE := BlE.of BB hb1
 have r0 := PR.c0
 have f0 := PR.f 0
 have r1 := PR.c1
 have f1 := PR.f 1
 have r2 := PR.c2
 have f2 := PR.f 2
 clear hb1
 go_wp2_with fail
 exact bodyPost_ret (v := .agg #[.bool b1, .slice A1 n1 c1, .slice B1 m1 d1]) (by simp [results, Tryz.results48, go_sem, *]) rfl (fin_qE (N := w.heap.size + 1 + 1 + 1 + 1) (q1.base (by simp)) he1 BE hge (by omega) (by omega) _ _ _)

set_option maxHeartbeats 4000000 in
theorem cQDiv {w : World} {v v' : Value} {p q : Rat} {k j : Nat} (ha : IsQm w v p k) (hb : IsQm w v' q j) (hk : k ≤ 18) (hj : j ≤ 18) (hk1 : 1 ≤ k) (hj1 : 1 ≤ j) : Calls Tryz.prog 13 #[v, v'] w (Ans w fun w' v => IsQE w.heap.size w' v (p / q) (k + j) (eQ q)) := by
 obtain ⟨b2, A2, n2, c2, B2, m2, d2, rfl, y1⟩ := id ha
 obtain ⟨b3, A3, n3, c3, B3, m3, d3, rfl, y2⟩ := id hb
 clear y1 y2
 have BB := bl_trans (bl_trans (bl_trans (bl_alloc w (.cells #[.bool b2, .slice A2 n2 c2, .slice B2 m2 d2] 26)) (bl_alloc _ (.cells #[.bool b3, .slice A3 n3 c3, .slice B3 m3 d3] 26))) (bl_alloc _ (.cells #[.bool false, .slice none 0 0, .slice none 0 0] 26))) (bl_alloc _ (.cells #[.int .i64 0] 28))
 have PA := (((Bq.new w b2 A2 n2 c2 B2 m2 d2).alloc (.cells #[.bool b3, .slice A3 n3 c3, .slice B3 m3 d3] 26)).alloc (.cells #[.bool false, .slice none 0 0, .slice none 0 0] 26)).alloc (.cells #[.int .i64 0] 28)
 have PB := ((Bq.new2 w (.cells #[.bool b2, .slice A2 n2 c2, .slice B2 m2 d2] 26) b3 A3 n3 c3 B3 m3 d3).alloc (.cells #[.bool false, .slice none 0 0, .slice none 0 0] 26)).alloc (.cells #[.int .i64 0] 28)
 have PR := (Bq.new3 w (.cells #[.bool b2, .slice A2 n2 c2, .slice B2 m2 d2] 26) (.cells #[.bool b3, .slice A3 n3 c3, .slice B3 m3 d3] 26) false none 0 0 none 0 0).alloc (.cells #[.int .i64 0] 28)
 have PE := Be.new4 w (.cells #[.bool b2, .slice A2 n2 c2, .slice B2 m2 d2] 26) (.cells #[.bool b3, .slice A3 n3 c3, .slice B3 m3 d3] 26) (.cells #[.bool false, .slice none 0 0, .slice none 0 0] 26) 0
 have HA := Lib.hid (ha.below BB)
 have HB := Lib.hid (hb.below BB)
 have HE := Lib.hid PE
 have x0 := PA.c0
 have x1 := PA.c1
 have x2 := PA.c2
 have y0 := PB.c0
 have y1 := PB.c1
 have y2 := PB.c2
 generalize hq9 : eQ q = o9
 have H9 := Lib.hid hq9
 clear ha hb hq9
 go_enter Tryz.func13, Tryz.ntmps13
 go_wp2_with fail
 refine (two0_Div HA.out HB.out HE.out hk hj hk1 hj1).mono ?_
 rw [H9.out]
 rintro e w1 ⟨_, rfl, hb1, q1, he1⟩
 obtain ⟨b1, A1, n1, c1, B1, m1, d1, rfl, yy⟩ := id q1
 clear yy
 have hs1 := hb1.size
 simp only [hs_alloc] at hs1 q1
 replace PR := PR.blE hb1 (by omega)
 have BW := BlE.below hb1 (by omega) BB
 have OO : Below w1.heap.size w1 (w1.alloc (.cells #[.bool b1, .slice A1 n1 c1, .slice B1 m1 d1] 26)) := bl_alloc _ _
 have PQ := Bq.new w1 b1 A1 n1 c1 B1 m1 d1
 replace q1 := q1.below OO
 replace PR := PR.below OO
 replace he1 := he1.below OO
 replace BW := bl_trans BW OO
 have e0 := he1.c0
 have p0 := PQ.c0
 have p1 := PQ.c1
 have p2 := PQ.c2
 have r0 := PR.c0
 have r1 := PR.c1
 have r2 := PR.c2
 have f0 := PR.f 0
 have f1 := PR.f 1
 have f2 := PR.f 2
 clear x0 x1 x2 y0 y1 y2 PA PB HA HB HE BB PE hb1 OO
 go_wp2_with fail
 go_region
 go_wp2_with fail
 have PF := (PR.set3 (b' := b1) (A' := A1) (n' := n1) (c' := c1) (B' := B1) (m' := m1) (d' := d1)).drew
 obtain ⟨_, e1, fb, fq⟩ := fin_q (g := w.heap.size + 1 + 1) q1 BW (by omega) (by omega) (.bool b1) (.slice A1 n1 c1) (.slice B1 m1 d1)
 cases e1
 replace fq := fq.below (Below.drew (Below.refl _ _))
 replace fb := Below.drew fb
 clear e0 p0 p1 p2 r0 r1 r2 f0 f1 f2 PQ he1 BW q1 PR
 generalize World.drew _ = W9 at PF fq fb ⊢
 have z0 := PF.c0
 have z1 := PF.c1
 have z2 := PF.c2
 exact bodyPost_ret (v := .tuple #[.agg #[.bool b1, .slice A1 n1 c1, .slice B1 m1 d1], .int .i64 o9]) (by simp [results, Tryz.results13, go_sem, z0, z1, z2]) rfl ⟨_, rfl, fb, _, _, _, _, _, _, _, rfl, fq⟩

end Go.Proofs.YtbhgbilhoonopaaGreat
namespace Go.Proofs.YtbhgbilhoonopaaGreat
open Go.RowKit
set_option linter.unusedVariables false
set_option maxRecDepth 100000

section
variable {a : Act} {w : World} {K : Act → World → Prop} {Q : Exit → Act → World → Prop} {dst : Option Tmp} {ty : TypeId} {pos : String} {af : Array Edge} {gd : Option (Nat × Bool)} {x y : Operand} {p q : Int}
end
theorem cf_rat_Add : CallsF 22 := fun args w => by go_simp
theorem cf_rat_Mul : CallsF 26 := fun args w => by go_simp
theorem cf_rat_Cmp : CallsF 28 := fun args w => by go_simp
theorem cf_rat_Floor : CallsF 33 := fun args w => by go_simp
theorem cf_rat_Ceil : CallsF 35 := fun args w => by go_simp
theorem cf_rat_Text : CallsF 37 := fun args w => by go_simp
theorem cf_law03_same : CallsF 15 := fun args w => by go_simp
theorem cf_ref03_SameInt : CallsF 32 := fun args w => by go_simp

end Go.Proofs.YtbhgbilhoonopaaGreat
namespace Go.Proofs.YtbhgbilhoonopaaGreat
open Go.RowKit
set_option linter.unusedVariables false
set_option maxRecDepth 100000

set_option maxHeartbeats 2000000 in
theorem cOf3 {w : World} (x y : Int) (x0 : -9223372036854775808 ≤ x) (x1 : x < 9223372036854775808) (y0 : -9223372036854775808 ≤ y) (y1 : y < 9223372036854775808) : Calls Tryz.prog 87 #[.int .i64 x, .int .i64 y] w (Ans w fun w' v => IsQ w.heap.size w' v (((x : Int) : Rat) / ((y : Int) : Rat)) 4) := by
 have PR := Bq.new w false none 0 0 none 0 0
 have BB := bl_alloc w (.cells #[.bool false, .slice none 0 0, .slice none 0 0] 26)
 go_enter Tryz.func87, Tryz.ntmps87
 go_wp2_with fail
 refine (cQFrom x x0 x1).mono ?_
 rintro e w1 ⟨_, rfl, hb1, q1⟩
 obtain ⟨b1, A1, n1, c1, B1, m1, d1, rfl, yy⟩ := id q1
 clear yy
 replace PR := PR.below hb1
 replace BB := bl_trans BB hb1
 clear hb1
 go_wp2_with fail
 refine (cQFrom y y0 y1).mono ?_
 rintro e w2 ⟨_, rfl, hb2, q2⟩
 obtain ⟨b2, A2, n2, c2, B2, m2, d2, rfl, yy⟩ := id q2
 clear yy
 have hs2 := hb2.size
 replace q1 := q1.below hb2
 replace PR := PR.below hb2
 replace BB := bl_trans BB hb2
 clear hb2
 go_wp2_with fail
 refine (cQDiv q1.m q2.m (by omega) (by omega) (by omega) (by omega)).mono ?_
 rintro e w3 ⟨_, rfl, hb3, b3, A3, n3, c3, B3, m3, d3, rfl, q3⟩
 have hl := PR.lt
 replace PR := PR.below hb3
 replace BB := bl_trans BB hb3
 clear hb3 q1 q2
 have PQ := Bq.new w3 b3 A3 n3 c3 B3 m3 d3
 have OO : Below w3.heap.size w3 (w3.alloc (.cells #[.bool b3, .slice A3 n3 c3, .slice B3 m3 d3] 26)) := bl_alloc _ _
 replace q3 := q3.below OO
 replace PR := PR.below OO
 replace BB := bl_trans BB OO
 have p0 := PQ.c0
 have p1 := PQ.c1
 have p2 := PQ.c2
 have r0 := PR.c0
 have r1 := PR.c1
 have r2 := PR.c2
 have f0 := PR.f 0
 have f1 := PR.f 1
 have f2 := PR.f 2
 clear OO
 go_wp2_with fail
 have PF := PR.set3 (b' := b3) (A' := A3) (n' := n3) (c' := c3) (B' := B3) (m' := m3) (d' := d3)
 obtain ⟨_, e1, fb, fq⟩ := fin_q (g := w.heap.size) q3 BB (by omega) (by omega) (.bool b3) (.slice A3 n3 c3) (.slice B3 m3 d3)
 cases e1
 clear p0 p1 p2 r0 r1 r2 f0 f1 f2 PQ BB q3 PR
 generalize World.setCell _ ⟨w.heap.size, 2, none⟩ _ = W9 at PF fq fb ⊢
 have z0 := PF.c0
 have z1 := PF.c1
 have z2 := PF.c2
 exact bodyPost_ret (v := .agg #[.bool b3, .slice A3 n3 c3, .slice B3 m3 d3]) (by simp [results, Tryz.results87, go_sem, z0, z1, z2]) rfl ⟨_, rfl, fb, fq⟩

end Go.Proofs.YtbhgbilhoonopaaGreat
namespace Go.Proofs.YtbhgbilhoonopaaGreat
open Go.RowKit
set_option linter.unusedVariables false
set_option maxRecDepth 100000

def IsQB (N : Nat) (w : World) (v : Value) (q : Rat) (k : Nat) (o : Bool) : Prop := ∃ b A n c B m d, v = .tuple #[.agg #[.bool b, .slice A n c, .slice B m d], .bool o] ∧ IsQ N w (.agg #[.bool b, .slice A n c, .slice B m d]) q k
theorem cParseD {w : World} {N k : Nat} (s : ByteArray) (hs : s.size ≤ 1048576) (hd : M.Digits (M.bytes s)) (hv : M.dec 0 (M.bytes s) < M.R ^ k) (hN : N ≤ w.heap.size) : Calls Tryz.prog 94 #[.string s] w (Ans w fun w' v => ∃ A n c, v = .tuple #[.slice A n c, .bool true] ∧ Own w' N A n c (M.lims (M.dec 0 (M.bytes s))) ∧ n ≤ k) := by
 refine (parse_yes s w hs hd).mono ?_
 rintro e w' ⟨A, c, rfl, ho, hb⟩
 exact ⟨_, rfl, hb, A, _, c, rfl, ho.mono hN, M.lims_length_le.2 hv⟩
set_option maxHeartbeats 4000000 in
theorem cQParse1 {w : World} {k : Nat} (s : ByteArray) (hs : s.size ≤ 1048576) (h : 47 ∉ M.bytes s) (hz : isZ s) (hv : (valZ s).natAbs < M.R ^ k) (hk : k ≤ 900) (hk1 : 1 ≤ k) : Calls Tryz.prog 44 #[.string s] w (Ans w fun w' v => IsQB w.heap.size w' v ((valZ s : Int) : Rat) k true) := by
 have PR := Bq.new w false none 0 0 none 0 0
 have BB := bl_alloc w (.cells #[.bool false, .slice none 0 0, .slice none 0 0] 26)
 have HC := Lib.hid (scut_no s hs (w.alloc (.cells #[.bool false, .slice none 0 0, .slice none 0 0] 26)) h)
 have HZ := Lib.hid hz
 have HV := Lib.hid hv
 clear h hz hv
 go_enter Tryz.func44, Tryz.ntmps44
 go_wp2_with fail
 refine HC.out.mono ?_
 rintro e w1 ⟨_, rfl, hb1, rfl⟩
 have hs1 := hb1.size
 simp only [hs_alloc] at hs1
 replace PR := PR.below hb1
 replace BB := bl_trans BB hb1
 clear hb1 HC
 go_wp2_with fail
 refine (cParse (N := w.heap.size + 1) s hs HZ.out HV.out (by omega)).mono ?_
 rintro e w2 ⟨_, rfl, hb2, b2, A2, n2, c2, rfl, Z2⟩
 have hs2 := hb2.size
 have OO : Below w2.heap.size w2 (w2.alloc (.cells #[.bool b2, .slice A2 n2 c2] 24)) := bl_alloc _ _
 replace PR := (PR.below hb2).below OO
 replace BB := bl_trans (bl_trans BB hb2) OO
 replace Z2 := Z2.below OO
 have PN := Bz.new w2 b2 A2 n2 c2
 have p0 := PN.c0
 have p1 := PN.c1
 clear hb2 HZ HV OO
 go_wp2_with fail
 refine (cQInt (k := k) ⟨_, _, _, _, rfl, Z2.zm⟩ hk hk1).mono ?_
 rintro e w9 ⟨_, rfl, hb9, q9⟩
 obtain ⟨b9, A9, n9, c9, B9, m9, d9, rfl, yy⟩ := id q9
 clear yy p0 p1 PN Z2
 simp only [hs_alloc] at q9
 replace PR := PR.below hb9
 replace BB := bl_trans BB hb9
 clear hb9
 have r0 := PR.c0
 have r1 := PR.c1
 have r2 := PR.c2
 have f0 := PR.f 0
 have f1 := PR.f 1
 have f2 := PR.f 2
 go_wp2_with fail
 have PF := PR.set3 (b' := b9) (A' := A9) (n' := n9) (c' := c9) (B' := B9) (m' := m9) (d' := d9)
 obtain ⟨_, e1, fb, fq⟩ := fin_q (g := w.heap.size) q9 BB (by omega) (by omega) (.bool b9) (.slice A9 n9 c9) (.slice B9 m9 d9)
 cases e1
 clear r0 r1 r2 f0 f1 f2
 generalize World.setCell _ ⟨w.heap.size, 2, none⟩ _ = W9 at PF fq fb ⊢
 have z0 := PF.c0
 have z1 := PF.c1
 have z2 := PF.c2
 exact bodyPost_ret (v := .tuple #[.agg #[.bool b9, .slice A9 n9 c9, .slice B9 m9 d9], .bool true]) (by simp [results, Tryz.results44, go_sem, z0, z1, z2]) rfl ⟨_, rfl, fb, _, _, _, _, _, _, _, rfl, fq⟩

set_option maxHeartbeats 4000000 in
theorem cQParse2 {w : World} {k : Nat} {l1 l2 : List Nat} (s : ByteArray) (hs : s.size ≤ 1048576) (h : M.bytes s = l1 ++ 47 :: l2) (hn : 47 ∉ l1) (hz : isZ (s.extract 0 l1.length)) (hd : M.Digits l2) (q : Rat) (hq1 : valZ (s.extract 0 l1.length) = q.num) (hq2 : M.dec 0 l2 = q.den) (hq3 : q.den ≠ 1) (hv1 : q.num.natAbs < M.R ^ k) (hv2 : q.den < M.R ^ k) (hk : k ≤ 900) (hk1 : 1 ≤ k) : Calls Tryz.prog 44 #[.string s] w (Ans w fun w' v => IsQB w.heap.size w' v q k true) := by
  have PR := Bq.new w false none 0 0 none 0 0
  have BB := bl_alloc w (.cells #[.bool false, .slice none 0 0, .slice none 0 0] 26)
  have HC := Lib.hid (scut_yes s hs (w.alloc (.cells #[.bool false, .slice none 0 0, .slice none 0 0] 26)) h hn)
  have hb := bytes_take s h
  have z1 : (s.extract 0 l1.length).size ≤ 1048576 := by rw [← M.bytes_len, hb.1]; have : (M.bytes s).length ≤ 1048576 := by rw [M.bytes_len]; exact hs
                                                         rw [h, List.length_append] at this; omega
  have z2 : (s.extract (l1.length + 1) s.size).size ≤ 1048576 := by rw [← M.bytes_len, hb.2]; have : (M.bytes s).length ≤ 1048576 := by rw [M.bytes_len]; exact hs
                                                                    rw [h, List.length_append, List.length_cons] at this; omega
  have HB2 := Lib.hid hb.2
  have HZ := Lib.hid hz
  have HQ1 := Lib.hid hq1
  have HQ2 := Lib.hid hq2
  have HQ3 := Lib.hid hq3
  have HV1 := Lib.hid hv1
  have HV2 := Lib.hid hv2
  have HD := Lib.hid hd
  clear h hz hq1 hq2 hq3 hv1 hv2 hd hb hn
  generalize s.extract 0 l1.length = s1 at HC HZ HQ1 z1
  generalize s.extract (l1.length + 1) s.size = s2 at HC HB2 z2
  go_enter Tryz.func44, Tryz.ntmps44
  go_wp2_with fail
  refine HC.out.mono ?_
  rintro e w1 ⟨_, rfl, hb1, rfl⟩
  have hs1 := hb1.size
  simp only [hs_alloc] at hs1
  replace PR := PR.below hb1
  replace BB := bl_trans BB hb1
  clear hb1 HC
  go_wp2_with fail
  refine (cParse (N := w.heap.size + 1) (k := k) s1 z1 HZ.out (by rw [HQ1.out]; exact HV1.out) (by omega)).mono ?_
  rw [HQ1.out]
  rintro e w2 ⟨_, rfl, hb2, b2, A2, n2, c2, rfl, Z2⟩
  have hs2 := hb2.size
  have OO : Below w2.heap.size w2 (w2.alloc (.cells #[.bool b2, .slice A2 n2 c2] 24)) := bl_alloc _ _
  replace PR := (PR.below hb2).below OO
  replace BB := bl_trans (bl_trans BB hb2) OO
  replace Z2 := Z2.below OO
  have PN := Bz.new w2 b2 A2 n2 c2
  have hl2 := hs_alloc w2 (.cells #[.bool b2, .slice A2 n2 c2] 24)
  clear hb2 HZ HV1 OO
  go_wp2_with fail
  refine (cParseD (N := w.heap.size + 1) (k := k) s2 z2 (by rw [HB2.out]; exact HD.out) (by rw [HB2.out, HQ2.out]; exact HV2.out) (by omega)).mono ?_
  rw [HB2.out, HQ2.out]
  rintro e w3 ⟨_, rfl, hb3, A3, n3, c3, rfl, O3, l3⟩
  have hs3 := hb3.size
  replace PR := PR.below hb3
  replace BB := bl_trans BB hb3
  replace Z2 := Z2.below hb3
  replace PN := PN.below hb3
  have p0 := PN.c0
  have p1 := PN.c1
  clear hb3
  have OO : Below w3.heap.size w3 (w3.alloc (.cells #[.bool b2, .slice A2 n2 c2, .slice A3 n3 c3] 26)) := bl_alloc _ _
  have PQ := Bq.new w3 b2 A2 n2 c2 A3 n3 c3
  have q9 : IsQ (w.heap.size + 1) w3 (.agg #[.bool b2, .slice A2 n2 c2, .slice A3 n3 c3]) q k := isQ_mk Z2 O3 l3
  replace q9 := q9.below OO
  replace PR := PR.below OO
  replace BB := bl_trans BB OO
  have NO := (OwK.rd O3).below OO
  have hq3' := HQ3.out
  have H1 := Lib.hid (show decide (q.den = 1) = false from decide_eq_false hq3')
  clear Z2 O3 OO hq3'
  go_wp2_with fail
  refine (cIsOne (k := k) (x := q.den) ⟨_, _, _, rfl, ⟨⟨_, NO, M.val_lims _⟩, l3⟩⟩ (by omega)).mono ?_
  rw [H1.out]
  rintro e w4 ⟨_, rfl, hb4, rfl⟩
  replace PR := PR.below hb4
  replace BB := bl_trans BB hb4
  replace q9 := q9.below hb4
  replace PQ := PQ.below hb4
  clear hb4 NO p0 p1 PN
  have x0 := PQ.c0
  have x1 := PQ.c1
  have x2 := PQ.c2
  go_wp2_with fail
  refine (cQRight q9.t hk).mono ?_
  rintro e w5 ⟨_, rfl, hb5, rfl⟩
  clear x0 x1 x2
  replace PR := PR.below hb5
  replace BB := bl_trans BB hb5
  replace q9 := q9.below hb5
  replace PQ := PQ.below hb5
  have x0 := PQ.c0
  have x1 := PQ.c1
  have x2 := PQ.c2
  clear hb5
  have r0 := PR.c0
  have r1 := PR.c1
  have r2 := PR.c2
  have f0 := PR.f 0
  have f1 := PR.f 1
  have f2 := PR.f 2
  go_wp2_with fail
  have PF := PR.set3 (b' := b2) (A' := A2) (n' := n2) (c' := c2) (B' := A3) (m' := n3) (d' := c3)
  obtain ⟨_, e1, fb, fq⟩ := fin_q (g := w.heap.size) q9 BB (by omega) (by omega) (.bool b2) (.slice A2 n2 c2) (.slice A3 n3 c3)
  cases e1
  clear x0 x1 x2 r0 r1 r2 f0 f1 f2
  generalize World.setCell _ ⟨w.heap.size, 2, none⟩ _ = W9 at PF fq fb ⊢
  have z0 := PF.c0
  have z1 := PF.c1
  have z2 := PF.c2
  exact bodyPost_ret (v := .tuple #[.agg #[.bool b2, .slice A2 n2 c2, .slice A3 n3 c3], .bool true]) (by simp [results, Tryz.results44, go_sem, z0, z1, z2]) rfl ⟨_, rfl, fb, _, _, _, _, _, _, _, rfl, fq⟩

set_option maxHeartbeats 4000000 in
theorem cQParseA {w : World} {k : Nat} {l1 l2 : List Nat} (s : ByteArray) (hs : s.size ≤ 1048576) (h : M.bytes s = l1 ++ 47 :: l2) (hn : 47 ∉ l1) (hz : isZ (s.extract 0 l1.length)) (hd : M.Digits l2) (z : Int) (y : Nat) (hq1 : valZ (s.extract 0 l1.length) = z) (hq2 : M.dec 0 l2 = y) (hq3 : y = 1) (hv1 : z.natAbs < M.R ^ k) (hv2 : y < M.R ^ k) (hk : k ≤ 900) (hk1 : 1 ≤ k) : Calls Tryz.prog 44 #[.string s] w (Ans w fun w' v => IsQB w.heap.size w' v 0 1 false) := by
  have PR := Bq.new w false none 0 0 none 0 0
  have BB := bl_alloc w (.cells #[.bool false, .slice none 0 0, .slice none 0 0] 26)
  have HC := Lib.hid (scut_yes s hs (w.alloc (.cells #[.bool false, .slice none 0 0, .slice none 0 0] 26)) h hn)
  have hb := bytes_take s h
  have z1 : (s.extract 0 l1.length).size ≤ 1048576 := by rw [← M.bytes_len, hb.1]; have : (M.bytes s).length ≤ 1048576 := by rw [M.bytes_len]; exact hs
                                                         rw [h, List.length_append] at this; omega
  have z2 : (s.extract (l1.length + 1) s.size).size ≤ 1048576 := by rw [← M.bytes_len, hb.2]; have : (M.bytes s).length ≤ 1048576 := by rw [M.bytes_len]; exact hs
                                                                    rw [h, List.length_append, List.length_cons] at this; omega
  have HB2 := Lib.hid hb.2
  have HZ := Lib.hid hz
  have HQ1 := Lib.hid hq1
  have HQ2 := Lib.hid hq2
  have HQ3 := Lib.hid hq3
  have HV1 := Lib.hid hv1
  have HV2 := Lib.hid hv2
  have HD := Lib.hid hd
  clear h hz hq1 hq2 hq3 hv1 hv2 hd hb hn
  generalize s.extract 0 l1.length = s1 at HC HZ HQ1 z1
  generalize s.extract (l1.length + 1) s.size = s2 at HC HB2 z2
  go_enter Tryz.func44, Tryz.ntmps44
  go_wp2_with fail
  refine HC.out.mono ?_
  rintro e w1 ⟨_, rfl, hb1, rfl⟩
  have hs1 := hb1.size
  simp only [hs_alloc] at hs1
  replace PR := PR.below hb1
  replace BB := bl_trans BB hb1
  clear hb1 HC
  go_wp2_with fail
  refine (cParse (N := w.heap.size + 1) (k := k) s1 z1 HZ.out (by rw [HQ1.out]; exact HV1.out) (by omega)).mono ?_
  rw [HQ1.out]
  rintro e w2 ⟨_, rfl, hb2, b2, A2, n2, c2, rfl, Z2⟩
  have hs2 := hb2.size
  have OO : Below w2.heap.size w2 (w2.alloc (.cells #[.bool b2, .slice A2 n2 c2] 24)) := bl_alloc _ _
  replace PR := (PR.below hb2).below OO
  replace BB := bl_trans (bl_trans BB hb2) OO
  replace Z2 := Z2.below OO
  have PN := Bz.new w2 b2 A2 n2 c2
  have hl2 := hs_alloc w2 (.cells #[.bool b2, .slice A2 n2 c2] 24)
  clear hb2 HZ HV1 OO
  go_wp2_with fail
  refine (cParseD (N := w.heap.size + 1) (k := k) s2 z2 (by rw [HB2.out]; exact HD.out) (by rw [HB2.out, HQ2.out]; exact HV2.out) (by omega)).mono ?_
  rw [HB2.out, HQ2.out]
  rintro e w3 ⟨_, rfl, hb3, A3, n3, c3, rfl, O3, l3⟩
  have hs3 := hb3.size
  replace PR := PR.below hb3
  replace BB := bl_trans BB hb3
  replace Z2 := Z2.below hb3
  replace PN := PN.below hb3
  have p0 := PN.c0
  have p1 := PN.c1
  clear hb3
  have OO : Below w3.heap.size w3 (w3.alloc (.cells #[.bool b2, .slice A2 n2 c2, .slice A3 n3 c3] 26)) := bl_alloc _ _
  have PQ := Bq.new w3 b2 A2 n2 c2 A3 n3 c3
  replace PR := PR.below OO
  replace BB := bl_trans BB OO
  have NO := (OwK.rd O3).below OO
  have hq3' := HQ3.out
  have H1 := Lib.hid (show decide (y = 1) = true from decide_eq_true hq3')
  clear Z2 O3 OO hq3'
  go_wp2_with fail
  refine (cIsOne (k := k) (x := y) ⟨_, _, _, rfl, ⟨⟨_, NO, M.val_lims _⟩, l3⟩⟩ (by omega)).mono ?_
  rw [H1.out]
  rintro e w4 ⟨_, rfl, hb4, rfl⟩
  replace PR := PR.below hb4
  replace BB := bl_trans BB hb4
  clear hb4 NO p0 p1 PN PQ
  have hpl := PR.lt
  go_wp2_with fail
  refine (cQFrom 0 (by omega) (by omega)).mono ?_
  rintro e w9 ⟨_, rfl, hb9, q9⟩
  replace q9 := q9.zero1
  obtain ⟨b9, A9, n9, c9, B9, m9, d9, rfl, yy⟩ := id q9
  clear yy
  replace PR := PR.below hb9
  replace BB := bl_trans BB hb9
  clear hb9
  have r0 := PR.c0
  have r1 := PR.c1
  have r2 := PR.c2
  have f0 := PR.f 0
  have f1 := PR.f 1
  have f2 := PR.f 2
  go_wp2_with fail
  have PF := PR.set3 (b' := b9) (A' := A9) (n' := n9) (c' := c9) (B' := B9) (m' := m9) (d' := d9)
  obtain ⟨_, e1, fb, fq⟩ := fin_q (g := w.heap.size) q9 BB (by omega) (by omega) (.bool b9) (.slice A9 n9 c9) (.slice B9 m9 d9)
  cases e1
  clear r0 r1 r2 f0 f1 f2
  generalize World.setCell _ ⟨w.heap.size, 2, none⟩ _ = W9 at PF fq fb ⊢
  have z0 := PF.c0
  have z1 := PF.c1
  have z2 := PF.c2
  exact bodyPost_ret (v := .tuple #[.agg #[.bool b9, .slice A9 n9 c9, .slice B9 m9 d9], .bool false]) (by simp [results, Tryz.results44, go_sem, z0, z1, z2]) rfl ⟨_, rfl, fb, _, _, _, _, _, _, _, rfl, fq⟩

set_option maxHeartbeats 4000000 in
theorem cQParseB {w : World} {k : Nat} {l1 l2 : List Nat} (s : ByteArray) (hs : s.size ≤ 1048576) (h : M.bytes s = l1 ++ 47 :: l2) (hn : 47 ∉ l1) (hz : isZ (s.extract 0 l1.length)) (hd : M.Digits l2) (z : Int) (y : Nat) (hq1 : valZ (s.extract 0 l1.length) = z) (hq2 : M.dec 0 l2 = y) (hq3 : y ≠ 1) (hq4 : ¬ ((mkRat z (dOf y)).num = z ∧ (mkRat z (dOf y)).den = y)) (hv1 : z.natAbs < M.R ^ k) (hv2 : y < M.R ^ k) (hk : k ≤ 900) (hk1 : 1 ≤ k) : Calls Tryz.prog 44 #[.string s] w (Ans w fun w' v => IsQB w.heap.size w' v 0 1 false) := by
  have PR := Bq.new w false none 0 0 none 0 0
  have BB := bl_alloc w (.cells #[.bool false, .slice none 0 0, .slice none 0 0] 26)
  have HC := Lib.hid (scut_yes s hs (w.alloc (.cells #[.bool false, .slice none 0 0, .slice none 0 0] 26)) h hn)
  have hb := bytes_take s h
  have z1 : (s.extract 0 l1.length).size ≤ 1048576 := by rw [← M.bytes_len, hb.1]; have : (M.bytes s).length ≤ 1048576 := by rw [M.bytes_len]; exact hs
                                                         rw [h, List.length_append] at this; omega
  have z2 : (s.extract (l1.length + 1) s.size).size ≤ 1048576 := by rw [← M.bytes_len, hb.2]; have : (M.bytes s).length ≤ 1048576 := by rw [M.bytes_len]; exact hs
                                                                    rw [h, List.length_append, List.length_cons] at this; omega
  have HB2 := Lib.hid hb.2
  have HZ := Lib.hid hz
  have HQ1 := Lib.hid hq1
  have HQ2 := Lib.hid hq2
  have HQ3 := Lib.hid hq3
  have HQ4 := Lib.hid hq4
  have HV1 := Lib.hid hv1
  have HV2 := Lib.hid hv2
  have HD := Lib.hid hd
  clear h hz hq1 hq2 hq3 hq4 hv1 hv2 hd hb hn
  generalize s.extract 0 l1.length = s1 at HC HZ HQ1 z1
  generalize s.extract (l1.length + 1) s.size = s2 at HC HB2 z2
  go_enter Tryz.func44, Tryz.ntmps44
  go_wp2_with fail
  refine HC.out.mono ?_
  rintro e w1 ⟨_, rfl, hb1, rfl⟩
  have hs1 := hb1.size
  simp only [hs_alloc] at hs1
  replace PR := PR.below hb1
  replace BB := bl_trans BB hb1
  clear hb1 HC
  go_wp2_with fail
  refine (cParse (N := w.heap.size + 1) (k := k) s1 z1 HZ.out (by rw [HQ1.out]; exact HV1.out) (by omega)).mono ?_
  rw [HQ1.out]
  rintro e w2 ⟨_, rfl, hb2, b2, A2, n2, c2, rfl, Z2⟩
  have hs2 := hb2.size
  have OO : Below w2.heap.size w2 (w2.alloc (.cells #[.bool b2, .slice A2 n2 c2] 24)) := bl_alloc _ _
  replace PR := (PR.below hb2).below OO
  replace BB := bl_trans (bl_trans BB hb2) OO
  replace Z2 := Z2.below OO
  have PN := Bz.new w2 b2 A2 n2 c2
  have hl2 := hs_alloc w2 (.cells #[.bool b2, .slice A2 n2 c2] 24)
  clear hb2 HZ HV1 OO
  go_wp2_with fail
  refine (cParseD (N := w.heap.size + 1) (k := k) s2 z2 (by rw [HB2.out]; exact HD.out) (by rw [HB2.out, HQ2.out]; exact HV2.out) (by omega)).mono ?_
  rw [HB2.out, HQ2.out]
  rintro e w3 ⟨_, rfl, hb3, A3, n3, c3, rfl, O3, l3⟩
  have hs3 := hb3.size
  replace PR := PR.below hb3
  replace BB := bl_trans BB hb3
  replace Z2 := Z2.below hb3
  replace PN := PN.below hb3
  have p0 := PN.c0
  have p1 := PN.c1
  clear hb3
  have OO : Below w3.heap.size w3 (w3.alloc (.cells #[.bool b2, .slice A2 n2 c2, .slice A3 n3 c3] 26)) := bl_alloc _ _
  have PQ := Bq.new w3 b2 A2 n2 c2 A3 n3 c3
  have HR := Lib.hid (show (false = true ↔ RightQ b2 (M.lims z.natAbs) (M.lims y) (mkRat (zv b2 (M.val (M.lims z.natAbs))) (dOf (M.val (M.lims y))))) by
    refine ⟨fun h => (by cases h), fun h => ?_⟩
    exfalso
    have ez : zv b2 (M.val (M.lims z.natAbs)) = z := by
      rw [M.val_lims, Z2.neg]
      by_cases hz : z < 0
      · rw [decide_eq_true hz, zv_true]; omega
      · rw [decide_eq_false hz, zv_false]; omega
    unfold RightQ at h
    rw [ez, M.val_lims] at h
    obtain ⟨h1, h2, h3⟩ := h
    rw [M.lims_inj] at h2 h3
    refine HQ4.out ⟨?_, h3.symm⟩
    have h4 := Z2.neg
    rw [h1] at h4
    have h5 : ((mkRat z (dOf y)).num < 0) ↔ (z < 0) := by simpa using h4
    omega)
  have RX := Z2.tm.rd.below OO
  have LX := Z2.le
  replace PR := PR.below OO
  replace BB := bl_trans BB OO
  have NO := (OwK.rd O3).below OO
  have hq3' := HQ3.out
  have H1 := Lib.hid (show decide (y = 1) = false from decide_eq_false hq3')
  clear Z2 O3 OO hq3'
  go_wp2_with fail
  refine (cIsOne (k := k) (x := y) ⟨_, _, _, rfl, ⟨⟨_, NO, M.val_lims _⟩, l3⟩⟩ (by omega)).mono ?_
  rw [H1.out]
  rintro e w4 ⟨_, rfl, hb4, rfl⟩
  replace PR := PR.below hb4
  replace BB := bl_trans BB hb4
  replace PQ := PQ.below hb4
  replace NO := NO.below hb4
  replace RX := RX.below hb4
  clear hb4 p0 p1 PN
  have x0 := PQ.c0
  have x1 := PQ.c1
  have x2 := PQ.c2
  go_wp2_with fail
  refine (cQRightR RX NO (by omega) (by omega) HR.out).mono ?_
  rintro e w5 ⟨_, rfl, hb5, rfl⟩
  clear x0 x1 x2 PQ RX NO
  replace PR := PR.below hb5
  replace BB := bl_trans BB hb5
  clear hb5
  have hpl := PR.lt
  go_wp2_with fail
  refine (cQFrom 0 (by omega) (by omega)).mono ?_
  rintro e w9 ⟨_, rfl, hb9, q9⟩
  replace q9 := q9.zero1
  obtain ⟨b9, A9, n9, c9, B9, m9, d9, rfl, yy⟩ := id q9
  clear yy
  replace PR := PR.below hb9
  replace BB := bl_trans BB hb9
  clear hb9
  have r0 := PR.c0
  have r1 := PR.c1
  have r2 := PR.c2
  have f0 := PR.f 0
  have f1 := PR.f 1
  have f2 := PR.f 2
  go_wp2_with fail
  have PF := PR.set3 (b' := b9) (A' := A9) (n' := n9) (c' := c9) (B' := B9) (m' := m9) (d' := d9)
  obtain ⟨_, e1, fb, fq⟩ := fin_q (g := w.heap.size) q9 BB (by omega) (by omega) (.bool b9) (.slice A9 n9 c9) (.slice B9 m9 d9)
  cases e1
  clear r0 r1 r2 f0 f1 f2
  generalize World.setCell _ ⟨w.heap.size, 2, none⟩ _ = W9 at PF fq fb ⊢
  have z0 := PF.c0
  have z1 := PF.c1
  have z2 := PF.c2
  exact bodyPost_ret (v := .tuple #[.agg #[.bool b9, .slice A9 n9 c9, .slice B9 m9 d9], .bool false]) (by simp [results, Tryz.results44, go_sem, z0, z1, z2]) rfl ⟨_, rfl, fb, _, _, _, _, _, _, _, rfl, fq⟩

set_option maxHeartbeats 4000000 in
theorem cQParseD {w : World} {k : Nat} {l1 l2 : List Nat} (s : ByteArray) (hs : s.size ≤ 1048576) (h : M.bytes s = l1 ++ 47 :: l2) (hn : 47 ∉ l1) (hz : isZ (s.extract 0 l1.length)) (hd : ¬ M.Digits l2) (z : Int) (hq1 : valZ (s.extract 0 l1.length) = z) (hv1 : z.natAbs < M.R ^ k) (hk : k ≤ 900) (hk1 : 1 ≤ k) : Calls Tryz.prog 44 #[.string s] w (Ans w fun w' v => IsQB w.heap.size w' v 0 1 false) := by
  have PR := Bq.new w false none 0 0 none 0 0
  have BB := bl_alloc w (.cells #[.bool false, .slice none 0 0, .slice none 0 0] 26)
  have HC := Lib.hid (scut_yes s hs (w.alloc (.cells #[.bool false, .slice none 0 0, .slice none 0 0] 26)) h hn)
  have hb := bytes_take s h
  have z1 : (s.extract 0 l1.length).size ≤ 1048576 := by rw [← M.bytes_len, hb.1]; have : (M.bytes s).length ≤ 1048576 := by rw [M.bytes_len]; exact hs
                                                         rw [h, List.length_append] at this; omega
  have z2 : (s.extract (l1.length + 1) s.size).size ≤ 1048576 := by rw [← M.bytes_len, hb.2]; have : (M.bytes s).length ≤ 1048576 := by rw [M.bytes_len]; exact hs
                                                                    rw [h, List.length_append, List.length_cons] at this; omega
  have HB2 := Lib.hid hb.2
  have HZ := Lib.hid hz
  have HQ1 := Lib.hid hq1
  have HV1 := Lib.hid hv1
  have HD := Lib.hid hd
  clear h hz hq1 hv1 hd hb hn
  generalize s.extract 0 l1.length = s1 at HC HZ HQ1 z1
  generalize s.extract (l1.length + 1) s.size = s2 at HC HB2 z2
  go_enter Tryz.func44, Tryz.ntmps44
  go_wp2_with fail
  refine HC.out.mono ?_
  rintro e w1 ⟨_, rfl, hb1, rfl⟩
  have hs1 := hb1.size
  simp only [hs_alloc] at hs1
  replace PR := PR.below hb1
  replace BB := bl_trans BB hb1
  clear hb1 HC
  go_wp2_with fail
  refine (cParse (N := w.heap.size + 1) (k := k) s1 z1 HZ.out (by rw [HQ1.out]; exact HV1.out) (by omega)).mono ?_
  rw [HQ1.out]
  rintro e w2 ⟨_, rfl, hb2, b2, A2, n2, c2, rfl, Z2⟩
  have hs2 := hb2.size
  have OO : Below w2.heap.size w2 (w2.alloc (.cells #[.bool b2, .slice A2 n2 c2] 24)) := bl_alloc _ _
  replace PR := (PR.below hb2).below OO
  replace BB := bl_trans (bl_trans BB hb2) OO
  replace Z2 := Z2.below OO
  have PN := Bz.new w2 b2 A2 n2 c2
  have hl2 := hs_alloc w2 (.cells #[.bool b2, .slice A2 n2 c2] 24)
  clear hb2 HZ HV1 OO
  go_wp2_with fail
  refine (parse_no s2 _ z2 (by rw [HB2.out]; exact HD.out)).mono ?_
  rintro e w3 ⟨A3, c3, rfl, ho3, hb3⟩
  simp only [List.length_nil]
  have hs3 := hb3.size
  replace PR := PR.below hb3
  replace BB := bl_trans BB hb3
  replace PN := PN.below hb3
  have p0 := PN.c0
  have p1 := PN.c1
  clear hb3 Z2 ho3
  have OO : Below w3.heap.size w3 (w3.alloc (.cells #[.bool b2, .slice A2 n2 c2, .slice A3 0 c3] 26)) := bl_alloc _ _
  replace PR := PR.below OO
  replace BB := bl_trans BB OO
  clear OO PN
  have hpl := PR.lt
  go_wp2_with fail
  refine (cQFrom 0 (by omega) (by omega)).mono ?_
  rintro e w9 ⟨_, rfl, hb9, q9⟩
  replace q9 := q9.zero1
  obtain ⟨b9, A9, n9, c9, B9, m9, d9, rfl, yy⟩ := id q9
  clear yy
  replace PR := PR.below hb9
  replace BB := bl_trans BB hb9
  clear hb9
  have r0 := PR.c0
  have r1 := PR.c1
  have r2 := PR.c2
  have f0 := PR.f 0
  have f1 := PR.f 1
  have f2 := PR.f 2
  go_wp2_with fail
  have PF := PR.set3 (b' := b9) (A' := A9) (n' := n9) (c' := c9) (B' := B9) (m' := m9) (d' := d9)
  obtain ⟨_, e1, fb, fq⟩ := fin_q (g := w.heap.size) q9 BB (by omega) (by omega) (.bool b9) (.slice A9 n9 c9) (.slice B9 m9 d9)
  cases e1
  clear r0 r1 r2 f0 f1 f2
  generalize World.setCell _ ⟨w.heap.size, 2, none⟩ _ = W9 at PF fq fb ⊢
  have z0 := PF.c0
  have z1 := PF.c1
  have z2 := PF.c2
  exact bodyPost_ret (v := .tuple #[.agg #[.bool b9, .slice A9 n9 c9, .slice B9 m9 d9], .bool false]) (by simp [results, Tryz.results44, go_sem, z0, z1, z2]) rfl ⟨_, rfl, fb, _, _, _, _, _, _, _, rfl, fq⟩

set_option maxHeartbeats 4000000 in
theorem cQParseC2 {w : World} {l1 l2 : List Nat} (s : ByteArray) (hs : s.size ≤ 1048576) (h : M.bytes s = l1 ++ 47 :: l2) (hn : 47 ∉ l1) (hz : ¬ isZ (s.extract 0 l1.length)) : Calls Tryz.prog 44 #[.string s] w (Ans w fun w' v => IsQB w.heap.size w' v 0 1 false) := by
  have PR := Bq.new w false none 0 0 none 0 0
  have BB := bl_alloc w (.cells #[.bool false, .slice none 0 0, .slice none 0 0] 26)
  have HC := Lib.hid (scut_yes s hs (w.alloc (.cells #[.bool false, .slice none 0 0, .slice none 0 0] 26)) h hn)
  have hb := bytes_take s h
  have z1 : (s.extract 0 l1.length).size ≤ 1048576 := by rw [← M.bytes_len, hb.1]; have : (M.bytes s).length ≤ 1048576 := by rw [M.bytes_len]; exact hs
                                                         rw [h, List.length_append] at this; omega
  have z2 : (s.extract (l1.length + 1) s.size).size ≤ 1048576 := by rw [← M.bytes_len, hb.2]; have : (M.bytes s).length ≤ 1048576 := by rw [M.bytes_len]; exact hs
                                                                    rw [h, List.length_append, List.length_cons] at this; omega
  have HZ := Lib.hid hz
  clear h hz hb hn
  generalize s.extract 0 l1.length = s1 at HC HZ z1
  generalize s.extract (l1.length + 1) s.size = s2 at HC z2
  go_enter Tryz.func44, Tryz.ntmps44
  go_wp2_with fail
  refine HC.out.mono ?_
  rintro e w1 ⟨_, rfl, hb1, rfl⟩
  have hs1 := hb1.size
  simp only [hs_alloc] at hs1
  replace PR := PR.below hb1
  replace BB := bl_trans BB hb1
  clear hb1 HC
  go_wp2_with fail
  refine (cParse_no (N := w.heap.size + 1) s1 z1 HZ.out (by omega)).mono ?_
  rintro e w2 ⟨_, rfl, hb2, b2, A2, n2, c2, rfl, Z2⟩
  have OO : Below w2.heap.size w2 (w2.alloc (.cells #[.bool b2, .slice A2 n2 c2] 24)) := bl_alloc _ _
  replace PR := (PR.below hb2).below OO
  replace BB := bl_trans (bl_trans BB hb2) OO
  clear hb2 HZ OO Z2
  have hpl := PR.lt
  go_wp2_with fail
  refine (cQFrom 0 (by omega) (by omega)).mono ?_
  rintro e w9 ⟨_, rfl, hb9, q9⟩
  replace q9 := q9.zero1
  obtain ⟨b9, A9, n9, c9, B9, m9, d9, rfl, yy⟩ := id q9
  clear yy
  replace PR := PR.below hb9
  replace BB := bl_trans BB hb9
  clear hb9
  have r0 := PR.c0
  have r1 := PR.c1
  have r2 := PR.c2
  have f0 := PR.f 0
  have f1 := PR.f 1
  have f2 := PR.f 2
  go_wp2_with fail
  have PF := PR.set3 (b' := b9) (A' := A9) (n' := n9) (c' := c9) (B' := B9) (m' := m9) (d' := d9)
  obtain ⟨_, e1, fb, fq⟩ := fin_q (g := w.heap.size) q9 BB (by omega) (by omega) (.bool b9) (.slice A9 n9 c9) (.slice B9 m9 d9)
  cases e1
  clear r0 r1 r2 f0 f1 f2
  generalize World.setCell _ ⟨w.heap.size, 2, none⟩ _ = W9 at PF fq fb ⊢
  have z0 := PF.c0
  have z1 := PF.c1
  have z2 := PF.c2
  exact bodyPost_ret (v := .tuple #[.agg #[.bool b9, .slice A9 n9 c9, .slice B9 m9 d9], .bool false]) (by simp [results, Tryz.results44, go_sem, z0, z1, z2]) rfl ⟨_, rfl, fb, _, _, _, _, _, _, _, rfl, fq⟩

set_option maxHeartbeats 4000000 in
theorem cQParseC1 {w : World} (s : ByteArray) (hs : s.size ≤ 1048576) (h : 47 ∉ M.bytes s) (hz : ¬ isZ s) : Calls Tryz.prog 44 #[.string s] w (Ans w fun w' v => IsQB w.heap.size w' v 0 1 false) := by
 have PR := Bq.new w false none 0 0 none 0 0
 have BB := bl_alloc w (.cells #[.bool false, .slice none 0 0, .slice none 0 0] 26)
 have HC := Lib.hid (scut_no s hs (w.alloc (.cells #[.bool false, .slice none 0 0, .slice none 0 0] 26)) h)
 have HZ := Lib.hid hz
 clear h hz
 go_enter Tryz.func44, Tryz.ntmps44
 go_wp2_with fail
 refine HC.out.mono ?_
 rintro e w1 ⟨_, rfl, hb1, rfl⟩
 have hs1 := hb1.size
 simp only [hs_alloc] at hs1
 replace PR := PR.below hb1
 replace BB := bl_trans BB hb1
 clear hb1 HC
 go_wp2_with fail
 refine (cParse_no (N := w.heap.size + 1) s hs HZ.out (by omega)).mono ?_
 rintro e w2 ⟨_, rfl, hb2, b2, A2, n2, c2, rfl, Z2⟩
 have OO : Below w2.heap.size w2 (w2.alloc (.cells #[.bool b2, .slice A2 n2 c2] 24)) := bl_alloc _ _
 replace PR := (PR.below hb2).below OO
 replace BB := bl_trans (bl_trans BB hb2) OO
 clear hb2 HZ OO Z2
 have hpl := PR.lt
 go_wp2_with fail
 refine (cQFrom 0 (by omega) (by omega)).mono ?_
 rintro e w9 ⟨_, rfl, hb9, q9⟩
 replace q9 := q9.zero1
 obtain ⟨b9, A9, n9, c9, B9, m9, d9, rfl, yy⟩ := id q9
 clear yy
 replace PR := PR.below hb9
 replace BB := bl_trans BB hb9
 clear hb9
 have r0 := PR.c0
 have r1 := PR.c1
 have r2 := PR.c2
 have f0 := PR.f 0
 have f1 := PR.f 1
 have f2 := PR.f 2
 go_wp2_with fail
 have PF := PR.set3 (b' := b9) (A' := A9) (n' := n9) (c' := c9) (B' := B9) (m' := m9) (d' := d9)
 obtain ⟨_, e1, fb, fq⟩ := fin_q (g := w.heap.size) q9 BB (by omega) (by omega) (.bool b9) (.slice A9 n9 c9) (.slice B9 m9 d9)
 cases e1
 clear r0 r1 r2 f0 f1 f2
 generalize World.setCell _ ⟨w.heap.size, 2, none⟩ _ = W9 at PF fq fb ⊢
 have z0 := PF.c0
 have z1 := PF.c1
 have z2 := PF.c2
 exact bodyPost_ret (v := .tuple #[.agg #[.bool b9, .slice A9 n9 c9, .slice B9 m9 d9], .bool false]) (by simp [results, Tryz.results44, go_sem, z0, z1, z2]) rfl ⟨_, rfl, fb, _, _, _, _, _, _, _, rfl, fq⟩

end Go.Proofs.YtbhgbilhoonopaaGreat
namespace Go.Proofs.YtbhgbilhoonopaaGreat
set_option linter.unusedVariables false

end Go.Proofs.YtbhgbilhoonopaaGreat
namespace Go.Proofs.YtbhgbilhoonopaaGreat
open Go.RowKit
set_option linter.unusedVariables false
set_option maxRecDepth 100000

theorem ans_intW {w : World} {x y : Int} (h : x = y) (e : Ending) (w' : World) (r : Ans w (fun _ v => v = .int .i64 x) e w') : Ans w (fun _ v => v = .int .i64 y) e w' := by
 rw [← h]
 exact r
/-- A row of just these limbs. -/
def IsX (w : World) (v : Value) (xs : List Nat) : Prop := ∃ A n c, v = .slice A n c ∧ Rd w A n c xs ∧ n ≤ 4
theorem IsX.below {w w' : World} {v : Value} {xs : List Nat} (h : IsX w v xs) (hb : Below w.heap.size w w') : IsX w' v xs := by
 obtain ⟨A, n, c, rfl, h, l⟩ := h
 exact ⟨A, n, c, rfl, h.below hb, l⟩
theorem sX {xs : List Nat} : Stab RBu fun v _ w => IsX w v xs := fun _ _ _ _ _ r _ h => h.below r
theorem wp_bsL1 {a : Act} {w : World} {K : Act → World → Prop} {Q : Exit → Act → World → Prop} {dst : Option Tmp} {ty : TypeId} {pos : String} {af : Array Edge} {gd : Option (Nat × Bool)} {x : Int} (h : K (a.put dst (.slice (some ⟨w.heap.size, 0, none⟩) 1 1)) (w.alloc (.cells #[.int .u32 x] 44))) : Oper.wp Tryz.prog ⟨dst, .buildSlice 22 1 #[(0, .const (.int .u32 x))], ty, pos, af, gd⟩ a w K Q := by
 unfold Oper.wp execOp
 simp only [List.map_toArray, List.map_cons, List.map_nil]
 go_simp
 exact h
theorem wp_bZ {a : Act} {w : World} {K : Act → World → Prop} {Q : Exit → Act → World → Prop} {dst : Option Tmp} {ty : TypeId} {pos : String} {af : Array Edge} {gd : Option (Nat × Bool)} {x y : Operand} {b : Bool} {A : Option Addr} {n c : Nat} (hx : a.eval x = .bool b) (hy : a.eval y = .slice A n c) (h : K (a.put dst (.agg #[.bool b, .slice A n c])) w) : Oper.wp Tryz.prog ⟨dst, .build 24 #[(0, x), (1, y)], ty, pos, af, gd⟩ a w K Q := by
 unfold Oper.wp execOp
 simp only [List.map_toArray, List.map_cons, List.map_nil, hx, hy]
 go_simp
 exact h
theorem litX1 (w : World) (x : Nat) (hx : x < 4294967296) : IsX (w.alloc (.cells #[.int .u32 (x : Int)] 44)) (.slice (some ⟨w.heap.size, 0, none⟩) 1 1) [x] := ⟨_, _, _, rfl, RdK.one (K := kU32) w x hx, by omega⟩
theorem isT_lit {w : World} {b : Bool} {A : Option Addr} {n c : Nat} {xs : List Nat} {z : Int} (h : Rd w A n c xs) (hl : n ≤ 4) (h1 : M.lims z.natAbs = xs) (h2 : b = decide (z < 0)) : IsT w (.agg #[.bool b, .slice A n c]) z 4 := ⟨_, _, _, _, rfl, ⟨by rw [h1]; exact h, hl⟩, h2⟩
theorem ansZ_base {w : World} {z : Int} {k N : Nat} (hN : N ≤ w.heap.size) (e : Ending) (w' : World) (h : Ans w (fun w' v => IsZ w.heap.size w' v z k) e w') : Ans w (fun w' v => IsZ N w' v z k) e w' := by
 obtain ⟨v, rfl, hb, b, A, n, c, rfl, Z⟩ := h
 exact ⟨_, rfl, hb, b, A, n, c, rfl, Z.mono hN⟩
theorem ansB {w : World} {x y : Bool} (h : x = y) (e : Ending) (w' : World) (r : Ans w (fun _ v => v = .bool x) e w') : Ans w (fun _ v => v = .bool y) e w' := by
 rw [← h]
 exact r
theorem cf_law03_of : CallsF 87 := fun args w => by go_simp
theorem eqB {k l : ByteArray} {x y : List Nat} (hk : M.bytes k = x) (hl : M.bytes l = y) (h : x = y) : (k.toList == l.toList) = true := by
 have : k = l := M.bytes_inj (by rw [hk, hl, h])
 rw [this]
 simp
theorem txtQ_frac {q : Rat} {ds es : List Nat} (hn : txtZ q.num = ds) (hd : M.dec 0 es = q.den) (h2 : M.Digits es) (h3 : M.dec 0 es ≠ 1) : txtQ q = ds ++ [47] ++ es := by
 unfold txtQ
 rw [if_neg (by rw [← hd]; exact h3), hn, ← hd, txt_dec h2]
theorem txtQ_whole {q : Rat} {ds : List Nat} (hn : txtZ q.num = ds) (hd : q.den = 1) : txtQ q = ds := by
 unfold txtQ
 rw [if_pos hd, hn]
theorem txtZ_known {z : Int} {ds : List Nat} (h2 : M.Digits ds) (h3 : z = (M.dec 0 ds : Int)) : txtZ z = ds := by
 rw [txtZ_pos (by omega), show z.natAbs = M.dec 0 ds by omega, txt_dec h2]
theorem txtZ_knownN {z : Int} {ds : List Nat} (h2 : M.Digits ds) (h3 : z = -(M.dec 0 ds : Int)) (h4 : M.dec 0 ds ≠ 0) : txtZ z = 45 :: ds := by
 rw [txtZ_neg (by omega), show z.natAbs = M.dec 0 ds by omega, txt_dec h2]

theorem qa_num : (Rat.divInt 6 (-4)).num = -3 := by decide +kernel
theorem qa_den : (Rat.divInt 6 (-4)).den = 2 := by decide +kernel
theorem w_a : txtQ (Rat.divInt 6 (-4)) = [45, 51, 47, 50] := txtQ_frac (ds := [45, 51]) (es := [50]) (by rw [qa_num]; exact txtZ_knownN (ds := [51]) (by decide) (by decide) (by decide)) (by rw [qa_den]; decide) (by decide) (by decide)
theorem qs_num : (((1 : Int) : Rat) / ((2 : Int) : Rat) + ((1 : Int) : Rat) / ((3 : Int) : Rat)).num = 5 := by decide +kernel
theorem qs_den : (((1 : Int) : Rat) / ((2 : Int) : Rat) + ((1 : Int) : Rat) / ((3 : Int) : Rat)).den = 6 := by decide +kernel
theorem w_s : txtQ (((1 : Int) : Rat) / ((2 : Int) : Rat) + ((1 : Int) : Rat) / ((3 : Int) : Rat)) = [53, 47, 54] := txtQ_frac (ds := [53]) (es := [54]) (by rw [qs_num]; exact txtZ_known (by decide) (by decide)) (by rw [qs_den]; decide) (by decide) (by decide)
theorem qm_num : (Rat.divInt 6 (-4) * (((2 : Int) : Rat) / ((3 : Int) : Rat))).num = -1 := by decide +kernel
theorem qm_den : (Rat.divInt 6 (-4) * (((2 : Int) : Rat) / ((3 : Int) : Rat))).den = 1 := by decide +kernel
theorem w_m : txtQ (Rat.divInt 6 (-4) * (((2 : Int) : Rat) / ((3 : Int) : Rat))) = [45, 49] := txtQ_whole (by rw [qm_num]; exact txtZ_knownN (ds := [49]) (by decide) (by decide) (by decide)) qm_den
theorem w_fl : (Rat.divInt 6 (-4)).floor = -2 := by decide +kernel
theorem w_ce : (Rat.divInt 6 (-4)).ceil = -1 := by decide +kernel
theorem w_cm : cmpQ (((1 : Int) : Rat) / ((3 : Int) : Rat)) (mkRat 2 6) = 0 := by decide +kernel
theorem qc_num : (mkRat (-5) 3).num = -5 := by decide +kernel
theorem qc_den : (mkRat (-5) 3).den = 3 := by decide +kernel
theorem w_c : txtQ (mkRat (-5) 3) = [45, 53, 47, 51] := txtQ_frac (ds := [45, 53]) (es := [51]) (by rw [qc_num]; exact txtZ_knownN (ds := [53]) (by decide) (by decide) (by decide)) (by rw [qc_den]; decide) (by decide) (by decide)

set_option maxHeartbeats 8000000 in
theorem cWorks3 (w : World) : Calls Tryz.prog 39 #[] w (Ans w fun _ v => v = .bool true) := by
 have BB : Below w.heap.size w w := Below.refl _ _
 go_enter Tryz.func39, Tryz.ntmps39
 go_wp2_with fail
 refine (cQFrom 6 (by omega) (by omega)).mono ?_
 rintro e w1 ⟨_, rfl, hb1, q1⟩
 obtain ⟨b1, A1, n1, c1, B1, m1, d1, rfl, Z1, _, _⟩ := id q1
 replace BB := bl_trans BB hb1
 clear hb1 q1
 have ZA : IsM w1 (.agg #[.bool b1, .slice A1 n1 c1]) 6 2 := ⟨_, _, _, _, rfl, Z1.zm⟩
 clear Z1
 replace ZA := ZA.below (bl_alloc _ (.cells #[.bool b1, .slice A1 n1 c1, .slice B1 m1 d1] 26))
 replace BB := bl_trans BB (bl_alloc _ (.cells #[.bool b1, .slice A1 n1 c1, .slice B1 m1 d1] 26))
 have P1 := Bq.new w1 b1 A1 n1 c1 B1 m1 d1
 have x0 := P1.c0
 have x1 := P1.c1
 obtain ⟨G4, g4, h4, e4, R4, l4⟩ := litX1 (w1.alloc (.cells #[.bool b1, .slice A1 n1 c1, .slice B1 m1 d1] 26)) 4 (by omega)
 have ZB : IsM ((w1.alloc (.cells #[.bool b1, .slice A1 n1 c1, .slice B1 m1 d1] 26)).alloc (.cells #[.int .u32 4] 44)) (.agg #[.bool true, .slice G4 g4 h4]) (-4) 4 := ⟨_, _, _, _, rfl, ⟨⟨4, ⟨⟨_, R4, rfl⟩, l4⟩, rfl⟩⟩⟩
 cases e4
 clear R4 l4
 simp only [hs_alloc] at ZB
 go_wp2_with fail
 refine (cOfQ (ZA.below (bl_alloc _ (.cells #[.int .u32 4] 44))) ZB (by omega) (by omega) (by omega)).mono ?_
 rintro e w2 ⟨_, rfl, hb2, b2, A2, n2, c2, B2, m2, d2, rfl, q2⟩
 replace BB := bl_trans (bl_trans BB (bl_alloc _ (.cells #[.int .u32 4] 44))) hb2
 clear hb2 ZA ZB P1 x0 x1
 have Q2 := q2.t
 clear q2
 replace Q2 := Q2.below (bl_alloc _ (.cells #[.bool b2, .slice A2 n2 c2, .slice B2 m2 d2] 26))
 replace BB := bl_trans BB (bl_alloc _ (.cells #[.bool b2, .slice A2 n2 c2, .slice B2 m2 d2] 26))
 have P2 := Bq.new w2 b2 A2 n2 c2 B2 m2 d2
 replace Q2 := Q2.mono (show max 2 4 ≤ 4 by omega)
 have R2 : Rd ((w2.alloc (.cells #[.bool b2, .slice A2 n2 c2, .slice B2 m2 d2] 26)).alloc (.cells #[.int .u32 2, .int .u32 0] 44)) (some ⟨(w2.alloc (.cells #[.bool b2, .slice A2 n2 c2, .slice B2 m2 d2] 26)).heap.size, 0, none⟩) 2 2 [2, 0] := (Rd.two (w2.alloc (.cells #[.bool b2, .slice A2 n2 c2, .slice B2 m2 d2] 26)) 2 0 (by decide) (by decide)).rd
 obtain ⟨G6, g6, h6, e6, R6, l6⟩ := litX1 ((w2.alloc (.cells #[.bool b2, .slice A2 n2 c2, .slice B2 m2 d2] 26)).alloc (.cells #[.int .u32 2, .int .u32 0] 44)) 6 (by omega)
 cases e6
 replace R2 := (R2.below (bl_alloc _ (.cells #[.int .u32 6] 44))).below (bl_alloc _ (.cells #[.bool false, .slice (some ⟨w2.heap.size + 1, 0, none⟩) 2 2, .slice (some ⟨w2.heap.size + 1 + 1, 0, none⟩) 1 1] 26))
 replace R6 := R6.below (bl_alloc _ (.cells #[.bool false, .slice (some ⟨w2.heap.size + 1, 0, none⟩) 2 2, .slice (some ⟨w2.heap.size + 1 + 1, 0, none⟩) 1 1] 26))
 simp only [hs_alloc] at R2 R6
 have Q4 : IsQm ((((w2.alloc (.cells #[.bool b2, .slice A2 n2 c2, .slice B2 m2 d2] 26)).alloc (.cells #[.int .u32 2, .int .u32 0] 44)).alloc (.cells #[.int .u32 6] 44)).alloc (.cells #[.bool false, .slice (some ⟨w2.heap.size + 1, 0, none⟩) 2 2, .slice (some ⟨w2.heap.size + 1 + 1, 0, none⟩) 1 1] 26)) (.agg #[.bool false, .slice (some ⟨w2.heap.size + 1, 0, none⟩) 2 2, .slice (some ⟨w2.heap.size + 1 + 1, 0, none⟩) 1 1]) (mkRat 2 6) 4 := ⟨_, _, _, _, _, _, _, rfl, 2, 6, ⟨⟨2, ⟨⟨_, R2, rfl⟩, by omega⟩, rfl⟩⟩, ⟨⟨_, R6, rfl⟩, by omega⟩, by rw [dOf_of (by omega)]⟩
 have P4 : Bq ((((w2.alloc (.cells #[.bool b2, .slice A2 n2 c2, .slice B2 m2 d2] 26)).alloc (.cells #[.int .u32 2, .int .u32 0] 44)).alloc (.cells #[.int .u32 6] 44)).alloc (.cells #[.bool false, .slice (some ⟨w2.heap.size + 1, 0, none⟩) 2 2, .slice (some ⟨w2.heap.size + 1 + 1, 0, none⟩) 1 1] 26)) (w2.heap.size + 1 + 1 + 1) false (some ⟨w2.heap.size + 1, 0, none⟩) 2 2 (some ⟨w2.heap.size + 1 + 1, 0, none⟩) 1 1 := by
  have := Bq.new (((w2.alloc (.cells #[.bool b2, .slice A2 n2 c2, .slice B2 m2 d2] 26)).alloc (.cells #[.int .u32 2, .int .u32 0] 44)).alloc (.cells #[.int .u32 6] 44)) false (some ⟨w2.heap.size + 1, 0, none⟩) 2 2 (some ⟨w2.heap.size + 1 + 1, 0, none⟩) 1 1
  simp only [hs_alloc] at this
  exact this
 clear R2 R6 l6
 replace Q2 := Q2.below (bl_alloc _ (.cells #[.int .u32 2, .int .u32 0] 44))
 replace P2 := P2.below (bl_alloc _ (.cells #[.int .u32 2, .int .u32 0] 44))
 replace BB := bl_trans BB (bl_alloc _ (.cells #[.int .u32 2, .int .u32 0] 44))
 replace Q2 := Q2.below (bl_alloc _ (.cells #[.int .u32 6] 44))
 replace P2 := P2.below (bl_alloc _ (.cells #[.int .u32 6] 44))
 replace BB := bl_trans BB (bl_alloc _ (.cells #[.int .u32 6] 44))
 replace Q2 := Q2.below (bl_alloc _ (.cells #[.bool false, .slice (some ⟨w2.heap.size + 1, 0, none⟩) 2 2, .slice (some ⟨w2.heap.size + 1 + 1, 0, none⟩) 1 1] 26))
 replace P2 := P2.below (bl_alloc _ (.cells #[.bool false, .slice (some ⟨w2.heap.size + 1, 0, none⟩) 2 2, .slice (some ⟨w2.heap.size + 1 + 1, 0, none⟩) 1 1] 26))
 replace BB := bl_trans BB (bl_alloc _ (.cells #[.bool false, .slice (some ⟨w2.heap.size + 1, 0, none⟩) 2 2, .slice (some ⟨w2.heap.size + 1 + 1, 0, none⟩) 1 1] 26))
 go_wp2_with fail
 generalize ((((w2.alloc (.cells #[.bool b2, .slice A2 n2 c2, .slice B2 m2 d2] 26)).alloc (.cells #[.int .u32 2, .int .u32 0] 44)).alloc (.cells #[.int .u32 6] 44)).alloc (.cells #[.bool false, .slice (some ⟨w2.heap.size + 1, 0, none⟩) 2 2, .slice (some ⟨w2.heap.size + 1 + 1, 0, none⟩) 1 1] 26)) = W4 at Q2 P2 Q4 P4 BB ⊢
 refine (cQParseB (k := 1) (l1 := [50]) (l2 := [52]) _ (by decide) (by decide) (by decide) (by decide) (by decide) 2 4 (by decide) (by decide) (by omega) (by decide +kernel) (by decide +kernel) (by decide +kernel) (by omega) (by omega)).mono ?_
 rintro e w4 ⟨_, rfl, hb4, b5, A5, n5, c5, B5, m5, d5, rfl, _⟩
 replace Q2 := Q2.below hb4
 replace P2 := P2.below hb4
 replace Q4 := Q4.below hb4
 replace P4 := P4.below hb4
 replace BB := bl_trans BB hb4
 clear hb4
 replace Q2 := Q2.below (bl_alloc _ (.cells #[.bool b5, .slice A5 n5 c5, .slice B5 m5 d5] 26))
 replace P2 := P2.below (bl_alloc _ (.cells #[.bool b5, .slice A5 n5 c5, .slice B5 m5 d5] 26))
 replace Q4 := Q4.below (bl_alloc _ (.cells #[.bool b5, .slice A5 n5 c5, .slice B5 m5 d5] 26))
 replace P4 := P4.below (bl_alloc _ (.cells #[.bool b5, .slice A5 n5 c5, .slice B5 m5 d5] 26))
 replace BB := bl_trans BB (bl_alloc _ (.cells #[.bool b5, .slice A5 n5 c5, .slice B5 m5 d5] 26))
 go_wp2_with fail
 refine (cQParse2 (k := 1) (l1 := [45, 53]) (l2 := [51]) _ (by decide) (by decide) (by decide) (by decide) (by decide) (mkRat (-5) 3) (by rw [qc_num]; decide) (by rw [qc_den]; decide) (by rw [qc_den]; omega) (by rw [qc_num]; decide +kernel) (by rw [qc_den]; decide +kernel) (by omega) (by omega)).mono ?_
 rintro e w5 ⟨_, rfl, hb5, b7, A7, n7, c7, B7, m7, d7, rfl, q7⟩
 replace Q2 := Q2.below hb5
 replace P2 := P2.below hb5
 replace Q4 := Q4.below hb5
 replace P4 := P4.below hb5
 replace BB := bl_trans BB hb5
 clear hb5
 have Q7 := q7.t
 clear q7
 replace Q2 := Q2.below (bl_alloc _ (.cells #[.bool b7, .slice A7 n7 c7, .slice B7 m7 d7] 26))
 replace P2 := P2.below (bl_alloc _ (.cells #[.bool b7, .slice A7 n7 c7, .slice B7 m7 d7] 26))
 replace Q4 := Q4.below (bl_alloc _ (.cells #[.bool b7, .slice A7 n7 c7, .slice B7 m7 d7] 26))
 replace P4 := P4.below (bl_alloc _ (.cells #[.bool b7, .slice A7 n7 c7, .slice B7 m7 d7] 26))
 replace Q7 := Q7.below (bl_alloc _ (.cells #[.bool b7, .slice A7 n7 c7, .slice B7 m7 d7] 26))
 replace BB := bl_trans BB (bl_alloc _ (.cells #[.bool b7, .slice A7 n7 c7, .slice B7 m7 d7] 26))
 have P7 := Bq.new w5 b7 A7 n7 c7 B7 m7 d7
 go_wp2_with fail
 refine (cQParseA (k := 1) (l1 := [51]) (l2 := [49]) _ (by decide) (by decide) (by decide) (by decide) (by decide) 3 1 (by decide) (by decide) rfl (by decide +kernel) (by decide +kernel) (by omega) (by omega)).mono ?_
 rintro e w6 ⟨_, rfl, hb6, b9, A9, n9, c9, B9, m9, d9, rfl, _⟩
 replace Q2 := Q2.below hb6
 replace P2 := P2.below hb6
 replace Q4 := Q4.below hb6
 replace P4 := P4.below hb6
 replace Q7 := Q7.below hb6
 replace P7 := P7.below hb6
 replace BB := bl_trans BB hb6
 clear hb6
 replace Q2 := Q2.below (bl_alloc _ (.cells #[.bool b9, .slice A9 n9 c9, .slice B9 m9 d9] 26))
 replace P2 := P2.below (bl_alloc _ (.cells #[.bool b9, .slice A9 n9 c9, .slice B9 m9 d9] 26))
 replace Q4 := Q4.below (bl_alloc _ (.cells #[.bool b9, .slice A9 n9 c9, .slice B9 m9 d9] 26))
 replace P4 := P4.below (bl_alloc _ (.cells #[.bool b9, .slice A9 n9 c9, .slice B9 m9 d9] 26))
 replace Q7 := Q7.below (bl_alloc _ (.cells #[.bool b9, .slice A9 n9 c9, .slice B9 m9 d9] 26))
 replace P7 := P7.below (bl_alloc _ (.cells #[.bool b9, .slice A9 n9 c9, .slice B9 m9 d9] 26))
 replace BB := bl_trans BB (bl_alloc _ (.cells #[.bool b9, .slice A9 n9 c9, .slice B9 m9 d9] 26))
 go_wp2_with fail
 generalize (w6.alloc (.cells #[.bool b9, .slice A9 n9 c9, .slice B9 m9 d9] 26)) = W6 at Q2 P2 Q4 P4 Q7 P7 BB ⊢
 refine wp_region_list (Ext := RB) (Rel := RBu) [fun v _ _ => v = .agg #[.bool b2, .slice A2 n2 c2, .slice B2 m2 d2], fun v _ _ => IsS v (txtQ (Rat.divInt 6 (-4))), fun v _ _ => v = .bool true, fun v _ _ => v = .bool true, fun v _ _ => v = .int .i64 0, fun v _ _ => v = .bool true, fun v _ _ => v = .bool true, fun v _ _ => v = .bool true, fun v _ w => IsQ (W6).heap.size w v (((1 : Int) : Rat) / ((2 : Int) : Rat)) 4, fun v _ w => IsQ (W6).heap.size w v (((1 : Int) : Rat) / ((3 : Int) : Rat)) 4, fun v _ w => IsQ (W6).heap.size w v ((((1 : Int) : Rat) / ((2 : Int) : Rat)) + (((1 : Int) : Rat) / ((3 : Int) : Rat))) 9, fun v _ _ => IsS v (txtQ ((((1 : Int) : Rat) / ((2 : Int) : Rat)) + (((1 : Int) : Rat) / ((3 : Int) : Rat)))), fun v _ _ => v = .bool true, fun v _ _ => v = .bool true, fun v _ _ => v = .bool true, fun v _ _ => v = .agg #[.bool b2, .slice A2 n2 c2, .slice B2 m2 d2], fun v _ w => IsQ (W6).heap.size w v (((2 : Int) : Rat) / ((3 : Int) : Rat)) 4, fun v _ w => IsQ (W6).heap.size w v ((Rat.divInt 6 (-4)) * (((2 : Int) : Rat) / ((3 : Int) : Rat))) 8, fun v _ _ => IsS v (txtQ ((Rat.divInt 6 (-4)) * (((2 : Int) : Rat) / ((3 : Int) : Rat)))), fun v _ _ => v = .bool true, fun v _ _ => v = .bool true, fun v _ _ => v = .bool true, fun v _ _ => v = .agg #[.bool b2, .slice A2 n2 c2, .slice B2 m2 d2], fun v _ w => IsZ (W6).heap.size w v ((Rat.divInt 6 (-4)).floor) 5, fun v _ w => IsX w v [2], fun v _ w => IsT w v ((-2)) 4, fun v _ _ => v = .bool true, fun v _ _ => v = .bool true, fun v _ _ => v = .bool true, fun v _ _ => v = .agg #[.bool b2, .slice A2 n2 c2, .slice B2 m2 d2], fun v _ w => IsZ (W6).heap.size w v ((Rat.divInt 6 (-4)).ceil) 5, fun v _ w => IsX w v [1], fun v _ w => IsT w v ((-1)) 4, fun v _ _ => v = .bool true, fun v _ _ => v = .bool true, fun v _ _ => v = .bool true, fun v _ w => IsQ (W6).heap.size w v (((1 : Int) : Rat) / ((3 : Int) : Rat)) 4, fun v _ _ => v = .agg #[.bool false, .slice (some ⟨w2.heap.size + 1, 0, none⟩) 2 2, .slice (some ⟨w2.heap.size + 1 + 1, 0, none⟩) 1 1], fun v _ _ => v = .int .i64 0, fun v _ _ => v = .bool true, fun v _ _ => v = .bool true, fun v _ _ => v = .bool true, fun v _ _ => v = .bool false, fun v _ _ => v = .bool true, fun v _ _ => v = .bool true, fun v _ _ => v = .bool true, fun v _ _ => v = .bool true, fun v _ _ => v = .bool true, fun v _ _ => v = .bool true, fun v _ _ => v = .agg #[.bool b7, .slice A7 n7 c7, .slice B7 m7 d7], fun v _ _ => IsS v (txtQ (mkRat (-5) 3)), fun v _ _ => v = .bool true, fun v _ _ => v = .bool true, fun v _ _ => v = .bool true, fun v _ _ => v = .bool false, fun v _ _ => v = .bool true, fun v _ _ => v = .bool true, fun v _ _ => v = .bool true] (n := 58) (by kernel_rfl) rfl (by kernel_rfl) (by kernel_rfl) (by kernel_rfl) (by kernel_rfl) (by kernel_rfl) rb_refl rb_trans ⟨sC, ⟨sS, ⟨sC, ⟨sC, ⟨sC, ⟨sC, ⟨sC, ⟨sC, ⟨sQ, ⟨sQ, ⟨sQ, ⟨sS, ⟨sC, ⟨sC, ⟨sC, ⟨sC, ⟨sQ, ⟨sQ, ⟨sS, ⟨sC, ⟨sC, ⟨sC, ⟨sC, ⟨sZ, ⟨sX, ⟨sT, ⟨sC, ⟨sC, ⟨sC, ⟨sC, ⟨sZ, ⟨sX, ⟨sT, ⟨sC, ⟨sC, ⟨sC, ⟨sQ, ⟨sC, ⟨sC, ⟨sC, ⟨sC, ⟨sC, ⟨sC, ⟨sC, ⟨sC, ⟨sC, ⟨sC, ⟨sC, ⟨sC, ⟨sC, ⟨sS, ⟨sC, ⟨sC, ⟨sC, ⟨sC, ⟨sC, ⟨sC, ⟨sC, trivial⟩⟩⟩⟩⟩⟩⟩⟩⟩⟩⟩⟩⟩⟩⟩⟩⟩⟩⟩⟩⟩⟩⟩⟩⟩⟩⟩⟩⟩⟩⟩⟩⟩⟩⟩⟩⟩⟩⟩⟩⟩⟩⟩⟩⟩⟩⟩⟩⟩⟩⟩⟩⟩⟩⟩⟩⟩⟩ ?_ ?_
 ·refine ⟨⟨⟨⟨⟨⟨⟨⟨⟨⟨⟨⟨⟨⟨⟨⟨⟨⟨⟨⟨⟨⟨⟨⟨⟨⟨⟨⟨⟨⟨⟨⟨⟨⟨⟨⟨⟨⟨⟨⟨⟨⟨⟨⟨⟨⟨⟨⟨⟨⟨⟨⟨⟨⟨⟨⟨⟨⟨trivial, ?_⟩, ?_⟩, ?_⟩, ?_⟩, ?_⟩, ?_⟩, ?_⟩, ?_⟩, ?_⟩, ?_⟩, ?_⟩, ?_⟩, ?_⟩, ?_⟩, ?_⟩, ?_⟩, ?_⟩, ?_⟩, ?_⟩, ?_⟩, ?_⟩, ?_⟩, ?_⟩, ?_⟩, ?_⟩, ?_⟩, ?_⟩, ?_⟩, ?_⟩, ?_⟩, ?_⟩, ?_⟩, ?_⟩, ?_⟩, ?_⟩, ?_⟩, ?_⟩, ?_⟩, ?_⟩, ?_⟩, ?_⟩, ?_⟩, ?_⟩, ?_⟩, ?_⟩, ?_⟩, ?_⟩, ?_⟩, ?_⟩, ?_⟩, ?_⟩, ?_⟩, ?_⟩, ?_⟩, ?_⟩, ?_⟩, ?_⟩, ?_⟩
  ·refine rs_plain rfl rfl fun a wr S => ?_
   have X := undrew S.ext
   exact wp_qload (ev_of ((S.old 2 (by kernel_rfl)).trans rfl)) (P2.below X) (done (by kernel_rfl) rbu_refl rfl)
  ·refine rs_plain rfl rfl fun a wr S => ?_
   have X := undrew S.ext
   obtain ⟨v0, e0, h0⟩ := S.got 0 (by kernel_rfl)
   exact st_call cf_rat_Text (args1 ((ev_of (e0 36 (by kernel_rfl))).trans h0)) (by kernel_rfl) rb (cQText (show IsQm _ _ _ _ from (Q2.below X).m) (by omega) (by omega)) (fun _ _ _ h => h)
  ·refine rs_plain rfl rfl fun a wr S => ?_
   have X := undrew S.ext
   obtain ⟨v1, e1, h1⟩ := S.got 1 (by kernel_rfl)
   obtain ⟨sx, hsx, bsx⟩ := (show IsS _ _ from h1)
   exact wp_eqS ((ev_of (e1 37 (by kernel_rfl))).trans hsx) rfl (done (by kernel_rfl) rbu_refl (congrArg Value.bool (eqB bsx (by rfl) w_a)))
  ·refine rs_plain rfl rfl fun a wr S => ?_
   have X := undrew S.ext
   obtain ⟨v2, e2, h2⟩ := S.got 2 (by kernel_rfl)
   exact wp_mv ((ev_of (e2 38 (by kernel_rfl))).trans h2) (done (by kernel_rfl) rbu_refl rfl)
  ·refine rs_yes rfl rfl (by kernel_rfl) (by kernel_rfl : _ = some 39) (fun _ _ _ h => h) fun a wr S => ?_
   have X := undrew S.ext
   exact wp_mv (ev_of ((S.old 3 (by kernel_rfl)).trans rfl)) (done (by kernel_rfl) rbu_refl rfl)
  ·refine rs_yes rfl rfl (by kernel_rfl) (by kernel_rfl : _ = some 39) (fun _ _ _ h => h) fun a wr S => ?_
   have X := undrew S.ext
   obtain ⟨v4, e4, h4⟩ := S.got 4 (by kernel_rfl)
   exact wp_eqI ((ev_of (e4 40 (by kernel_rfl))).trans h4) rfl (Or.inr rfl) (done (by kernel_rfl) rbu_refl (congrArg Value.bool (by decide)))
  ·refine rs_plain rfl rfl fun a wr S => ?_
   have X := undrew S.ext
   obtain ⟨v3, e3, h3⟩ := S.got 3 (by kernel_rfl)
   obtain ⟨v5, e5, h5⟩ := S.got 5 (by kernel_rfl)
   exact wp_pickT ((ev_of (e3 39 (by kernel_rfl))).trans h3) ((ev_of (e5 41 (by kernel_rfl))).trans h5) (done (by kernel_rfl) rbu_refl rfl)
  ·refine rs_plain rfl rfl fun a wr S => ?_
   have X := undrew S.ext
   obtain ⟨v6, e6, h6⟩ := S.got 6 (by kernel_rfl)
   exact wp_mv ((ev_of (e6 42 (by kernel_rfl))).trans h6) (done (by kernel_rfl) rbu_refl rfl)
  ·refine rs_yes rfl rfl (by kernel_rfl) (by kernel_rfl : _ = some 43) (fun _ _ _ h => h) fun a wr S => ?_
   have X := undrew S.ext
   exact st_call cf_law03_of (args2 rfl rfl) (by kernel_rfl) rb ((cOf3 1 2 (by omega) (by omega) (by omega) (by omega)).mono (ansQ_base X.size)) (fun _ _ _ h => h)
  ·refine rs_yes rfl rfl (by kernel_rfl) (by kernel_rfl : _ = some 43) (fun _ _ _ h => h) fun a wr S => ?_
   have X := undrew S.ext
   exact st_call cf_law03_of (args2 rfl rfl) (by kernel_rfl) rb ((cOf3 1 3 (by omega) (by omega) (by omega) (by omega)).mono (ansQ_base X.size)) (fun _ _ _ h => h)
  ·refine rs_yes rfl rfl (by kernel_rfl) (by kernel_rfl : _ = some 43) (fun _ _ _ h => h) fun a wr S => ?_
   have X := undrew S.ext
   obtain ⟨v8, e8, h8⟩ := S.got 8 (by kernel_rfl)
   obtain ⟨v9, e9, h9⟩ := S.got 9 (by kernel_rfl)
   exact st_call cf_rat_Add (args2 (ev_of (e8 44 (by kernel_rfl))) (ev_of (e9 45 (by kernel_rfl)))) (by kernel_rfl) rb ((cQAdd (show IsQm _ _ _ _ from h8.m) (show IsQm _ _ _ _ from h9.m) (by omega) (by omega) (by omega) (by omega)).mono (ansQ_base X.size)) (fun _ _ _ h => h)
  ·refine rs_yes rfl rfl (by kernel_rfl) (by kernel_rfl : _ = some 43) (fun _ _ _ h => h) fun a wr S => ?_
   have X := undrew S.ext
   obtain ⟨v10, e10, h10⟩ := S.got 10 (by kernel_rfl)
   exact st_call cf_rat_Text (args1 (ev_of (e10 46 (by kernel_rfl)))) (by kernel_rfl) rb (cQText (show IsQm _ _ _ _ from h10.m) (by omega) (by omega)) (fun _ _ _ h => h)
  ·refine rs_yes rfl rfl (by kernel_rfl) (by kernel_rfl : _ = some 43) (fun _ _ _ h => h) fun a wr S => ?_
   have X := undrew S.ext
   obtain ⟨v11, e11, h11⟩ := S.got 11 (by kernel_rfl)
   obtain ⟨sx, hsx, bsx⟩ := (show IsS _ _ from h11)
   exact wp_eqS ((ev_of (e11 47 (by kernel_rfl))).trans hsx) rfl (done (by kernel_rfl) rbu_refl (congrArg Value.bool (eqB bsx (by rfl) w_s)))
  ·refine rs_plain rfl rfl fun a wr S => ?_
   have X := undrew S.ext
   obtain ⟨v7, e7, h7⟩ := S.got 7 (by kernel_rfl)
   obtain ⟨v12, e12, h12⟩ := S.got 12 (by kernel_rfl)
   exact wp_pickT ((ev_of (e7 43 (by kernel_rfl))).trans h7) ((ev_of (e12 48 (by kernel_rfl))).trans h12) (done (by kernel_rfl) rbu_refl rfl)
  ·refine rs_plain rfl rfl fun a wr S => ?_
   have X := undrew S.ext
   obtain ⟨v13, e13, h13⟩ := S.got 13 (by kernel_rfl)
   exact wp_mv ((ev_of (e13 49 (by kernel_rfl))).trans h13) (done (by kernel_rfl) rbu_refl rfl)
  ·refine rs_yes rfl rfl (by kernel_rfl) (by kernel_rfl : _ = some 50) (fun _ _ _ h => h) fun a wr S => ?_
   have X := undrew S.ext
   exact wp_qload (ev_of ((S.old 2 (by kernel_rfl)).trans rfl)) (P2.below X) (done (by kernel_rfl) rbu_refl rfl)
  ·refine rs_yes rfl rfl (by kernel_rfl) (by kernel_rfl : _ = some 50) (fun _ _ _ h => h) fun a wr S => ?_
   have X := undrew S.ext
   exact st_call cf_law03_of (args2 rfl rfl) (by kernel_rfl) rb ((cOf3 2 3 (by omega) (by omega) (by omega) (by omega)).mono (ansQ_base X.size)) (fun _ _ _ h => h)
  ·refine rs_yes rfl rfl (by kernel_rfl) (by kernel_rfl : _ = some 50) (fun _ _ _ h => h) fun a wr S => ?_
   have X := undrew S.ext
   obtain ⟨v15, e15, h15⟩ := S.got 15 (by kernel_rfl)
   obtain ⟨v16, e16, h16⟩ := S.got 16 (by kernel_rfl)
   exact st_call cf_rat_Mul (args2 ((ev_of (e15 51 (by kernel_rfl))).trans h15) (ev_of (e16 52 (by kernel_rfl)))) (by kernel_rfl) rb ((cQMul (show IsQm _ _ _ _ from (Q2.below X).m) (show IsQm _ _ _ _ from h16.m) (by omega) (by omega) (by omega) (by omega)).mono (ansQ_base X.size)) (fun _ _ _ h => h)
  ·refine rs_yes rfl rfl (by kernel_rfl) (by kernel_rfl : _ = some 50) (fun _ _ _ h => h) fun a wr S => ?_
   have X := undrew S.ext
   obtain ⟨v17, e17, h17⟩ := S.got 17 (by kernel_rfl)
   exact st_call cf_rat_Text (args1 (ev_of (e17 53 (by kernel_rfl)))) (by kernel_rfl) rb (cQText (show IsQm _ _ _ _ from h17.m) (by omega) (by omega)) (fun _ _ _ h => h)
  ·refine rs_yes rfl rfl (by kernel_rfl) (by kernel_rfl : _ = some 50) (fun _ _ _ h => h) fun a wr S => ?_
   have X := undrew S.ext
   obtain ⟨v18, e18, h18⟩ := S.got 18 (by kernel_rfl)
   obtain ⟨sx, hsx, bsx⟩ := (show IsS _ _ from h18)
   exact wp_eqS ((ev_of (e18 54 (by kernel_rfl))).trans hsx) rfl (done (by kernel_rfl) rbu_refl (congrArg Value.bool (eqB bsx (by rfl) w_m)))
  ·refine rs_plain rfl rfl fun a wr S => ?_
   have X := undrew S.ext
   obtain ⟨v14, e14, h14⟩ := S.got 14 (by kernel_rfl)
   obtain ⟨v19, e19, h19⟩ := S.got 19 (by kernel_rfl)
   exact wp_pickT ((ev_of (e14 50 (by kernel_rfl))).trans h14) ((ev_of (e19 55 (by kernel_rfl))).trans h19) (done (by kernel_rfl) rbu_refl rfl)
  ·refine rs_plain rfl rfl fun a wr S => ?_
   have X := undrew S.ext
   obtain ⟨v20, e20, h20⟩ := S.got 20 (by kernel_rfl)
   exact wp_mv ((ev_of (e20 56 (by kernel_rfl))).trans h20) (done (by kernel_rfl) rbu_refl rfl)
  ·refine rs_yes rfl rfl (by kernel_rfl) (by kernel_rfl : _ = some 57) (fun _ _ _ h => h) fun a wr S => ?_
   have X := undrew S.ext
   exact wp_qload (ev_of ((S.old 2 (by kernel_rfl)).trans rfl)) (P2.below X) (done (by kernel_rfl) rbu_refl rfl)
  ·refine rs_yes rfl rfl (by kernel_rfl) (by kernel_rfl : _ = some 57) (fun _ _ _ h => h) fun a wr S => ?_
   have X := undrew S.ext
   obtain ⟨v22, e22, h22⟩ := S.got 22 (by kernel_rfl)
   exact st_call cf_rat_Floor (args1 ((ev_of (e22 58 (by kernel_rfl))).trans h22)) (by kernel_rfl) rb ((cQFloor (show IsQm _ _ _ _ from (Q2.below X).m) (by omega) (by omega)).mono (ansZ_base X.size)) (fun _ _ _ h => h)
  ·refine rs_yes rfl rfl (by kernel_rfl) (by kernel_rfl : _ = some 57) (fun _ _ _ h => h) fun a wr S => ?_
   have X := undrew S.ext
   exact wp_bsL1 (done' (by kernel_rfl) (rb _ _ _ (bl_alloc _ _)) (litX1 wr 2 (by omega)))
  ·refine rs_yes rfl rfl (by kernel_rfl) (by kernel_rfl : _ = some 57) (fun _ _ _ h => h) fun a wr S => ?_
   have X := undrew S.ext
   obtain ⟨v24, e24, h24⟩ := S.got 24 (by kernel_rfl)
   obtain ⟨AA, nn, cc, hvv, RR, ll⟩ := (show IsX wr _ [2] from h24)
   exact wp_bZ rfl ((ev_of (e24 60 (by kernel_rfl))).trans hvv) (done (by kernel_rfl) rbu_refl (isT_lit RR ll (by decide +kernel) (by decide)))
  ·refine rs_yes rfl rfl (by kernel_rfl) (by kernel_rfl : _ = some 57) (fun _ _ _ h => h) fun a wr S => ?_
   have X := undrew S.ext
   obtain ⟨v23, e23, h23⟩ := S.got 23 (by kernel_rfl)
   obtain ⟨v25, e25, h25⟩ := S.got 25 (by kernel_rfl)
   exact st_call cf_ref03_SameInt (args2 (ev_of (e23 59 (by kernel_rfl))) (ev_of (e25 61 (by kernel_rfl)))) (by kernel_rfl) rb ((cSameInt h23.t h25 (by omega) (by omega)).mono (ansB (decide_eq_true w_fl))) (fun _ _ _ h => h)
  ·refine rs_plain rfl rfl fun a wr S => ?_
   have X := undrew S.ext
   obtain ⟨v21, e21, h21⟩ := S.got 21 (by kernel_rfl)
   obtain ⟨v26, e26, h26⟩ := S.got 26 (by kernel_rfl)
   exact wp_pickT ((ev_of (e21 57 (by kernel_rfl))).trans h21) ((ev_of (e26 62 (by kernel_rfl))).trans h26) (done (by kernel_rfl) rbu_refl rfl)
  ·refine rs_plain rfl rfl fun a wr S => ?_
   have X := undrew S.ext
   obtain ⟨v27, e27, h27⟩ := S.got 27 (by kernel_rfl)
   exact wp_mv ((ev_of (e27 63 (by kernel_rfl))).trans h27) (done (by kernel_rfl) rbu_refl rfl)
  ·refine rs_yes rfl rfl (by kernel_rfl) (by kernel_rfl : _ = some 64) (fun _ _ _ h => h) fun a wr S => ?_
   have X := undrew S.ext
   exact wp_qload (ev_of ((S.old 2 (by kernel_rfl)).trans rfl)) (P2.below X) (done (by kernel_rfl) rbu_refl rfl)
  ·refine rs_yes rfl rfl (by kernel_rfl) (by kernel_rfl : _ = some 64) (fun _ _ _ h => h) fun a wr S => ?_
   have X := undrew S.ext
   obtain ⟨v29, e29, h29⟩ := S.got 29 (by kernel_rfl)
   exact st_call cf_rat_Ceil (args1 ((ev_of (e29 65 (by kernel_rfl))).trans h29)) (by kernel_rfl) rb ((cQCeil (show IsQm _ _ _ _ from (Q2.below X).m) (by omega) (by omega)).mono (ansZ_base X.size)) (fun _ _ _ h => h)
  ·refine rs_yes rfl rfl (by kernel_rfl) (by kernel_rfl : _ = some 64) (fun _ _ _ h => h) fun a wr S => ?_
   have X := undrew S.ext
   exact wp_bsL1 (done' (by kernel_rfl) (rb _ _ _ (bl_alloc _ _)) (litX1 wr 1 (by omega)))
  ·refine rs_yes rfl rfl (by kernel_rfl) (by kernel_rfl : _ = some 64) (fun _ _ _ h => h) fun a wr S => ?_
   have X := undrew S.ext
   obtain ⟨v31, e31, h31⟩ := S.got 31 (by kernel_rfl)
   obtain ⟨AA, nn, cc, hvv, RR, ll⟩ := (show IsX wr _ [1] from h31)
   exact wp_bZ rfl ((ev_of (e31 67 (by kernel_rfl))).trans hvv) (done (by kernel_rfl) rbu_refl (isT_lit RR ll (by decide +kernel) (by decide)))
  ·refine rs_yes rfl rfl (by kernel_rfl) (by kernel_rfl : _ = some 64) (fun _ _ _ h => h) fun a wr S => ?_
   have X := undrew S.ext
   obtain ⟨v30, e30, h30⟩ := S.got 30 (by kernel_rfl)
   obtain ⟨v32, e32, h32⟩ := S.got 32 (by kernel_rfl)
   exact st_call cf_ref03_SameInt (args2 (ev_of (e30 66 (by kernel_rfl))) (ev_of (e32 68 (by kernel_rfl)))) (by kernel_rfl) rb ((cSameInt h30.t h32 (by omega) (by omega)).mono (ansB (decide_eq_true w_ce))) (fun _ _ _ h => h)
  ·refine rs_plain rfl rfl fun a wr S => ?_
   have X := undrew S.ext
   obtain ⟨v28, e28, h28⟩ := S.got 28 (by kernel_rfl)
   obtain ⟨v33, e33, h33⟩ := S.got 33 (by kernel_rfl)
   exact wp_pickT ((ev_of (e28 64 (by kernel_rfl))).trans h28) ((ev_of (e33 69 (by kernel_rfl))).trans h33) (done (by kernel_rfl) rbu_refl rfl)
  ·refine rs_plain rfl rfl fun a wr S => ?_
   have X := undrew S.ext
   obtain ⟨v34, e34, h34⟩ := S.got 34 (by kernel_rfl)
   exact wp_mv ((ev_of (e34 70 (by kernel_rfl))).trans h34) (done (by kernel_rfl) rbu_refl rfl)
  ·refine rs_yes rfl rfl (by kernel_rfl) (by kernel_rfl : _ = some 71) (fun _ _ _ h => h) fun a wr S => ?_
   have X := undrew S.ext
   exact st_call cf_law03_of (args2 rfl rfl) (by kernel_rfl) rb ((cOf3 1 3 (by omega) (by omega) (by omega) (by omega)).mono (ansQ_base X.size)) (fun _ _ _ h => h)
  ·refine rs_yes rfl rfl (by kernel_rfl) (by kernel_rfl : _ = some 71) (fun _ _ _ h => h) fun a wr S => ?_
   have X := undrew S.ext
   exact wp_qload (ev_of ((S.old 4 (by kernel_rfl)).trans rfl)) (P4.below X) (done (by kernel_rfl) rbu_refl rfl)
  ·refine rs_yes rfl rfl (by kernel_rfl) (by kernel_rfl : _ = some 71) (fun _ _ _ h => h) fun a wr S => ?_
   have X := undrew S.ext
   obtain ⟨v36, e36, h36⟩ := S.got 36 (by kernel_rfl)
   obtain ⟨v37, e37, h37⟩ := S.got 37 (by kernel_rfl)
   exact st_call cf_rat_Cmp (args2 (ev_of (e36 72 (by kernel_rfl))) ((ev_of (e37 73 (by kernel_rfl))).trans h37)) (by kernel_rfl) rb ((cQCmp (show IsQm _ _ _ _ from h36.m) (show IsQm _ _ _ _ from (Q4.below X)) (by omega) (by omega) (by omega) (by omega)).mono (ans_intW w_cm)) (fun _ _ _ h => h)
  ·refine rs_yes rfl rfl (by kernel_rfl) (by kernel_rfl : _ = some 71) (fun _ _ _ h => h) fun a wr S => ?_
   have X := undrew S.ext
   obtain ⟨v38, e38, h38⟩ := S.got 38 (by kernel_rfl)
   exact wp_eqI ((ev_of (e38 74 (by kernel_rfl))).trans h38) rfl (Or.inl rfl) (done (by kernel_rfl) rbu_refl (congrArg Value.bool (by decide)))
  ·refine rs_plain rfl rfl fun a wr S => ?_
   have X := undrew S.ext
   obtain ⟨v35, e35, h35⟩ := S.got 35 (by kernel_rfl)
   obtain ⟨v39, e39, h39⟩ := S.got 39 (by kernel_rfl)
   exact wp_pickT ((ev_of (e35 71 (by kernel_rfl))).trans h35) ((ev_of (e39 75 (by kernel_rfl))).trans h39) (done (by kernel_rfl) rbu_refl rfl)
  ·refine rs_plain rfl rfl fun a wr S => ?_
   have X := undrew S.ext
   obtain ⟨v40, e40, h40⟩ := S.got 40 (by kernel_rfl)
   exact wp_mv ((ev_of (e40 76 (by kernel_rfl))).trans h40) (done (by kernel_rfl) rbu_refl rfl)
  ·refine rs_yes rfl rfl (by kernel_rfl) (by kernel_rfl : _ = some 77) (fun _ _ _ h => h) fun a wr S => ?_
   have X := undrew S.ext
   exact wp_mv (ev_of ((S.old 6 (by kernel_rfl)).trans rfl)) (done (by kernel_rfl) rbu_refl rfl)
  ·refine rs_yes rfl rfl (by kernel_rfl) (by kernel_rfl : _ = some 77) (fun _ _ _ h => h) fun a wr S => ?_
   have X := undrew S.ext
   obtain ⟨v42, e42, h42⟩ := S.got 42 (by kernel_rfl)
   exact wp_not ((ev_of (e42 78 (by kernel_rfl))).trans h42) (done (by kernel_rfl) rbu_refl rfl)
  ·refine rs_plain rfl rfl fun a wr S => ?_
   have X := undrew S.ext
   obtain ⟨v41, e41, h41⟩ := S.got 41 (by kernel_rfl)
   obtain ⟨v43, e43, h43⟩ := S.got 43 (by kernel_rfl)
   exact wp_pickT ((ev_of (e41 77 (by kernel_rfl))).trans h41) ((ev_of (e43 79 (by kernel_rfl))).trans h43) (done (by kernel_rfl) rbu_refl rfl)
  ·refine rs_plain rfl rfl fun a wr S => ?_
   have X := undrew S.ext
   obtain ⟨v44, e44, h44⟩ := S.got 44 (by kernel_rfl)
   exact wp_mv ((ev_of (e44 80 (by kernel_rfl))).trans h44) (done (by kernel_rfl) rbu_refl rfl)
  ·refine rs_yes rfl rfl (by kernel_rfl) (by kernel_rfl : _ = some 81) (fun _ _ _ h => h) fun a wr S => ?_
   have X := undrew S.ext
   exact wp_mv (ev_of ((S.old 8 (by kernel_rfl)).trans rfl)) (done (by kernel_rfl) rbu_refl rfl)
  ·refine rs_plain rfl rfl fun a wr S => ?_
   have X := undrew S.ext
   obtain ⟨v45, e45, h45⟩ := S.got 45 (by kernel_rfl)
   obtain ⟨v46, e46, h46⟩ := S.got 46 (by kernel_rfl)
   exact wp_pickT ((ev_of (e45 81 (by kernel_rfl))).trans h45) ((ev_of (e46 82 (by kernel_rfl))).trans h46) (done (by kernel_rfl) rbu_refl rfl)
  ·refine rs_plain rfl rfl fun a wr S => ?_
   have X := undrew S.ext
   obtain ⟨v47, e47, h47⟩ := S.got 47 (by kernel_rfl)
   exact wp_mv ((ev_of (e47 83 (by kernel_rfl))).trans h47) (done (by kernel_rfl) rbu_refl rfl)
  ·refine rs_yes rfl rfl (by kernel_rfl) (by kernel_rfl : _ = some 84) (fun _ _ _ h => h) fun a wr S => ?_
   have X := undrew S.ext
   exact wp_qload (ev_of ((S.old 7 (by kernel_rfl)).trans rfl)) (P7.below X) (done (by kernel_rfl) rbu_refl rfl)
  ·refine rs_yes rfl rfl (by kernel_rfl) (by kernel_rfl : _ = some 84) (fun _ _ _ h => h) fun a wr S => ?_
   have X := undrew S.ext
   obtain ⟨v49, e49, h49⟩ := S.got 49 (by kernel_rfl)
   exact st_call cf_rat_Text (args1 ((ev_of (e49 85 (by kernel_rfl))).trans h49)) (by kernel_rfl) rb (cQText (show IsQm _ _ _ _ from (Q7.below X).m) (by omega) (by omega)) (fun _ _ _ h => h)
  ·refine rs_yes rfl rfl (by kernel_rfl) (by kernel_rfl : _ = some 84) (fun _ _ _ h => h) fun a wr S => ?_
   have X := undrew S.ext
   obtain ⟨v50, e50, h50⟩ := S.got 50 (by kernel_rfl)
   obtain ⟨sx, hsx, bsx⟩ := (show IsS _ _ from h50)
   exact wp_eqS ((ev_of (e50 86 (by kernel_rfl))).trans hsx) rfl (done (by kernel_rfl) rbu_refl (congrArg Value.bool (eqB bsx (by rfl) w_c)))
  ·refine rs_plain rfl rfl fun a wr S => ?_
   have X := undrew S.ext
   obtain ⟨v48, e48, h48⟩ := S.got 48 (by kernel_rfl)
   obtain ⟨v51, e51, h51⟩ := S.got 51 (by kernel_rfl)
   exact wp_pickT ((ev_of (e48 84 (by kernel_rfl))).trans h48) ((ev_of (e51 87 (by kernel_rfl))).trans h51) (done (by kernel_rfl) rbu_refl rfl)
  ·refine rs_plain rfl rfl fun a wr S => ?_
   have X := undrew S.ext
   obtain ⟨v52, e52, h52⟩ := S.got 52 (by kernel_rfl)
   exact wp_mv ((ev_of (e52 88 (by kernel_rfl))).trans h52) (done (by kernel_rfl) rbu_refl rfl)
  ·refine rs_yes rfl rfl (by kernel_rfl) (by kernel_rfl : _ = some 89) (fun _ _ _ h => h) fun a wr S => ?_
   have X := undrew S.ext
   exact wp_mv (ev_of ((S.old 10 (by kernel_rfl)).trans rfl)) (done (by kernel_rfl) rbu_refl rfl)
  ·refine rs_yes rfl rfl (by kernel_rfl) (by kernel_rfl : _ = some 89) (fun _ _ _ h => h) fun a wr S => ?_
   have X := undrew S.ext
   obtain ⟨v54, e54, h54⟩ := S.got 54 (by kernel_rfl)
   exact wp_not ((ev_of (e54 90 (by kernel_rfl))).trans h54) (done (by kernel_rfl) rbu_refl rfl)
  ·refine rs_plain rfl rfl fun a wr S => ?_
   have X := undrew S.ext
   obtain ⟨v53, e53, h53⟩ := S.got 53 (by kernel_rfl)
   obtain ⟨v55, e55, h55⟩ := S.got 55 (by kernel_rfl)
   exact wp_pickT ((ev_of (e53 89 (by kernel_rfl))).trans h53) ((ev_of (e55 91 (by kernel_rfl))).trans h55) (done (by kernel_rfl) rbu_refl rfl)
  ·refine rs_plain rfl rfl fun a wr S => ?_
   have X := undrew S.ext
   obtain ⟨v56, e56, h56⟩ := S.got 56 (by kernel_rfl)
   exact wp_as ((ev_of (e56 92 (by kernel_rfl))).trans h56) (done (by kernel_rfl) rbu_refl rfl)
 ·intro fa w7 hR hv
  replace hR := undrew hR
  have f0 : fa 0 = .agg #[.bool b2, .slice A2 n2 c2, .slice B2 m2 d2] := (hvc (hv 0 (by omega))).elim fun _ h => h
  have f2 : fa 2 = .bool true := (hvc (hv 2 (by omega))).elim fun _ h => h
  have f3 : fa 3 = .bool true := (hvc (hv 3 (by omega))).elim fun _ h => h
  have f4 : fa 4 = .int .i64 0 := (hvc (hv 4 (by omega))).elim fun _ h => h
  have f5 : fa 5 = .bool true := (hvc (hv 5 (by omega))).elim fun _ h => h
  have f6 : fa 6 = .bool true := (hvc (hv 6 (by omega))).elim fun _ h => h
  have f7 : fa 7 = .bool true := (hvc (hv 7 (by omega))).elim fun _ h => h
  have f12 : fa 12 = .bool true := (hvc (hv 12 (by omega))).elim fun _ h => h
  have f13 : fa 13 = .bool true := (hvc (hv 13 (by omega))).elim fun _ h => h
  have f14 : fa 14 = .bool true := (hvc (hv 14 (by omega))).elim fun _ h => h
  have f15 : fa 15 = .agg #[.bool b2, .slice A2 n2 c2, .slice B2 m2 d2] := (hvc (hv 15 (by omega))).elim fun _ h => h
  have f19 : fa 19 = .bool true := (hvc (hv 19 (by omega))).elim fun _ h => h
  have f20 : fa 20 = .bool true := (hvc (hv 20 (by omega))).elim fun _ h => h
  have f21 : fa 21 = .bool true := (hvc (hv 21 (by omega))).elim fun _ h => h
  have f22 : fa 22 = .agg #[.bool b2, .slice A2 n2 c2, .slice B2 m2 d2] := (hvc (hv 22 (by omega))).elim fun _ h => h
  have f26 : fa 26 = .bool true := (hvc (hv 26 (by omega))).elim fun _ h => h
  have f27 : fa 27 = .bool true := (hvc (hv 27 (by omega))).elim fun _ h => h
  have f28 : fa 28 = .bool true := (hvc (hv 28 (by omega))).elim fun _ h => h
  have f29 : fa 29 = .agg #[.bool b2, .slice A2 n2 c2, .slice B2 m2 d2] := (hvc (hv 29 (by omega))).elim fun _ h => h
  have f33 : fa 33 = .bool true := (hvc (hv 33 (by omega))).elim fun _ h => h
  have f34 : fa 34 = .bool true := (hvc (hv 34 (by omega))).elim fun _ h => h
  have f35 : fa 35 = .bool true := (hvc (hv 35 (by omega))).elim fun _ h => h
  have f37 : fa 37 = .agg #[.bool false, .slice (some ⟨w2.heap.size + 1, 0, none⟩) 2 2, .slice (some ⟨w2.heap.size + 1 + 1, 0, none⟩) 1 1] := (hvc (hv 37 (by omega))).elim fun _ h => h
  have f38 : fa 38 = .int .i64 0 := (hvc (hv 38 (by omega))).elim fun _ h => h
  have f39 : fa 39 = .bool true := (hvc (hv 39 (by omega))).elim fun _ h => h
  have f40 : fa 40 = .bool true := (hvc (hv 40 (by omega))).elim fun _ h => h
  have f41 : fa 41 = .bool true := (hvc (hv 41 (by omega))).elim fun _ h => h
  have f42 : fa 42 = .bool false := (hvc (hv 42 (by omega))).elim fun _ h => h
  have f43 : fa 43 = .bool true := (hvc (hv 43 (by omega))).elim fun _ h => h
  have f44 : fa 44 = .bool true := (hvc (hv 44 (by omega))).elim fun _ h => h
  have f45 : fa 45 = .bool true := (hvc (hv 45 (by omega))).elim fun _ h => h
  have f46 : fa 46 = .bool true := (hvc (hv 46 (by omega))).elim fun _ h => h
  have f47 : fa 47 = .bool true := (hvc (hv 47 (by omega))).elim fun _ h => h
  have f48 : fa 48 = .bool true := (hvc (hv 48 (by omega))).elim fun _ h => h
  have f49 : fa 49 = .agg #[.bool b7, .slice A7 n7 c7, .slice B7 m7 d7] := (hvc (hv 49 (by omega))).elim fun _ h => h
  have f51 : fa 51 = .bool true := (hvc (hv 51 (by omega))).elim fun _ h => h
  have f52 : fa 52 = .bool true := (hvc (hv 52 (by omega))).elim fun _ h => h
  have f53 : fa 53 = .bool true := (hvc (hv 53 (by omega))).elim fun _ h => h
  have f54 : fa 54 = .bool false := (hvc (hv 54 (by omega))).elim fun _ h => h
  have f55 : fa 55 = .bool true := (hvc (hv 55 (by omega))).elim fun _ h => h
  have f56 : fa 56 = .bool true := (hvc (hv 56 (by omega))).elim fun _ h => h
  have f57 : fa 57 = .bool true := (hvc (hv 57 (by omega))).elim fun _ h => h
  simp only [putFn, Act.put, List.setIfInBounds_toArray, List.set_cons_zero, List.set_cons_succ, f0, f2, f3, f4, f5, f6, f7, f12, f13, f14, f15, f19, f20, f21, f22, f26, f27, f28, f29, f33, f34, f35, f37, f38, f39, f40, f41, f42, f43, f44, f45, f46, f47, f48, f49, f51, f52, f53, f54, f55, f56, f57]
  replace BB := bl_trans BB hR
  clear hR hv
  go_wp2_with fail
  go_ret
  exact ⟨_, rfl, BB, rfl⟩

end Go.Proofs.YtbhgbilhoonopaaGreat
namespace Go.Proofs.YtbhgbilhoonopaaGreat
open Go.RowKit
set_option linter.unusedVariables false

section
variable {P : Program} {ops pre : Array Oper} {Q : Exit → Act → World → Prop}

theorem wpList_seq {Ext : World → World → Prop} {Rel : Value → World → World → Prop} {sp : Nat → Value → Value → World → Prop} {a0 : Act} {W0 : World} {tail : List Oper} (hp : ∀ j, j < pre.size → ops[j]? = pre[j]?) (hG : guardsIn pre = true)
  (hA : dstsApart pre = true) (hI : dstsIn pre a0.tmps.size = true) (hE : edgesBack pre = true)
  (htr : ∀ u a b c, Ext a b → Rel u b c → Ext a c) (hX : auxKept pre = true) (hY : auxApart pre = true) (hst : ∀ i v u u' w w', Rel u' w w' → (u' ≠ undef → u' ≠ u) → sp i v u w → sp i v u w')
  (hstep : ∀ i, i < pre.size → RStep P Ext Rel pre Q sp a0 W0 i)
  (hfin : ∀ vs w, vs.length = pre.size → Ext W0 w → (∀ i v, vs[i]? = some v → (∀ d, dstOf pre i = some d → (putAll pre.toList vs a0).tmps[d]? = some v) ∧ sp i v (auxV pre i (putAll pre.toList vs a0)) w) → (∀ i j di dj, i ≠ j → i < pre.size → j < pre.size → isAlloc pre i = true → isAlloc pre j = true → dstOf pre i = some di → dstOf pre j = some dj → (putAll pre.toList vs a0).tmps[di]? ≠ (putAll pre.toList vs a0).tmps[dj]?) → wpList P ops Q tail (putAll pre.toList vs a0) w) :
  ∀ (r k : Nat) (listed : Array Bool) (a : Act) (w : World), k + r = pre.size → Upto pre listed k → RInv Ext Rel pre sp a0 W0 listed a w → wpList P ops Q (pre.toList.drop k ++ tail) a w := by
 intro r
 induction r with
 | zero =>
  intro k listed a w hk hu h
  have hall : ∀ i, i < pre.size → listed.getD i false = true := fun i hi => by rw [hu.at_ i hi, decide_eq_true_eq]; omega
  have hr : Region.ready .any pre listed = [] := by
   apply List.eq_nil_iff_forall_not_mem.2
   intro i hi
   obtain ⟨hun, o, ho, _⟩ := mem_ready.1 hi
   have hil : i < pre.size := (Array.getElem?_eq_some_iff.1 ho).1
   rw [getD_any (by rw [hu.size]; exact hil) true, hall i hil] at hun
   cases hun
  obtain ⟨vs, hl, rfl, hv⟩ := h.fin hA hI hE hr
  rw [List.drop_of_length_le (by simp; omega), List.nil_append]
  exact hfin vs w hl h.ext hv fun i j di dj hij hi hj hai haj hdi hdj => h.apart i j di dj hij (hall i hi) (hall j hj) hai haj hdi hdj
 | succ r ih =>
  intro k listed a w hk hu h
  have hkl : k < pre.size := by omega
  have hk0 : pre[k]? = some pre[k] := Array.getElem?_eq_getElem hkl
  have hrd : k ∈ Region.ready .any pre listed := by
   refine mem_ready.2 ⟨?_, pre[k], hk0, fun e he hb => ?_⟩
   ·rw [getD_any (by rw [hu.size]; exact hkl) true, hu.at_ k hkl, decide_eq_false_iff_not]
    omega
   ·have := edgesBack_lt hE hk0 he hb
    rw [hu.at_ e.on (by omega), decide_eq_true_eq]
    exact this
  have h1 := wpOp_pre hp hG hkl (wpOp_mono (fun a' w' hl => ih (k + 1) _ a' w' (by omega) (hu.step hkl) (h.step hA hI hE htr hX hY hst hrd hl)) (hstep k hkl a w (h.sees hrd)))
  rw [List.drop_eq_getElem_cons (by simpa using hkl), List.cons_append]
  unfold wpOp at h1
  rw [hp k hkl, hk0] at h1
  exact h1

theorem wp_seq {id : Nat} {a : Act} {w : World} (m : Nat) (h : ops.toList = ops.toList.take m ++ ops.toList.drop m → wpList P ops Q (ops.toList.take m ++ ops.toList.drop m) a w) : (Code.region id ops false).wp P Q a w := by
 have h1 := h (List.take_append_drop m _).symm
 rw [List.take_append_drop] at h1
 exact Go.wp_region_list h1

theorem wp_seq_list {Ext : World → World → Prop} {Rel : Value → World → World → Prop} {front tail : List Oper} (l : List (Value → Value → World → Prop)) {n : Nat} {a0 : Act} {w0 : World} (hn : front.length = n) (hG : guardsIn front.toArray = true) (hA : dstsApart front.toArray = true) (hI : dstsIn front.toArray a0.tmps.size = true) (hE : edgesBack front.toArray = true) (hX : auxKept front.toArray = true) (hY : auxApart front.toArray = true)
  (hrf : ∀ a, Ext a a) (htr : ∀ u a b c, Ext a b → Rel u b c → Ext a c) (hst : StabL Rel l)
  (hstep : allBelow n (RStep P Ext Rel front.toArray Q (spOf l) a0 w0))
  (hfin : ∀ (f : Nat → Value) w, Ext w0 w → (∀ i, i < n → ∃ u, spOf l i (f i) u w ∧ ∀ j, auxIdx front.toArray i = some j → u = f j) → (∀ i j di dj, i ≠ j → i < n → j < n → isAlloc front.toArray i = true → isAlloc front.toArray j = true → dstOf front.toArray i = some di → dstOf front.toArray j = some dj → f i ≠ f j) → wpList P ops Q tail (putFn front f 0 a0) w) : ops.toList = front ++ tail → wpList P ops Q (front ++ tail) a0 w0 := by
 intro hops
 subst hn
 have hsz : front.toArray.size = front.length := by simp
 have hp : ∀ j, j < front.toArray.size → ops[j]? = front.toArray[j]? := by
  intro j hj
  rw [← Array.getElem?_toList, hops, List.getElem?_append_left (by simpa using hj)]
  simp
 have main := wpList_seq (P := P) (Q := Q) (ops := ops) (pre := front.toArray) (sp := spOf l) (a0 := a0) (W0 := w0) (tail := tail) hp hG hA hI hE htr hX hY (stab_of hst) (fun i hi => allBelow_lt hstep i (by simpa using hi)) (by
  intro vs w hl hR hv hap
  have e := putFn_eq front [] vs a0 (by simpa using hl)
  simp only [List.nil_append, List.length_nil] at e
  have := hfin (fun i => vs.getD i undef) w hR (fun i hi => by
   have hvi : vs[i]? = some (vs[i]'(by rw [hl, hsz]; exact hi)) := List.getElem?_eq_getElem _
   have h1 := hv i _ hvi
   refine ⟨auxV front.toArray i (putAll front vs a0), ?_, fun j hj => ?_⟩
   ·simp only [List.getD_eq_getElem?_getD, hvi, Option.getD_some]
    exact h1.2
   ·unfold auxIdx at hj
    cases ha : auxOf front.toArray i with
    | none => rw [ha] at hj; cases hj
    | some p =>
     rw [ha] at hj
     have hj' := List.find?_some hj
     have hjm := List.mem_of_find?_eq_some hj
     have hjl := List.mem_range.1 hjm
     have hd : dstOf front.toArray j = some p := by simpa using hj'
     have hvj : vs[j]? = some (vs[j]'(by rw [hl]; exact hjl)) := List.getElem?_eq_getElem _
     have h2 := (hv j _ hvj).1 p hd
     unfold auxV
     rw [ha]
     simp only [Array.getD_eq_getD_getElem?, List.getD_eq_getElem?_getD, hvj, Option.getD_some]
     have h3 : (putAll front vs a0).tmps[p]? = some (vs[j]'(by rw [hl]; exact hjl)) := h2
     rw [h3]
     rfl) (fun i j di dj hij hi hj hai haj hdi hdj hf => by
   have hvi : vs[i]? = some (vs[i]'(by rw [hl, hsz]; exact hi)) := List.getElem?_eq_getElem _
   have hvj : vs[j]? = some (vs[j]'(by rw [hl, hsz]; exact hj)) := List.getElem?_eq_getElem _
   refine hap i j di dj hij (by rw [hsz]; exact hi) (by rw [hsz]; exact hj) hai haj hdi hdj ?_
   rw [(hv i _ hvi).1 di hdi, (hv j _ hvj).1 dj hdj]
   simp only [List.getD_eq_getElem?_getD, hvi, hvj, Option.getD_some] at hf
   rw [hf])
  rw [e] at this
  exact this)
 exact main front.length 0 (Array.replicate front.length false) a0 w0 (by simp) ⟨by simp, fun i hi => by simp [show i < front.length by simpa using hi]⟩ ⟨hrf _, rfl, rfl, by simp, fun j o _ h => absurd h (no_one _ _), fun _ _ => rfl, fun i h => absurd h (no_one _ _), fun i j di dj _ h => absurd h (no_one _ _)⟩
end
theorem rbX {w w' : World} (h : RB w w') : Below w.heap.size w w' := h
end Go.Proofs.YtbhgbilhoonopaaGreat
namespace Go.Proofs.YtbhgbilhoonopaaGreat
open Go.RowKit
set_option linter.unusedVariables false
set_option maxRecDepth 100000

section
variable {a : Act} {w : World} {Q : Exit → Act → World → Prop} {K : Act → World → Prop} {dst : Option Tmp} {ty : TypeId} {pos : String} {af : Array Edge} {gd : Option (Nat × Bool)} {ops : Array Oper} {sp : Nat → Value → Value → World → Prop} {i N : Nat}
end
/-! Stores into a variable of type Rat leave fractions as they are: their limbs lie elsewhere. -/
section
variable {w : World} {g : Nat} {b b' : Bool} {A B A' B' : Option Addr} {n c m d n' c' m' d' : Nat}
theorem Bq.set0 (h : Bq w g b A n c B m d) : Bq (w.setCell ⟨g, 0, none⟩ (.bool b')) g b' A n c B m d := ⟨heap_setCell_same w g 0 #[.bool b, .slice A n c, .slice B m d] 26 (.bool b') h.row⟩
theorem Bq.set1 (h : Bq w g b A n c B m d) : Bq (w.setCell ⟨g, 1, none⟩ (.slice A' n' c')) g b A' n' c' B m d := ⟨heap_setCell_same w g 1 #[.bool b, .slice A n c, .slice B m d] 26 (.slice A' n' c') h.row⟩
theorem RdK.storedQ {X : Option Addr} {k l : Nat} {xs : List Nat} (h : Rd w X k l xs) (P : Bq w g b A n c B m d) (i : Nat) (u : Value) : Rd (w.setCell ⟨g, i, none⟩ u) X k l xs := by
 refine h.keep fun p hp hn => ?_
 obtain ⟨e, o, x, hA, hx, _, hc⟩ := h.at32 (i := 0) hn
 rw [hp] at hA
 injection hA with hA
 subst hA
 refine heap_setCell_other w ⟨g, i, none⟩ e u fun he => ?_
 dsimp only at he
 subst he
 rw [cell_of_row _ _ _ _ _ _ P.row] at hc
 rcases o with _ | _ | _ | o <;> simp at hc
theorem RdK.put3 {X : Option Addr} {k l : Nat} {xs : List Nat} (h : Rd w X k l xs) (P : Bq w g b A n c B m d) : Rd (((w.setCell ⟨g, 0, none⟩ (.bool b')).setCell ⟨g, 1, none⟩ (.slice A' n' c')).setCell ⟨g, 2, none⟩ (.slice B' m' d')) X k l xs :=
 ((h.storedQ P 0 _).storedQ (P.set0 (b' := b')) 1 _).storedQ ((P.set0 (b' := b')).set1 (A' := A') (n' := n') (c' := c')) 2 _
theorem Bq.put3 {g' : Nat} {t t' : Bool} {X Y : Option Addr} {e f r s : Nat} (h : Bq w g' t X e f Y r s) (hne : g' ≠ g) : Bq (((w.setCell ⟨g, 0, none⟩ (.bool b')).setCell ⟨g, 1, none⟩ (.slice A' n' c')).setCell ⟨g, 2, none⟩ (.slice B' m' d')) g' t X e f Y r s := ((h.other hne).other hne).other hne
theorem Below.put3 {w0 : World} {N : Nat} (h : Below N w0 w) (hg : N ≤ g) : Below N w0 (((w.setCell ⟨g, 0, none⟩ (.bool b')).setCell ⟨g, 1, none⟩ (.slice A' n' c')).setCell ⟨g, 2, none⟩ (.slice B' m' d')) := ((h.setCell (p := ⟨g, 0, none⟩) hg _).setCell (p := ⟨g, 1, none⟩) hg _).setCell (p := ⟨g, 2, none⟩) hg _
end
end Go.Proofs.YtbhgbilhoonopaaGreat
namespace Go.Proofs.YtbhgbilhoonopaaGreat
open Go.RowKit
set_option linter.unusedVariables false
set_option maxRecDepth 100000

section
variable {w : World}
set_option maxHeartbeats 4000000
end

end Go.Proofs.YtbhgbilhoonopaaGreat

/- litmuslaw02.works: the chapter's examples. -/
namespace Go.Proofs.YtbhgbilhoonopaaGreat
open Go.RowKit
set_option linter.unusedVariables false
set_option maxRecDepth 100000

end Go.Proofs.YtbhgbilhoonopaaGreat
namespace Go.Proofs.YtbhgbilhoonopaaGreat
open Go.RowKit
set_option linter.unusedVariables false
set_option maxRecDepth 100000

end Go.Proofs.YtbhgbilhoonopaaGreat
namespace Go.Proofs.YtbhgbilhoonopaaGreat
open Go.RowKit
set_option linter.unusedVariables false
set_option maxRecDepth 100000

section
variable {a : Act} {w : World} {K : Act → World → Prop} {Q : Exit → Act → World → Prop} {dst : Option Tmp} {ty : TypeId} {pos : String} {af : Array Edge} {gd : Option (Nat × Bool)} {x y : Operand} {k l : ByteArray} {p q : Int}
end

/-- A number's text says that number. -/
theorem txtZ_is {s : ByteArray} {z : Int} (h : M.bytes s = txtZ z) : isZ s ∧ valZ s = z := by
 by_cases hz : z < 0
 ·rw [txtZ_neg hz] at h
  rcases bytes_cut s with ⟨h1, h2⟩ | ⟨h1, h2⟩
  ·rw [h] at h2
   injection h2 with _ h2
   refine ⟨⟨by rw [← h2]; exact M.txt_digits _, fun _ => ?_⟩, ?_⟩
   ·rw [← h2, M.dec_txt]; omega
   ·unfold valZ
    rw [h1, ← h2, M.dec_txt, zv_true]; omega
  ·exfalso
   have := of_decide_eq_false h1
   rw [h] at this
   exact this rfl
 ·rw [txtZ_pos hz] at h
  rcases bytes_cut s with ⟨h1, h2⟩ | ⟨h1, h2⟩
  ·exfalso
   have hd := (M.txt_digits z.natAbs).2.2
   rw [← h, h2] at hd
   have := hd 45 (by simp)
   omega
  ·refine ⟨⟨by rw [h2, h]; exact M.txt_digits _, fun e => by rw [h1] at e; cases e⟩, ?_⟩
   unfold valZ
   rw [h1, h2, h, M.dec_txt, zv_false]; omega
theorem txtZ_first (z : Int) : ∃ x l, txtZ z = x :: l ∧ (x = 45 ↔ z < 0) := by
 by_cases hz : z < 0
 ·exact ⟨45, _, txtZ_neg hz, by simp [hz]⟩
 ·rw [txtZ_pos hz]
  have hd := M.txt_digits z.natAbs
  cases ht : M.txt z.natAbs with
  | nil => exact absurd ht hd.1
  | cons x l =>
   refine ⟨x, l, rfl, ?_⟩
   have := hd.2.2 x (by rw [ht]; simp)
   omega
theorem txtZ_inj {z u : Int} (h : txtZ z = txtZ u) : z = u := by
 obtain ⟨x, l, h1, h2⟩ := txtZ_first z
 obtain ⟨y, m, h3, h4⟩ := txtZ_first u
 have hxy : x = y := by rw [h1, h3] at h; injection h
 by_cases hz : z < 0
 ·have hu : u < 0 := h4.1 (by rw [← hxy]; exact h2.2 hz)
  rw [txtZ_neg hz, txtZ_neg hu] at h
  injection h with _ h
  have := M.txt_inj h
  omega
 ·have hu : ¬ u < 0 := fun hu => hz (h2.1 (by rw [hxy]; exact h4.2 hu))
  rw [txtZ_pos hz, txtZ_pos hu] at h
  have := M.txt_inj h
  omega
end Go.Proofs.YtbhgbilhoonopaaGreat
namespace Go.Proofs.YtbhgbilhoonopaaGreat
open Go.RowKit
set_option linter.unusedVariables false
set_option maxRecDepth 100000

/-- A fraction of just these limbs. -/
def IsR (w : World) (v : Value) (b : Bool) (xs ys : List Nat) (k : Nat) : Prop := ∃ A n c B m d, v = .agg #[.bool b, .slice A n c, .slice B m d] ∧ (Rd w A n c xs ∧ n ≤ k) ∧ (Rd w B m d ys ∧ m ≤ k)
section
variable {w w' : World} {v v' : Value} {p q : Rat} {z u : Int} {k j N : Nat} {b2 b3 : Bool} {xs ys xs' ys' : List Nat}
set_option maxHeartbeats 2000000
theorem IsR.m (h : IsR w v b2 xs ys k) : IsQm w v (mkRat (zv b2 (M.val xs)) (dOf (M.val ys))) k := by
 obtain ⟨A, n, c, B, m, d, rfl, ⟨h1, h2⟩, h3, h4⟩ := h
 exact ⟨_, _, _, _, _, _, _, rfl, _, _, ⟨⟨_, ⟨⟨_, h1, rfl⟩, h2⟩, rfl⟩⟩, ⟨⟨_, h3, rfl⟩, h4⟩, rfl⟩
end

theorem digits_no (l : List Nat) (h : M.Digits l) : 47 ∉ l := by
 intro hm
 have := h.2.2 47 hm
 omega
theorem txtZ_no (z : Int) : 47 ∉ txtZ z := by
 by_cases h : z < 0
 ·rw [txtZ_neg h, List.mem_cons]
  rintro (h | h)
  ·omega
  ·exact digits_no _ (M.txt_digits _) h
 ·rw [txtZ_pos h]
  exact digits_no _ (M.txt_digits _)
theorem cut_inj : ∀ {a b c d : List Nat}, 47 ∉ a → 47 ∉ c → a ++ 47 :: b = c ++ 47 :: d → a = c ∧ b = d
 | [], b, [], d, _, _, h => ⟨rfl, by simpa using h⟩
 | [], b, x :: c, d, _, hc, h => by
  simp at h hc
  omega
 | x :: a, b, [], d, ha, _, h => by
  simp at h ha
  omega
 | x :: a, b, y :: c, d, ha, hc, h => by
  rw [List.cons_append, List.cons_append, List.cons_eq_cons] at h
  have := cut_inj (fun e => ha (List.mem_cons_of_mem _ e)) (fun e => hc (List.mem_cons_of_mem _ e)) h.2
  exact ⟨by rw [h.1, this.1], this.2⟩
theorem txtQ_one {q : Rat} (h : q.den = 1) : txtQ q = txtZ q.num := by unfold txtQ; rw [if_pos h]
theorem txtQ_two {q : Rat} (h : q.den ≠ 1) : txtQ q = txtZ q.num ++ 47 :: M.txt q.den := by unfold txtQ; rw [if_neg h]; simp
theorem txtN_inj {a b : Nat} (h : M.txt a = M.txt b) : a = b := by
 have := txtZ_inj (z := (a : Int)) (u := (b : Int)) (by rw [txtZ_pos (by omega), txtZ_pos (by omega)]; simpa using h)
 omega
theorem txtQ_inj {p q : Rat} (h : txtQ p = txtQ q) : p = q := by
 by_cases hp : p.den = 1 <;> by_cases hq : q.den = 1
 ·rw [txtQ_one hp, txtQ_one hq] at h
  exact Rat.ext (txtZ_inj h) (by rw [hp, hq])
 ·rw [txtQ_one hp, txtQ_two hq] at h
  exact absurd (by rw [h]; simp) (txtZ_no p.num)
 ·rw [txtQ_two hp, txtQ_one hq] at h
  exact absurd (by rw [← h]; simp) (txtZ_no q.num)
 ·rw [txtQ_two hp, txtQ_two hq] at h
  have := cut_inj (txtZ_no _) (txtZ_no _) h
  exact Rat.ext (txtZ_inj this.1) (txtN_inj this.2)
theorem txtN_len {x k : Nat} (h : x < M.R ^ k) : (M.txt x).length ≤ 10 * k + 2 := by
 have := txtZ_len (z := (x : Int)) (k := k) (by simpa using h)
 rw [txtZ_pos (by omega)] at this
 simpa using this
theorem dec_txt (n : Nat) : M.dec 0 (M.txt n) = n := txtN_inj (txt_dec (M.txt_digits n))
theorem cQParseT {w : World} {q : Rat} {k : Nat} (s : ByteArray) (hs : M.bytes s = txtQ q) (hn : q.num.natAbs < M.R ^ k) (hd : q.den < M.R ^ k) (hk : k ≤ 900) (hk1 : 1 ≤ k) : Calls Tryz.prog 44 #[.string s] w (Ans w fun w' v => IsQB w.heap.size w' v q k true) := by
 have hl := M.bytes_len s
 have l1 := txtZ_len hn
 have l2 := txtN_len hd
 by_cases h : q.den = 1
 ·rw [txtQ_one h] at hs
  obtain ⟨h1, h2⟩ := txtZ_is hs
  have := cQParse1 (w := w) (k := k) s (by rw [← hl, hs]; omega) (by rw [hs]; exact txtZ_no _) h1 (by rw [h2]; exact hn) hk hk1
  rw [h2, show ((q.num : Int) : Rat) = q from Eq.symm (Rat.ext (p := q) (q := ((q.num : Int) : Rat)) rfl h)] at this
  exact this
 ·rw [txtQ_two h] at hs
  have hb := bytes_take s hs
  obtain ⟨h1, h2⟩ := txtZ_is hb.1
  exact cQParse2 s (by rw [← hl, hs, List.length_append, List.length_cons]; omega) hs (txtZ_no _) h1 (M.txt_digits _) q h2 (dec_txt _) h hn hd hk hk1
theorem isR_nil (w : World) : IsR w (.agg #[.bool false, .slice none 0 0, .slice none 0 0]) false [] [] 1 := ⟨_, _, _, _, _, _, rfl, ⟨(OwK.nil_ w 0).rd, by omega⟩, (OwK.nil_ w 0).rd, by omega⟩
theorem isQm_nil (w : World) : IsQm w (.agg #[.bool false, .slice none 0 0, .slice none 0 0]) 0 1 := by
 have h := (isR_nil w).m
 rw [show mkRat (zv false (M.val [])) (dOf (M.val [])) = 0 by decide +kernel] at h
 exact h
end Go.Proofs.YtbhgbilhoonopaaGreat
namespace Go.Proofs.YtbhgbilhoonopaaGreat
namespace M
set_option linter.unusedVariables false

def bval : List Bool → Nat
 | [] => 0
 | b :: bs => b.toNat + 2 * bval bs
theorem bval_cons (b : Bool) (bs : List Bool) : bval (b :: bs) = b.toNat + 2 * bval bs := rfl
theorem bval_one (b : Bool) : bval [b] = b.toNat := by simp [bval]
theorem bval_append (xs ys : List Bool) : bval (xs ++ ys) = bval xs + 2 ^ xs.length * bval ys := by
 induction xs with
 | nil => simp [bval]
 | cons x xs ih =>
  rw [List.cons_append, bval_cons, ih, bval_cons, List.length_cons, Nat.pow_succ]
  have : 2 ^ xs.length * 2 * bval ys = 2 * (2 ^ xs.length * bval ys) := by rw [Nat.mul_comm (2 ^ xs.length), Nat.mul_assoc]
  omega
theorem bval_lt (xs : List Bool) : bval xs < 2 ^ xs.length := by
 induction xs with
 | nil => decide
 | cons x xs ih =>
  rw [bval_cons, List.length_cons, Nat.pow_succ]
  have := Bool.toNat_lt x
  omega

/-- Without highest zeros. -/
def trB : List Bool → List Bool
 | [] => []
 | b :: bs => if b = false ∧ trB bs = [] then [] else b :: trB bs
theorem bval_trB (xs : List Bool) : bval (trB xs) = bval xs := by
 induction xs with
 | nil => rfl
 | cons x xs ih =>
  unfold trB
  split
  ·rename_i h
   rw [bval_cons, ← ih, h.2, h.1]
   rfl
  ·rw [bval_cons, bval_cons, ih]
theorem trB_length_le (xs : List Bool) : (trB xs).length ≤ xs.length := by
 induction xs with
 | nil => exact Nat.le_refl _
 | cons x xs ih =>
  unfold trB
  split
  ·simp
  ·simp; exact ih
theorem trB_prefix (xs : List Bool) : trB xs = xs.take (trB xs).length := by
 induction xs with
 | nil => rfl
 | cons x xs ih =>
  unfold trB
  split
  ·rfl
  ·rw [List.length_cons, List.take_succ_cons, ← ih]
theorem trB_snoc_false (xs : List Bool) : trB (xs ++ [false]) = trB xs := by
 induction xs with
 | nil => rfl
 | cons x xs ih => rw [List.cons_append, trB, ih, trB]
theorem trB_snoc_true (xs : List Bool) : trB (xs ++ [true]) = xs ++ [true] := by
 induction xs with
 | nil => rfl
 | cons x xs ih =>
  rw [List.cons_append, trB, ih, if_neg]
  intro h
  exact absurd h.2 (by simp)
theorem trB_trB (xs : List Bool) : trB (trB xs) = trB xs := by
 induction xs with
 | nil => rfl
 | cons x xs ih =>
  rw [trB]
  split
  ·rfl
  ·rename_i h
   rw [trB, ih, if_neg h]
/-- A row without highest zeros is none, or ends in a one. -/
theorem trB_last {xs : List Bool} (h : trB xs = xs) : xs = [] ∨ ∃ ys, xs = ys ++ [true] := by
 rcases List.eq_nil_or_concat xs with h0 | ⟨ys, b, hxs⟩
 ·exact .inl h0
 ·rw [List.concat_eq_append] at hxs
  subst hxs
  right
  cases b with
  | true => exact ⟨ys, rfl⟩
  | false =>
   exfalso
   rw [trB_snoc_false] at h
   have h1 := congrArg List.length h
   have h2 := trB_length_le ys
   simp at h1
   omega
theorem bval_ge {xs : List Bool} (h : trB xs = xs) (hn : xs ≠ []) : 2 ^ (xs.length - 1) ≤ bval xs := by
 rcases trB_last h with h0 | ⟨ys, rfl⟩
 ·exact absurd h0 hn
 ·rw [bval_append, bval_one]
  simp
theorem bval_zero {xs : List Bool} (h : trB xs = xs) : xs.length = 0 ↔ bval xs = 0 := by
 constructor
 ·intro h0
  rw [List.eq_nil_of_length_eq_zero h0]
  rfl
 ·intro h0
  refine Nat.eq_zero_of_not_pos fun hc => ?_
  have := bval_ge h (List.length_pos_iff.1 hc)
  have := Nat.pow_pos (n := xs.length - 1) (show 0 < 2 by omega)
  omega
theorem bval_len {xs : List Bool} {k : Nat} (h : trB xs = xs) (hk : bval xs < 2 ^ k) : xs.length ≤ k := by
 by_cases hn : xs = []
 ·rw [hn]; simp
 ·have h1 := bval_ge h hn
  have h2 := (Nat.pow_lt_pow_iff_right (a := 2) (by omega)).1 (Nat.lt_of_le_of_lt h1 hk)
  omega
theorem bval_lt_of_len {xs ys : List Bool} (hy : trB ys = ys) (h : xs.length < ys.length) : bval xs < bval ys := by
 have h1 := bval_lt xs
 have h2 := bval_ge hy (fun e => by rw [e] at h; simp at h)
 have h3 : 2 ^ xs.length ≤ 2 ^ (ys.length - 1) := Nat.pow_le_pow_right (by omega) (by omega)
 omega
theorem take_snoc {α : Type} {xs : List α} {k : Nat} {x : α} (h : xs[k]? = some x) : xs.take (k + 1) = xs.take k ++ [x] := by
 rw [List.take_add_one, h]
 rfl
theorem bval_take {xs : List Bool} {k : Nat} {x : Bool} (h : xs[k]? = some x) : bval (xs.take (k + 1)) = bval (xs.take k) + 2 ^ k * x.toNat := by
 have hk : k < xs.length := (List.getElem?_eq_some_iff.1 h).1
 rw [take_snoc h, bval_append, bval_one, List.length_take, Nat.min_eq_left (by omega)]

/-- Bits of a number, one by one. -/
def bitsOf (x : Nat) : Nat → List Bool
 | 0 => []
 | k + 1 => bitsOf x k ++ [decide (x / 2 ^ k % 2 = 1)]
theorem bitsOf_length (x k : Nat) : (bitsOf x k).length = k := by
 induction k with
 | zero => rfl
 | succ k ih => simp [bitsOf, ih]
theorem bitsOf_val (x k : Nat) : bval (bitsOf x k) = x % 2 ^ k := by
 induction k with
 | zero => simp [bitsOf, bval, Nat.mod_one]
 | succ k ih =>
  rw [bitsOf, bval_append, bval_one, ih, bitsOf_length, Nat.pow_succ, Nat.mod_mul]
  congr 2
  have : x / 2 ^ k % 2 < 2 := Nat.mod_lt _ (by omega)
  by_cases h : x / 2 ^ k % 2 = 1
  ·rw [decide_eq_true h, h]; rfl
  ·rw [decide_eq_false h]
   show 0 = _
   omega

/-- Taking away, one bit more. -/
theorem bsub_step {es bs zs : List Bool} {k : Nat} {x y z bo bo' : Bool} {A B : Nat} (hl : zs.length = k) (h : A + 2 ^ k * bo.toNat = bval zs + B) (hz : x.toNat + 2 * bo'.toNat = z.toNat + y.toNat + bo.toNat) :
  A + 2 ^ k * x.toNat + 2 ^ (k + 1) * bo'.toNat = bval (zs ++ [z]) + (B + 2 ^ k * y.toNat) := by
 rw [bval_append, bval_one, hl, Nat.pow_succ]
 have e1 : 2 ^ k * (x.toNat + 2 * bo'.toNat) = 2 ^ k * (z.toNat + y.toNat + bo.toNat) := by rw [hz]
 have e2 : 2 ^ k * (x.toNat + 2 * bo'.toNat) = 2 ^ k * x.toNat + 2 ^ k * 2 * bo'.toNat := by rw [Nat.mul_add, Nat.mul_assoc]
 have e3 : 2 ^ k * (z.toNat + y.toNat + bo.toNat) = 2 ^ k * z.toNat + 2 ^ k * y.toNat + 2 ^ k * bo.toNat := by rw [Nat.mul_add, Nat.mul_add]
 omega
end M
end Go.Proofs.YtbhgbilhoonopaaGreat

/- litmusref01: rows of bits: trim, at, Bits, Limbs. -/
namespace Go.Proofs.YtbhgbilhoonopaaGreat
open Go.RowKit
set_option linter.unusedVariables false

theorem wrapU32 (n : Int) : IntKind.u32.wrap n = n % 4294967296 := by simp [IntKind.wrap, IntKind.signed, IntKind.bits]
theorem and_u32_nat (a b : Nat) (ha : a < 4294967296) (hb : b < 4294967296) : bits .and .u32 (a : Int) (b : Int) = ((a &&& b : Nat) : Int) := by
 have h1 : BitVec.ofInt 32 (a : Int) = BitVec.ofNat 32 a := BitVec.ofInt_natCast ..
 have h2 : BitVec.ofInt 32 (b : Int) = BitVec.ofNat 32 b := BitVec.ofInt_natCast ..
 have h3 : a &&& b < 2 ^ 32 := Nat.and_lt_two_pow _ (by omega)
 show IntKind.u32.wrap ((BitVec.ofInt 32 (a : Int) &&& BitVec.ofInt 32 (b : Int)).toNat : Int) = _
 rw [BitVec.toNat_and, h1, h2, BitVec.toNat_ofNat, BitVec.toNat_ofNat, Nat.mod_eq_of_lt (by omega), Nat.mod_eq_of_lt (by omega)]
 rw [wrapU32]
 omega
theorem or_u32_nat (a b : Nat) (ha : a < 4294967296) (hb : b < 4294967296) : bits .or .u32 (a : Int) (b : Int) = ((a ||| b : Nat) : Int) := by
 have h1 : BitVec.ofInt 32 (a : Int) = BitVec.ofNat 32 a := BitVec.ofInt_natCast ..
 have h2 : BitVec.ofInt 32 (b : Int) = BitVec.ofNat 32 b := BitVec.ofInt_natCast ..
 have h3 : a ||| b < 2 ^ 32 := Nat.or_lt_two_pow (by omega) (by omega)
 show IntKind.u32.wrap ((BitVec.ofInt 32 (a : Int) ||| BitVec.ofInt 32 (b : Int)).toNat : Int) = _
 rw [BitVec.toNat_or, h1, h2, BitVec.toNat_ofNat, BitVec.toNat_ofNat, Nat.mod_eq_of_lt (by omega), Nat.mod_eq_of_lt (by omega)]
 rw [wrapU32]
 omega

def kBool : Kd Bool := ⟨fun b => .bool b, fun _ => True, 4, 94, false, 1, fun _ => rfl, Tryz.underlying94, by kernel_rfl, rfl, by decide⟩
abbrev RdB := RdK kBool
abbrev OwB := OwK kBool

section
variable {w w' : World} {A : Option Addr} {n c base : Nat} {bs : List Bool}
theorem RdK.atB (h : RdB w A n c bs) {i : Nat} (hi : i < n) : ∃ b o x, A = some ⟨b, o, none⟩ ∧ bs[i]? = some x ∧ w.cell? ⟨b, o + i, none⟩ = some (.bool x) := by
 obtain ⟨b, o, x, h1, h2, _, h3⟩ := h.at_ hi
 exact ⟨b, o, x, h1, h2, h3⟩
theorem OwK.shortB (h : OwB w base A n c bs) : OwB w base A (M.trB bs).length c (M.trB bs) := by
 have h1 := M.trB_length_le bs
 have h2 := OwK.take h (m := (M.trB bs).length) (by rw [← h.len]; exact h1)
 rw [← M.trB_prefix] at h2
 exact h2
theorem RdK.shortB (h : RdB w A n c bs) : RdB w A (M.trB bs).length c (M.trB bs) := by
 have h1 := M.trB_length_le bs
 have h2 := h.take (m := (M.trB bs).length) (by rw [← h.len]; exact h1)
 rw [← M.trB_prefix] at h2
 exact h2
end

set_option maxHeartbeats 1000000 in
theorem trimB_any (A : Option Addr) (n c : Nat) (bs : List Bool) (w : World) (h : RdB w A n c bs) (hm : n ≤ 4194304) :
  Calls Tryz.prog 134 #[.slice A n c] w fun e w' => e = .returned (.slice A (M.trB bs).length c) ∧ w = w' := by
 have hc := h.cap
 have H := Lib.hid h
 clear h
 go_enter Tryz.func134, Tryz.ntmps134
 go_wp2
 go_loop [0] (fun v => ∃ k : Nat, k ≤ n ∧ v = .slice A k c ∧ M.trB (bs.take k) = M.trB bs) (fun v => match v with | .slice _ k _ => k | _ => 0)
 case atStart => exact ⟨n, Nat.le_refl _, rfl, by rw [List.take_of_length_le (by rw [H.out.len]; exact Nat.le_refl _)]⟩
 case round =>
  obtain ⟨k, hk, rfl, ht⟩ := hrel
  have HT := Lib.hid ht
  clear ht
  by_cases h0 : k = 0
  ·subst h0
   have HE := Lib.hid (show (M.trB bs).length = 0 by rw [← HT.out]; rfl)
   go_wp2
   go_ret
   exact ⟨ret_slice HE.out.symm, rfl⟩
  ·obtain ⟨b, o, x, hA, hx, hcell⟩ := H.out.atB (show k - 1 < n by omega)
   subst hA
   have hk1 : 0 < k := by omega
   have HX := Lib.hid hx
   clear hx
   cases x with
   | false =>
    go_wp2
    go_round
    case rel => exact ⟨k - 1, by omega, by go_num, by rw [← HT.out, show k = k - 1 + 1 by omega, M.take_snoc HX.out, M.trB_snoc_false]; simp⟩
    case measure => simp; omega
   | true =>
    have hl : (M.trB bs).length = k := by
     rw [← HT.out, show k = k - 1 + 1 by omega, M.take_snoc HX.out, M.trB_snoc_true, ← M.take_snoc HX.out, List.length_take, H.out.len]
     omega
    have HL := Lib.hid hl
    clear hl
    go_wp2
    go_ret
    exact ⟨ret_slice HL.out.symm, rfl⟩

def bitAt (bs : List Bool) (i : Nat) : Bool := bs[i]?.getD false

set_option maxHeartbeats 1000000 in
theorem atB_any (A : Option Addr) (n c : Nat) (bs : List Bool) (i : Nat) (w : World) (h : RdB w A n c bs) (hm : n ≤ 4194304) :
  Calls Tryz.prog 146 #[.slice A n c, .int .i64 (i : Int)] w fun e w' => e = .returned (.bool (bitAt bs i)) ∧ w = w' := by
 by_cases hi : i < n
 ·obtain ⟨b, o, x, hA, hx, hcell⟩ := h.atB hi
  subst hA
  have e : bitAt bs i = x := by unfold bitAt; rw [hx]; rfl
  rw [e]
  clear h hx e
  go_enter Tryz.func146, Tryz.ntmps146
  go_wp2
  go_ret
  exact ⟨rfl, rfl⟩
 ·have e : bitAt bs i = false := by unfold bitAt; rw [List.getElem?_eq_none (by rw [h.len]; omega)]; rfl
  rw [e]
  clear h e
  go_enter Tryz.func146, Tryz.ntmps146
  go_wp2
  go_ret
  exact ⟨rfl, rfl⟩

/-- A call answers a new row of bits of this number, without highest zeros. -/
def GivesBits (w : World) (v : Nat) (e : Ending) (w' : World) : Prop := ∃ A n c bs, e = .returned (.slice A n c) ∧ OwB w' w.heap.size A n c bs ∧ M.trB bs = bs ∧ M.bval bs = v ∧ Below w.heap.size w w'

set_option maxHeartbeats 2000000 in
theorem bits_any (A : Option Addr) (n c : Nat) (xs : List Nat) (w : World) (h : Rd w A n c xs) (hm : n ≤ 1000) :
  Calls Tryz.prog 102 #[.slice A n c] w (GivesBits w (M.val xs)) := by
 have H := Lib.hid h
 clear h
 go_enter Tryz.func102, Tryz.ntmps102
 go_wp2
 go_loopg [3, 4] n (fun g v i wr => ∃ (k m cp : Nat) (B : Option Addr) (ds : List Bool), k ≤ n ∧ g = n - k ∧ i = .int .i64 (k : Int) ∧ v = .slice B m cp ∧ OwB wr w.heap.size B m cp ds ∧ ds.length = 32 * k ∧ M.bval ds = M.val (xs.take k) ∧ Below w.heap.size w wr)
 case atStart => exact ⟨0, 0, 0, none, [], by omega, rfl, rfl, rfl, OwK.nil_ _ _, rfl, rfl, Below.refl _ _⟩
 case round =>
  obtain ⟨k, m, cp, B, ds, hk, hg, rfl, rfl, ho, hl, hv, hb⟩ := hrel
  have HG := Lib.hid hg
  have HO := Lib.hid ho
  have HL := Lib.hid hl
  have HV := Lib.hid hv
  have HB := Lib.hid hb
  clear hg ho hl hv hb
  by_cases hkn : k < n
  ·obtain ⟨b, o, x, hA, hx, hxl, hcell⟩ := H.out.at32 hkn
   subst hA
   rw [M.R_eq] at hxl
   have HX := Lib.hid hx
   have HC := Lib.hid hcell
   have HXL := Lib.hid hxl
   clear hx hcell
   go_wp2
   go_loopg [3, 5] 32 (fun g v i wr => ∃ (j m cp : Nat) (B : Option Addr) (es : List Bool), j ≤ 32 ∧ g = 32 - j ∧ i = .int .i64 (j : Int) ∧ v = .slice B m cp ∧ OwB wr w.heap.size B m cp (ds ++ es) ∧ es = M.bitsOf x j ∧ Below w.heap.size w wr)
   case atStart => exact ⟨0, m, cp, B, [], by omega, rfl, rfl, rfl, by rw [List.append_nil]; exact HO.out, rfl, HB.out⟩
   case round =>
    obtain ⟨j, m2, cp2, B2, es, hj, hg2, rfl, rfl, ho2, he2, hb2⟩ := hrel
    have hm2 : m2 ≤ 40000 := by have := ho2.len; rw [List.length_append, HL.out, he2, M.bitsOf_length] at this; omega
    have hcell2 : wr.cell? ⟨b, o + k, none⟩ = some (.int .u32 (x : Int)) := by
     obtain ⟨b9, o9, x9, hA9, hx9, _, hc9⟩ := (H.out.below hb2).at32 hkn
     injection hA9 with hA9
     injection hA9 with hA9 hA9'
     subst hA9 hA9'
     have := HX.out
     rw [hx9] at this
     injection this with this
     subst this
     exact hc9
    have HG2 := Lib.hid hg2
    have HO2 := Lib.hid ho2
    have HE2 := Lib.hid he2
    have HB2 := Lib.hid hb2
    clear hg2 ho2 he2 hb2
    by_cases hj32 : j < 32
    ·obtain ⟨bt, hbt⟩ : ∃ bt : Bool, bt = decide (x / 2 ^ j % 2 = 1) := ⟨_, rfl⟩
     have hbit : (bits .and .u32 ((x : Int) / 2 ^ j) 1 == 1) = bt := by
      have e1 : ((x : Int) / 2 ^ j) = ((x / 2 ^ j : Nat) : Int) := by simp
      have e2 : (1 : Int) = ((1 : Nat) : Int) := rfl
      have h1 : x / 2 ^ j < 4294967296 := Nat.lt_of_le_of_lt (Nat.div_le_self _ _) HXL.out
      rw [e1, hbt]
      rw [show bits .and .u32 ((x / 2 ^ j : Nat) : Int) 1 = ((x / 2 ^ j % 2 : Nat) : Int) from by rw [e2, and_u32_nat _ 1 h1 (by omega), Nat.and_one_is_mod]]
      rw [Bool.eq_iff_iff]
      simp
      omega
     have HST := Lib.hid (show es ++ [bt] = M.bitsOf x (j + 1) by rw [hbt, HE2.out]; rfl)
     clear hbt
     go_wp2_with (at_builtin; refine app_own kBool _ rfl _ _ rfl w.heap.size B2 m2 cp2 (ds ++ es) rfl (HO2.out.alloc _) _ 1 1 [bt] rfl (RdK.one (K := kBool) _ bt trivial) (by omega) (by have := HB2.out.size; simp; omega) ?_; intro A3 c3 w3 ho3 hg3; have HO3 := Lib.hid ho3; have HG3 := Lib.hid hg3; clear ho3 hg3)
     go_roundg (32 - (j + 1))
     case measure => have := HG2.out; omega
     case rel =>
      refine ⟨j + 1, m2 + 1, c3, A3, es ++ [bt], by omega, rfl, by go_num, rfl, ?_, HST.out, below_app HB2.out HB2.out.size HO2.out HG3.out⟩
      rw [← List.append_assoc]
      exact HO3.out
    ·obtain rfl : j = 32 := by omega
     have HV3 := Lib.hid (show M.bval (ds ++ es) = M.val (xs.take (k + 1)) by
      rw [M.bval_append, HV.out, HE2.out, M.bitsOf_val, HL.out, M.val_take_some HX.out, Nat.mod_eq_of_lt HXL.out, Nat.pow_mul]
      rfl)
     have HL3 := Lib.hid (show (ds ++ es).length = 32 * (k + 1) by rw [List.length_append, HL.out, HE2.out, M.bitsOf_length]; omega)
     clear hcell2
     go_wp2_with fail
     go_roundg (n - (k + 1))
     case measure => have := HG.out; omega
     case rel => exact ⟨k + 1, m2, cp2, B2, ds ++ es, by omega, rfl, by go_num, rfl, HO2.out, HL3.out, HV3.out, HB2.out⟩
  ·obtain rfl : k = n := by omega
   have hv := HV.out
   rw [List.take_of_length_le (by rw [H.out.len]; exact Nat.le_refl _)] at hv
   have HV2 := Lib.hid hv
   have hml : m ≤ 4194304 := by have := HO.out.len; have := HL.out; omega
   clear hv HV
   go_wp2_with fail
   refine (trimB_any _ _ _ _ _ HO.out.rd hml).mono ?_
   rintro e w' ⟨rfl, rfl⟩
   go_wp2_with fail
   go_ret
   exact ⟨B, _, cp, M.trB ds, rfl, HO.out.shortB, M.trB_trB _, by rw [M.bval_trB]; exact HV2.out, HB.out⟩

end Go.Proofs.YtbhgbilhoonopaaGreat

/- litmusref01.Limbs: limbs of bits. -/
namespace Go.Proofs.YtbhgbilhoonopaaGreat
open Go.RowKit
set_option linter.unusedVariables false

namespace M
/-- The first i bits as limbs. -/
structure LbR (bs : List Bool) (i : Nat) (ys : List Nat) : Prop where
 len : ys.length = (i + 31) / 32
 lim : Lim ys
 eq : val ys = bval (bs.take i)

theorem LbR.zero (bs : List Bool) : LbR bs 0 [] := ⟨rfl, Lim.nil, rfl⟩
/-- A new limb. -/
theorem LbR.new {bs : List Bool} {i : Nat} {ys : List Nat} (h : LbR bs i ys) (h0 : i % 32 = 0) : (ys ++ [0]).length = i / 32 + 1 ∧ Lim (ys ++ [0]) ∧ val (ys ++ [0]) = bval (bs.take i) := by
 have := h.len
 refine ⟨by rw [List.length_append, h.len]; simp; omega, h.lim.append (Lim.cons R_pos Lim.nil), ?_⟩
 rw [val_append, h.eq]
 simp [val]
theorem two_pow_split (i : Nat) : 2 ^ i = R ^ (i / 32) * 2 ^ (i % 32) := by
 have : R = 2 ^ 32 := rfl
 rw [this, ← Nat.pow_mul, ← Nat.pow_add]
 congr 1
 omega
theorem val_set_add {ys : List Nat} {k y d : Nat} (hy : ys[k]? = some y) : val (ys.set k (y + d)) = val ys + R ^ k * d := by
 induction ys generalizing k with
 | nil => simp at hy
 | cons x xs ih =>
  cases k with
  | zero =>
   simp at hy
   subst hy
   simp only [List.set_cons_zero, val_cons, Nat.pow_zero, Nat.one_mul]
   omega
  | succ k =>
   simp only [List.set_cons_succ, val_cons]
   rw [ih (by simpa using hy), Nat.mul_add, Nat.pow_succ]
   have : R * (R ^ k * d) = R ^ k * R * d := by rw [← Nat.mul_assoc, Nat.mul_comm R]
   omega
theorem val_ge_limb {ys : List Nat} {k y : Nat} (hy : ys[k]? = some y) : R ^ k * y ≤ val ys := by
 induction ys generalizing k with
 | nil => simp at hy
 | cons x xs ih =>
  cases k with
  | zero =>
   simp at hy
   subst hy
   simp only [val_cons, Nat.pow_zero, Nat.one_mul]
   omega
  | succ k =>
   have := ih (k := k) (by simpa using hy)
   have h2 : R * (R ^ k * y) ≤ R * val xs := Nat.mul_le_mul_left _ this
   rw [Nat.pow_succ, val_cons]
   have h3 : R ^ k * R * y = R * (R ^ k * y) := by rw [← Nat.mul_assoc, Nat.mul_comm R]
   omega
/-- The limb that gets bit i holds only lower bits. -/
theorem limb_small {bs : List Bool} {i : Nat} {ys : List Nat} {y : Nat} (he : val ys = bval (bs.take i)) (hy : ys[i / 32]? = some y) : y < 2 ^ (i % 32) := by
 have h1 := val_ge_limb hy
 have h2 := bval_lt (bs.take i)
 have h3 : 2 ^ (bs.take i).length ≤ 2 ^ i := Nat.pow_le_pow_right (by omega) (by rw [List.length_take]; omega)
 rw [two_pow_split i] at h3
 have hP : 0 < R ^ (i / 32) := Nat.pow_pos R_pos
 exact Nat.lt_of_mul_lt_mul_left (a := R ^ (i / 32)) (by omega)
theorem LbR.one {bs : List Bool} {i : Nat} {ys : List Nat} {y : Nat} (hl : ys.length = i / 32 + 1) (hlim : Lim ys) (he : val ys = bval (bs.take i)) (hb : bs[i]? = some true) (hy : ys[i / 32]? = some y) : LbR bs (i + 1) (ys.set (i / 32) (y + 2 ^ (i % 32))) := by
 have hs := limb_small he hy
 have h32 : 2 ^ (i % 32) * 2 ≤ R := by
  have : 2 ^ (i % 32 + 1) ≤ 2 ^ 32 := Nat.pow_le_pow_right (by omega) (by omega)
  rw [Nat.pow_succ] at this
  exact this
 refine ⟨by rw [List.length_set, hl]; omega, ?_, ?_⟩
 ·intro x hx
  rcases List.mem_or_eq_of_mem_set hx with hx | rfl
  ·exact hlim x hx
  ·omega
 ·rw [val_set_add hy, he, bval_take hb, two_pow_split i]
  simp
theorem LbR.none {bs : List Bool} {i : Nat} {ys : List Nat} (hl : ys.length = i / 32 + 1) (hlim : Lim ys) (he : val ys = bval (bs.take i)) (hb : bs[i]? = some false) : LbR bs (i + 1) ys := by
 refine ⟨by omega, hlim, ?_⟩
 rw [he, bval_take hb]
 simp
theorem LbR.done {bs : List Bool} {ys : List Nat} (h : LbR bs bs.length ys) (ht : trB bs = bs) : ys = lims (bval bs) := by
 have he := h.eq
 rw [List.take_of_length_le (Nat.le_refl _)] at he
 by_cases h0 : bs = []
 ·subst h0
  have : ys = [] := List.eq_nil_of_length_eq_zero (by rw [h.len]; rfl)
  rw [this]
  exact lims_zero.symm
 ·have hge := bval_ge ht h0
  have hpos : 0 < bs.length := List.length_pos_iff.2 h0
  have hlen : ys.length ≤ (lims (bval bs)).length := by
   refine Nat.le_of_not_lt fun hc => ?_
   have h1 : (lims (bval bs)).length ≤ ys.length - 1 := by omega
   rw [lims_length_le, h.len] at h1
   have h2 : R ^ ((bs.length + 31) / 32 - 1) ≤ 2 ^ (bs.length - 1) := by
    have : R = 2 ^ 32 := rfl
    rw [this, ← Nat.pow_mul]
    exact Nat.pow_le_pow_right (by omega) (by omega)
   omega
  have e := tr_eq_lims h.lim
  rw [he] at e
  rw [← e]
  have h3 := tr_prefix ys
  rw [List.take_of_length_le (by rw [e]; exact hlen)] at h3
  exact h3.symm
end M

set_option maxHeartbeats 2000000 in
theorem limbs_any (A : Option Addr) (n c : Nat) (bs : List Bool) (w : World) (h : RdB w A n c bs) (hm : n ≤ 1000000) :
  Calls Tryz.prog 101 #[.slice A n c] w (Gives w (M.lims (M.bval bs))) := by
 have hl := M.trB_length_le bs
 rw [h.len] at hl
 have hs := h.shortB
 rw [← M.bval_trB]
 have ht := M.trB_trB bs
 have H := Lib.hid h
 clear h
 obtain ⟨ts, hts⟩ : ∃ ts, ts = M.trB bs := ⟨_, rfl⟩
 rw [← hts] at hs ht hl ⊢
 obtain ⟨m, hmm⟩ : ∃ m, m = ts.length := ⟨_, rfl⟩
 rw [← hmm] at hs hl
 have HTS := Lib.hid hts
 have HM := Lib.hid hmm
 have HS := Lib.hid hs
 have HT := Lib.hid ht
 clear hts hs ht hmm
 go_enter Tryz.func101, Tryz.ntmps101
 go_wp2_with fail
 refine (trimB_any _ _ _ _ _ H.out (by omega)).mono ?_
 rw [← HTS.out, ← HM.out]
 rintro e w' ⟨rfl, rfl⟩
 clear H HTS
 go_wp2_with fail
 go_loopw [3, 4] (fun v i wr => ∃ (k q cp : Nat) (B : Option Addr) (ys : List Nat), k ≤ m ∧ i = .int .i64 (k : Int) ∧ v = .slice B q cp ∧ Own wr w.heap.size B q cp ys ∧ M.LbR ts k ys ∧ Below w.heap.size w wr) (fun _ i _ => m - (intOf i).toNat)
 case atStart => exact ⟨0, 0, 0, none, [], by omega, rfl, rfl, OwK.nil_ _ _, M.LbR.zero _, Below.refl _ _⟩
 case round =>
  obtain ⟨k, q, cp, B, ys, hk, rfl, rfl, ho, hr, hb⟩ := hrel
  have hql : q ≤ 40000 := by have := ho.len; have := hr.len; omega
  have HO := Lib.hid ho
  have HR := Lib.hid hr
  have HB := Lib.hid hb
  clear ho hr hb
  by_cases hkm : k < m
  ·obtain ⟨b, o, x, hA, hx, hcell⟩ := (HS.out.below HB.out).atB hkm
   subst hA
   have HX := Lib.hid hx
   have HC := Lib.hid (show ∀ w9, Below w.heap.size w w9 → w9.cell? ⟨b, o + k, none⟩ = some (.bool x) by
    intro w9 hb9
    obtain ⟨b9, o9, x9, hA9, hx9, hc9⟩ := (HS.out.below hb9).atB hkm
    injection hA9 with hA9
    injection hA9 with hA9 hA9'
    subst hA9 hA9'
    have := HX.out
    rw [hx9] at this
    injection this with this
    subst this
    exact hc9)
   clear hx
   obtain ⟨d, hd⟩ : ∃ d, d = k / 32 := ⟨_, rfl⟩
   obtain ⟨r, hr⟩ : ∃ r, r = k % 32 := ⟨_, rfl⟩
   obtain ⟨T, hT⟩ : ∃ T, T = 2 ^ r := ⟨_, rfl⟩
   have hr32 : r < 32 := by omega
   have hTl : T ≤ 2147483648 := by
    have : 2 ^ r ≤ 2 ^ 31 := Nat.pow_le_pow_right (by omega) (by omega)
    rw [hT]
    exact this
   have hT2 : (2 : Int) ^ r % 4294967296 = (T : Int) := by
    have e : (2 : Int) ^ r = ((2 ^ r : Nat) : Int) := by simp
    rw [e, ← hT]
    omega
   have hd1 : (k : Int) / 32 = (d : Int) := by omega
   have hr1 : (k : Int) % 32 = (r : Int) := by omega
   have hd2 : (k : Int).tdiv 32 = (d : Int) := by rw [Int.tdiv_eq_ediv_of_nonneg (by omega)]; omega
   have hr2 : (k : Int).tmod 32 = (r : Int) := by rw [Int.tmod_eq_emod_of_nonneg (by omega)]; omega
   have HDD := Lib.hid hd
   have HRR := Lib.hid hr
   have HTT := Lib.hid hT
   clear hd hr hT
   by_cases h0 : r = 0
   ·obtain ⟨hl1, hlim1, hv1⟩ := HR.out.new (by rw [← HRR.out]; exact h0)
    have HL1 := Lib.hid hl1
    have HLIM1 := Lib.hid hlim1
    have HV1 := Lib.hid hv1
    have h0b : ((r : Int) == 0) = true := by simp; omega
    clear hl1 hlim1 hv1
    cases x with
    | false =>
     go_wp2_with (at_builtin; refine app_own kU32 _ rfl _ _ rfl w.heap.size B q cp ys rfl (HO.out.alloc _) _ 1 1 [0] rfl (RdK.one (K := kU32) _ 0 M.R_pos) (by omega) (by have := HB.out.size; simp; omega) ?_; intro A3 c3 w3 ho3 hg3; have hb3 := below_app HB.out HB.out.size HO.out hg3; have hc3 := HC.out w3 hb3; have HO3 := Lib.hid ho3; have HB3 := Lib.hid hb3; clear ho3 hg3 hb3)
     go_roundw
     case rel => exact ⟨k + 1, q + 1, c3, A3, ys ++ [0], by omega, by go_num, rfl, HO3.out, M.LbR.none HL1.out HLIM1.out HV1.out HX.out, HB3.out⟩
     case measure => simp [intOf]; omega
    | true =>
     go_wp2_with (at_builtin; refine app_own kU32 _ rfl _ _ rfl w.heap.size B q cp ys rfl (HO.out.alloc _) _ 1 1 [0] rfl (RdK.one (K := kU32) _ 0 M.R_pos) (by omega) (by have := HB.out.size; simp; omega) ?_; intro A3 c3 w3 ho3 hg3; have hb3 := below_app HB.out HB.out.size HO.out hg3; have hc3 := HC.out w3 hb3; have HO3 := Lib.hid ho3; have HB3 := Lib.hid hb3; clear ho3 hg3 hb3)
     obtain ⟨y, hy⟩ : ∃ y, (ys ++ [0])[d]? = some y := ⟨(ys ++ [0])[d]'(by rw [HL1.out, HDD.out]; omega), List.getElem?_eq_getElem _⟩
     obtain ⟨g, rfl, hg1, hg2⟩ := HO3.out.head (by have h9 := HO3.out.len; rw [HL1.out] at h9; omega)
     have hyd := hy
     rw [HDD.out] at hyd
     have hsm := M.limb_small HV1.out hyd
     rw [← HRR.out, ← HTT.out] at hsm
     have hst := M.LbR.one HL1.out HLIM1.out HV1.out HX.out hyd
     rw [← HDD.out, ← HRR.out, ← HTT.out] at hst
     have c1 := HO3.out.cellAt hy
     have f1 := HO3.out.frozenAt d
     simp only [kU32] at c1
     obtain ⟨z, hz⟩ : ∃ z, z = y + T := ⟨_, rfl⟩
     rw [← hz] at hst
     have hor : bits .or .u32 (y : Int) (T : Int) = (z : Int) := by
      rw [or_u32_nat y T (by omega) (by omega), hz]
      have := Nat.two_pow_add_eq_or_of_lt (i := r) (b := y) (by rw [← HTT.out]; exact hsm) 1
      rw [Nat.mul_one, ← HTT.out] at this
      rw [Nat.or_comm, ← this, Nat.add_comm]
     have hor1 : bits .or .u32 (y : Int) 1 = (z : Int) := by rw [← hor, HTT.out, h0]; rfl
     have hzl : z < M.R := by
      have hm9 : z ∈ (ys ++ [0]).set d z := List.mem_set (show d < (ys ++ [0]).length by rw [HL1.out, HDD.out]; omega) z
      exact hst.lim z hm9
     obtain ⟨ho4, hg4⟩ := HO3.out.set_ d z hzl
     have hdq : d < q + 1 := by have h9 := HO3.out.len; rw [HL1.out, ← HDD.out] at h9; omega
     have HO4 := Lib.hid ho4.drew
     have HB4 := Lib.hid ((HB3.out.setCell (p := ⟨g, d, none⟩) hg1 (.int .u32 (z : Int))).drew)
     have HST := Lib.hid hst
     clear ho4 hg4 hst hy hyd hz hsm hzl
     skip
     go_region
     go_wp2
     go_roundw
     case rel => exact ⟨k + 1, q + 1, _, _, _, by omega, by go_num, rfl, HO4.out, HST.out, HB4.out⟩
     case measure => simp [intOf]; omega
   ·have h0b : ((r : Int) == 0) = false := by simp; omega
    have HL1 := Lib.hid (show ys.length = k / 32 + 1 by have := HR.out.len; have := HRR.out; omega)
    cases x with
    | false =>
     go_wp2
     go_roundw
     case rel => exact ⟨k + 1, q, cp, B, ys, by omega, by go_num, rfl, HO.out, M.LbR.none HL1.out HR.out.lim HR.out.eq HX.out, HB.out⟩
     case measure => simp [intOf]; omega
    | true =>
     obtain ⟨y, hy⟩ : ∃ y, (ys)[d]? = some y := ⟨(ys)[d]'(by rw [HL1.out, HDD.out]; omega), List.getElem?_eq_getElem _⟩
     obtain ⟨g, rfl, hg1, hg2⟩ := HO.out.head (by have h9 := HO.out.len; rw [HL1.out] at h9; omega)
     have hyd := hy
     rw [HDD.out] at hyd
     have hsm := M.limb_small HR.out.eq hyd
     rw [← HRR.out, ← HTT.out] at hsm
     have hst := M.LbR.one HL1.out HR.out.lim HR.out.eq HX.out hyd
     rw [← HDD.out, ← HRR.out, ← HTT.out] at hst
     have c1 := HO.out.cellAt hy
     have f1 := HO.out.frozenAt d
     simp only [kU32] at c1
     obtain ⟨z, hz⟩ : ∃ z, z = y + T := ⟨_, rfl⟩
     rw [← hz] at hst
     have hor : bits .or .u32 (y : Int) (T : Int) = (z : Int) := by
      rw [or_u32_nat y T (by omega) (by omega), hz]
      have := Nat.two_pow_add_eq_or_of_lt (i := r) (b := y) (by rw [← HTT.out]; exact hsm) 1
      rw [Nat.mul_one, ← HTT.out] at this
      rw [Nat.or_comm, ← this, Nat.add_comm]
     have hzl : z < M.R := by
      have hm9 : z ∈ (ys).set d z := List.mem_set (show d < (ys).length by rw [HL1.out, HDD.out]; omega) z
      exact hst.lim z hm9
     obtain ⟨ho4, hg4⟩ := HO.out.set_ d z hzl
     have hdq : d < q := by have h9 := HO.out.len; rw [HL1.out, ← HDD.out] at h9; omega
     have HO4 := Lib.hid ho4.drew
     have HB4 := Lib.hid ((HB.out.setCell (p := ⟨g, d, none⟩) hg1 (.int .u32 (z : Int))).drew)
     have HST := Lib.hid hst
     clear ho4 hg4 hst hy hyd hz hsm hzl
     go_wp2
     go_region
     go_wp2
     go_roundw
     case rel => exact ⟨k + 1, q, _, _, _, by omega, by go_num, rfl, HO4.out, HST.out, HB4.out⟩
     case measure => simp [intOf]; omega
  ·obtain rfl : k = m := by omega
   have hd := HR.out
   rw [HM.out] at hd
   have HD := Lib.hid (hd.done HT.out)
   clear hd
   go_wp2
   go_ret
   rw [← HD.out, Gives_len HO.out.len]
   exact ⟨B, cp, rfl, HO.out, HB.out⟩

end Go.Proofs.YtbhgbilhoonopaaGreat
namespace Go.Proofs.YtbhgbilhoonopaaGreat
open Go.RowKit
set_option linter.unusedVariables false

namespace M
theorem bval_cut (xs : List Bool) (k : Nat) (h : k ≤ xs.length) : bval xs = bval (xs.take k) + 2 ^ k * bval (xs.drop k) := by
 have := bval_append (xs.take k) (xs.drop k)
 rw [List.take_append_drop, List.length_take, Nat.min_eq_left h] at this
 exact this
/-- The highest place where two rows differ tells. -/
theorem bval_differ {es bs : List Bool} {n k : Nat} {x y : Bool} (ha : es.length = n) (hb : bs.length = n) (hd : es.drop (k + 1) = bs.drop (k + 1)) (hx : es[k]? = some x) (hy : bs[k]? = some y) (hne : x ≠ y) : decide (bval es < bval bs) = y := by
 have hk : k < n := by rw [← ha]; exact (List.getElem?_eq_some_iff.1 hx).1
 have e1 := bval_cut es k (by omega)
 have e2 := bval_cut bs k (by omega)
 rw [drop_pred hx, bval_cons] at e1
 rw [drop_pred hy, bval_cons, ← hd] at e2
 have h1 := bval_lt (es.take k)
 have h2 := bval_lt (bs.take k)
 rw [List.length_take, ha, Nat.min_eq_left (by omega)] at h1
 rw [List.length_take, hb, Nat.min_eq_left (by omega)] at h2
 rw [Nat.mul_add] at e1 e2
 cases x <;> cases y
 ·exact absurd rfl hne
 ·rw [decide_eq_true]
  simp at e1 e2
  omega
 ·rw [decide_eq_false]
  simp at e1 e2
  omega
 ·exact absurd rfl hne
end M

theorem OwK.drewNB {w : World} {base : Nat} {A : Option Addr} {n c : Nat} {xs : List Bool} (h : OwB w base A n c xs) (k : Nat) : OwB (w.drewN k) base A n c xs := ⟨⟨h.row.1, h.row.2⟩, h.lim⟩

set_option maxHeartbeats 2000000 in
theorem less_any (A : Option Addr) (n c : Nat) (es : List Bool) (B : Option Addr) (m d : Nat) (bs : List Bool) (w : World) (h : RdB w A n c es) (k : RdB w B m d bs) (hn : n ≤ 1000000) (hm : m ≤ 1000000) :
  Calls Tryz.prog 139 #[.slice A n c, .slice B m d] w fun e w' => e = .returned (.bool (decide (M.bval es < M.bval bs))) ∧ Below w.heap.size w w' := by
 have hl := M.trB_length_le es
 have kl := M.trB_length_le bs
 rw [h.len] at hl
 rw [k.len] at kl
 have hs := h.shortB
 have ks := k.shortB
 rw [← M.bval_trB es, ← M.bval_trB bs]
 have ht := M.trB_trB es
 have kt := M.trB_trB bs
 have H := Lib.hid h
 have K := Lib.hid k
 clear h k
 obtain ⟨ta, hta⟩ : ∃ ta, ta = M.trB es := ⟨_, rfl⟩
 obtain ⟨tb, htb⟩ : ∃ tb, tb = M.trB bs := ⟨_, rfl⟩
 rw [← hta] at hs ht hl ⊢
 rw [← htb] at ks kt kl ⊢
 obtain ⟨na, hna⟩ : ∃ na, na = ta.length := ⟨_, rfl⟩
 obtain ⟨nb, hnb⟩ : ∃ nb, nb = tb.length := ⟨_, rfl⟩
 rw [← hna] at hs hl
 rw [← hnb] at ks kl
 have HTA := Lib.hid hta
 have HTB := Lib.hid htb
 have HNA := Lib.hid hna
 have HNB := Lib.hid hnb
 have HS := Lib.hid hs
 have KS := Lib.hid ks
 have HT := Lib.hid ht
 have KT := Lib.hid kt
 clear hta htb hs ks ht kt hna hnb
 obtain ⟨r, hr⟩ : ∃ r, r = decide (M.bval ta < M.bval tb) := ⟨_, rfl⟩
 rw [← hr]
 have HR := Lib.hid hr
 clear hr
 go_enter Tryz.func139, Tryz.ntmps139
 go_wp2_with fail
 refine (trimB_any _ _ _ _ _ H.out (by omega)).mono ?_
 rw [← HTA.out, ← HNA.out]
 rintro e w' ⟨rfl, rfl⟩
 go_wp2_with fail
 refine (trimB_any _ _ _ _ _ K.out (by omega)).mono ?_
 rw [← HTB.out, ← HNB.out]
 rintro e w' ⟨rfl, rfl⟩
 clear H K HTA HTB
 by_cases hab : na = nb
 ·subst hab
  go_wp2
  go_loopw [5] (fun i wr => ∃ k : Nat, k ≤ na ∧ i = .int .i64 ((k : Int) - 1) ∧ ta.drop k = tb.drop k ∧ Below w.heap.size w wr) (fun i _ => (intOf i + 1).toNat)
  case atStart => exact ⟨na, Nat.le_refl _, rfl, by rw [List.drop_of_length_le (by rw [← HNA.out]; exact Nat.le_refl _), List.drop_of_length_le (by rw [← HNB.out]; exact Nat.le_refl _)], Below.refl _ _⟩
  case round =>
   obtain ⟨k, hk, rfl, hd, hb⟩ := hrel
   have HD := Lib.hid hd
   have HB := Lib.hid hb
   clear hd hb
   by_cases h0 : k = 0
   ·subst h0
    have HE := Lib.hid (show false = r by
     rw [HR.out]
     have := HD.out
     rw [List.drop_zero, List.drop_zero] at this
     rw [this]
     simp)
    go_wp2
    go_ret
    exact ⟨ret_bool HE.out, HB.out⟩
   ·obtain ⟨i, rfl⟩ : ∃ i, k = i + 1 := ⟨k - 1, by omega⟩
    have hji : ((i + 1 : Nat) : Int) - 1 = (i : Int) := by omega
    obtain ⟨b, o, x, hA, hx, hcell⟩ := (HS.out.below HB.out).atB (show i < na by omega)
    obtain ⟨b', o', y, hB, hy, hcell'⟩ := (KS.out.below HB.out).atB (show i < na by omega)
    subst hA hB
    have HX := Lib.hid hx
    have HY := Lib.hid hy
    clear hx hy
    by_cases hxy : x = y
    ·subst hxy
     have HD2 := Lib.hid (show ta.drop i = tb.drop i by rw [M.drop_pred HX.out, M.drop_pred HY.out, HD.out])
     have hsame : (x != x) = false := by simp
     go_wp2
     go_quiet (fail)
     go_wp2
     go_roundw
     case rel => exact ⟨i, by omega, by go_num, HD2.out, below_drewN HB.out _⟩
     case measure => simp [intOf]
    ·have HE := Lib.hid (show y = r by rw [HR.out]; exact (M.bval_differ HNA.out.symm HNB.out.symm HD.out HX.out HY.out hxy).symm)
     have hdr : ∀ j, (wr.drewN j).cell? ⟨b', o' + i, none⟩ = some (.bool y) := fun j => hcell'
     cases x <;> cases y
     ·exact absurd rfl hxy
     ·clear hxy
      go_wp2
      go_quiet (fail)
      go_wp2
      go_ret
      exact ⟨ret_bool HE.out, below_drewN HB.out _⟩
     ·clear hxy
      go_wp2
      go_quiet (fail)
      go_wp2
      go_ret
      exact ⟨ret_bool HE.out, below_drewN HB.out _⟩
     ·exact absurd rfl hxy
 ·by_cases hlt : na < nb
  ·have HE := Lib.hid (show true = r by
    rw [HR.out, decide_eq_true]
    exact M.bval_lt_of_len KT.out (by rw [← HNA.out, ← HNB.out]; exact hlt))
   go_wp2
   go_ret
   exact ⟨ret_bool (by rw [← HE.out]), Below.refl _ _⟩
  ·have HE := Lib.hid (show false = r by
    rw [HR.out, decide_eq_false]
    have := M.bval_lt_of_len (xs := tb) (ys := ta) HT.out (by rw [← HNA.out, ← HNB.out]; omega)
    omega)
   go_wp2
   go_ret
   exact ⟨ret_bool (by rw [← HE.out]), Below.refl _ _⟩

/-- at in a world that has drawn. -/
theorem atB_q {A : Option Addr} {n c : Nat} {bs : List Bool} {w : World} (i k : Nat) (h : RdB w A n c bs) (hm : n ≤ 4194304) :
  Calls Tryz.prog 146 #[.slice A n c, .int .i64 (i : Int)] (w.drewN k) fun e w'' => e = .returned (.bool (bitAt bs i)) ∧ ∃ m, w'' = w.drewN m :=
 (atB_any A n c bs i (w.drewN k) ⟨h.len, h.cap, h.nil, h.lim, h.cells⟩ hm).mono fun _ _ ⟨he, hw⟩ => ⟨he, k, hw.symm⟩

theorem bval_take_at (bs : List Bool) (k : Nat) : M.bval (bs.take (k + 1)) = M.bval (bs.take k) + 2 ^ k * (bitAt bs k).toNat := by
 cases h : bs[k]? with
 | none =>
  have hl : bs.length ≤ k := List.getElem?_eq_none_iff.1 h
  rw [List.take_of_length_le (by omega), List.take_of_length_le hl]
  unfold bitAt
  rw [h]
  simp
 | some x =>
  rw [M.bval_take h]
  unfold bitAt
  rw [h]
  rfl

set_option maxHeartbeats 4000000 in
theorem subB_any (A : Option Addr) (n c : Nat) (es : List Bool) (B : Option Addr) (m d : Nat) (bs : List Bool) (w : World) (h : RdB w A n c es) (k : RdB w B m d bs) (hn : n ≤ 1000000) (hm : m ≤ n) (hle : M.bval bs ≤ M.bval es) :
  Calls Tryz.prog 140 #[.slice A n c, .slice B m d] w (GivesBits w (M.bval es - M.bval bs)) := by
 have H := Lib.hid h
 have K := Lib.hid k
 clear h k
 go_enter Tryz.func140, Tryz.ntmps140
 go_wp2
 go_loopw [5, 6, 7] (fun v q i wr => ∃ (k p cp : Nat) (bo : Bool) (D : Option Addr) (zs : List Bool), k ≤ n ∧ i = .int .i64 (k : Int) ∧ q = .bool bo ∧ v = .slice D p cp ∧ OwB wr w.heap.size D p cp zs ∧ zs.length = k ∧ M.bval (es.take k) + 2 ^ k * bo.toNat = M.bval zs + M.bval (bs.take k) ∧ Below w.heap.size w wr) (fun _ _ i _ => n - (intOf i).toNat)
 case atStart => exact ⟨0, 0, 0, false, none, [], by omega, rfl, rfl, rfl, OwK.nil_ _ _, rfl, rfl, Below.refl _ _⟩
 case round =>
  obtain ⟨k, p, cp, bo, D, zs, hk, rfl, rfl, rfl, ho, hl, hv, hb⟩ := hrel
  have hpk : p ≤ 1000000 := by have := ho.len; omega
  have HO := Lib.hid ho
  have HL := Lib.hid hl
  have HV := Lib.hid hv
  have HB := Lib.hid hb
  clear ho hl hv hb
  by_cases hkn : k < n
  ·obtain ⟨b, o, x, hA, hx, hcell⟩ := (H.out.below HB.out).atB hkn
   subst hA
   have HX := Lib.hid hx
   clear hx
   have hK := K.out.below HB.out
   have HK := Lib.hid hK
   clear hK
   obtain ⟨y, hy⟩ : ∃ y, y = bitAt bs k := ⟨_, rfl⟩
   have HY := Lib.hid hy
   have hstep : ∀ z bo' : Bool, x.toNat + 2 * bo'.toNat = z.toNat + y.toNat + bo.toNat → M.bval (es.take (k + 1)) + 2 ^ (k + 1) * bo'.toNat = M.bval (zs ++ [z]) + M.bval (bs.take (k + 1)) := by
    intro z bo' hz
    rw [M.bval_take HX.out, bval_take_at, ← HY.out]
    exact M.bsub_step (es := es) (bs := bs) HL.out HV.out hz
   have HST := Lib.hid hstep
   have HQ := Lib.hid (show ∀ j, Calls Tryz.prog 146 #[.slice B m d, .int .i64 (k : Int)] (wr.drewN j) fun e w'' => e = .returned (.bool y) ∧ ∃ m, w'' = wr.drewN m from fun j => by rw [hy]; exact atB_q k j HK.out (by omega))
   clear hstep hy
   cases x <;> cases y <;> cases bo
   all_goals
    go_wp2
    go_quiet ((go_at_call 146; exact HQ.out _))
    go_wp2_with (at_builtin; refine app_own kBool _ rfl _ _ rfl w.heap.size D p cp zs rfl (HO.out.drewNB _ |>.alloc _) _ 1 1 [_] rfl (RdK.one (K := kBool) _ _ trivial) (by omega) (by have := HB.out.size; simp; omega) ?_; intro A3 c3 w3 ho3 hg3; have HO3 := Lib.hid ho3; have HG3 := Lib.hid hg3; clear ho3 hg3)
    go_roundw
    case rel => exact ⟨k + 1, p + 1, c3, _, A3, _, by omega, by go_num, rfl, rfl, HO3.out, by simp [HL.out], HST.out _ _ rfl, below_app (below_drewN HB.out _) HB.out.size (HO.out.drewNB _) HG3.out⟩
    case measure => simp [intOf]; omega
  ·obtain rfl : k = n := by omega
   have hv := HV.out
   rw [List.take_of_length_le (by rw [H.out.len]; exact Nat.le_refl _), List.take_of_length_le (by rw [K.out.len]; exact hm)] at hv
   have hzl := M.bval_lt zs
   rw [HL.out] at hzl
   have hfin : M.bval zs = M.bval es - M.bval bs := by
    cases bo with
    | false => simp at hv; omega
    | true =>
     have := M.bval_lt es
     rw [H.out.len] at this
     simp at hv
     omega
   have HF := Lib.hid hfin
   clear hv hzl hfin
   go_wp2_with fail
   refine (trimB_any _ _ _ _ _ HO.out.rd (by omega)).mono ?_
   rintro e w' ⟨rfl, rfl⟩
   go_wp2_with fail
   go_ret
   exact ⟨D, _, cp, M.trB zs, rfl, HO.out.shortB, M.trB_trB _, by rw [M.bval_trB]; exact HF.out, HB.out⟩

end Go.Proofs.YtbhgbilhoonopaaGreat

/- litmusref01.div and Gcd: long division of rows of bits. -/
namespace Go.Proofs.YtbhgbilhoonopaaGreat
open Go.RowKit
set_option linter.unusedVariables false

namespace M
structure DbR (es : List Bool) (V n j : Nat) (qs rs : List Bool) : Prop where
 ql : qs.length = n - j
 tr : trB rs = rs
 lt : bval rs < V
 eq : bval (es.drop j) = bval qs * V + bval rs
theorem DbR.less {es qs rs r1 : List Bool} {V n i : Nat} {x : Bool} (h : DbR es V n (i + 1) qs rs) (hi : i < n) (hx : es[i]? = some x) (ht : trB r1 = r1) (hv : bval r1 = x.toNat + 2 * bval rs) (hl : bval r1 < V) : DbR es V n i (false :: qs) r1 := by
 refine ⟨by rw [List.length_cons, h.ql]; omega, ht, hl, ?_⟩
 rw [drop_pred hx, bval_cons, h.eq, bval_cons, hv, Nat.mul_add]
 have : (false.toNat + 2 * bval qs) * V = 2 * (bval qs * V) := by simp [Nat.mul_assoc]
 omega
theorem DbR.more {es qs rs r1 r2 : List Bool} {V n i : Nat} {x : Bool} (h : DbR es V n (i + 1) qs rs) (hi : i < n) (hx : es[i]? = some x) (ht : trB r2 = r2) (hv : bval r1 = x.toNat + 2 * bval rs) (hl : ¬ bval r1 < V) (hv2 : bval r2 = bval r1 - V) : DbR es V n i (true :: qs) r2 := by
 have hb := Bool.toNat_lt x
 have hlt := h.lt
 refine ⟨by rw [List.length_cons, h.ql]; omega, ht, by omega, ?_⟩
 rw [drop_pred hx, bval_cons, h.eq, bval_cons, hv2, hv, Nat.mul_add]
 have : (true.toNat + 2 * bval qs) * V = V + 2 * (bval qs * V) := by simp [Nat.add_mul, Nat.mul_assoc]
 omega
end M

theorem set_repB (j : Nat) (qs : List Bool) (q : Bool) : (List.replicate (j + 1) false ++ qs).set j q = List.replicate j false ++ q :: qs := by
 rw [List.replicate_succ', List.append_assoc, List.set_append, if_neg (by simp)]
 simp

def GivesDiv (w : World) (x y : Nat) (e : Ending) (w' : World) : Prop :=
 ∃ A n c qs B m d rs, e = .returned (.tuple #[.slice A n c, .slice B m d]) ∧ RdB w' A n c qs ∧ M.trB qs = qs ∧ M.bval qs = x ∧ RdB w' B m d rs ∧ M.trB rs = rs ∧ M.bval rs = y ∧ Below w.heap.size w w'

/-- The loop's state in the world. -/
structure DB (w wr : World) (n : Nat) (es : List Bool) (V j : Nat) (R : Option Addr) (p cp : Nat) (qs rs : List Bool) : Prop where
 math : M.DbR es V n j qs rs
 rd : RdB wr R p cp rs
 apart : ∀ q, R = some q → w.heap.size < q.block
 own : OwB wr w.heap.size (some ⟨w.heap.size, 0, none⟩) n n (List.replicate j false ++ qs)
 below : Below w.heap.size w wr

set_option maxHeartbeats 4000000 in
theorem divB_any (A : Option Addr) (n c : Nat) (es : List Bool) (B : Option Addr) (m d : Nat) (bs : List Bool) (w : World) (h : RdB w A n c es) (k : RdB w B m d bs) (hn : n ≤ 1000000) (hm : m ≤ 900000) (ht : M.trB bs = bs) (hV : 0 < M.bval bs) :
  Calls Tryz.prog 120 #[.slice A n c, .slice B m d] w (GivesDiv w (M.bval es / M.bval bs) (M.bval es % M.bval bs)) := by
 obtain ⟨V, hVe⟩ : ∃ V, V = M.bval bs := ⟨_, rfl⟩
 rw [← hVe] at hV ⊢
 have H := Lib.hid h
 have K := Lib.hid k
 have HT := Lib.hid ht
 have HV := Lib.hid hVe
 have HVP := Lib.hid hV
 clear h k ht hVe hV
 go_enter Tryz.func120, Tryz.ntmps120
 go_wp2_with (at_make; refine make_full kBool _ rfl _ _ rfl .i64 .i64 _ _ n rfl rfl (by omega) (by omega) (by omega) trivial ?_; intro w1 ho1 hb1; have HO1 := Lib.hid ho1; have HB1 := Lib.hid hb1; clear ho1 hb1)
 go_loopw [7, 8] (fun v i wr => ∃ (j p cp : Nat) (R : Option Addr) (qs rs : List Bool), j ≤ n ∧ i = .int .i64 ((j : Int) - 1) ∧ v = .slice R p cp ∧ DB w wr n es V j R p cp qs rs) (fun _ i _ => (intOf i + 1).toNat)
 case atStart =>
  refine ⟨n, 0, 0, none, [], [], Nat.le_refl _, rfl, rfl, ⟨⟨by simp, rfl, HVP.out, ?_⟩, RdK.empty _ _ _ (fun _ => rfl), (fun _ h => by cases h), ?_, HB1.out⟩⟩
  ·rw [List.drop_of_length_le (by rw [H.out.len]; exact Nat.le_refl _)]
   simp [M.bval]
  ·rw [List.append_nil]
   exact HO1.out
 case round =>
  obtain ⟨j, p, cp, R, qs, rs, hj, rfl, rfl, hdb⟩ := hrel
  have HD := Lib.hid hdb
  clear hdb
  have hpm : p ≤ m := by
   have h1 := M.bval_len HD.out.math.tr (k := m) (Nat.lt_trans HD.out.math.lt (by rw [HV.out, ← K.out.len]; exact M.bval_lt bs))
   rw [HD.out.rd.len] at h1
   exact h1
  by_cases h0 : j = 0
  ·subst h0
   have hfin := HD.out.math.eq
   rw [List.drop_zero] at hfin
   have hq : M.bval qs = M.bval es / V ∧ M.bval rs = M.bval es % V := by
    have hlt := HD.out.math.lt
    rw [hfin]
    constructor
    ·rw [Nat.add_comm, Nat.mul_comm, Nat.add_mul_div_left _ _ HVP.out, Nat.div_eq_of_lt hlt, Nat.zero_add]
    ·rw [Nat.add_comm, Nat.mul_comm, Nat.add_mul_mod_self_left, Nat.mod_eq_of_lt hlt]
   have ho := HD.out.own
   rw [List.replicate_zero, List.nil_append] at ho
   have HO := Lib.hid ho
   have HQ := Lib.hid hq
   clear ho hq hfin
   go_wp2_with fail
   refine (trimB_any _ _ _ _ _ HO.out.rd (by omega)).mono ?_
   rintro e w' ⟨rfl, rfl⟩
   go_wp2_with fail
   go_ret2
   exact ⟨_, _, _, M.trB qs, R, p, cp, rs, rfl, HO.out.rd.shortB, M.trB_trB _, by rw [M.bval_trB]; exact HQ.out.1, HD.out.rd, HD.out.math.tr, HQ.out.2, HD.out.below⟩
  ·obtain ⟨i, rfl⟩ : ∃ i, j = i + 1 := ⟨j - 1, by omega⟩
   have hji : ((i + 1 : Nat) : Int) - 1 = (i : Int) := by omega
   obtain ⟨b, o, x, hA, hx, hcell⟩ := (H.out.below HD.out.below).atB (show i < n by omega)
   subst hA
   have HX := Lib.hid hx
   have hown : OwB (wr.alloc (.cells #[.bool x] 4)) wr.heap.size (some ⟨wr.heap.size, 0, none⟩) 1 1 [x] := ⟨World.ownsRow_lit wr #[.bool x] 1 (Nat.le_refl _) (by unfold maxLen; omega) rfl, fun _ _ => trivial⟩
   have HW := Lib.hid hown
   clear hx hown
   go_wp2_with (at_builtin; refine app_own kBool _ rfl _ _ rfl wr.heap.size _ 1 1 [x] rfl HW.out R p cp rs rfl (HD.out.rd.alloc _) (by omega) (by simp) ?_; intro A3 c3 w3 ho3 hg3; have HO3 := Lib.hid ho3; have HB3 := Lib.hid (((Below.refl wr.heap.size wr).alloc (Nat.le_refl _) (.cells #[.bool x] 4)).grown hg3 (by simp) (fun k hk => by cases hk; exact Nat.le_refl _)); clear ho3 hg3)
   have hgq : w.heap.size < wr.heap.size := (HD.out.own.lt rfl).2
   obtain ⟨r1, hr1⟩ : ∃ r1, r1 = M.trB ([x] ++ rs) := ⟨_, rfl⟩
   obtain ⟨n1, hn1⟩ : ∃ n1, n1 = r1.length := ⟨_, rfl⟩
   have ht1 : M.trB r1 = r1 := by rw [hr1, M.trB_trB]
   have hv1 : M.bval r1 = x.toNat + 2 * M.bval rs := by rw [hr1, M.bval_trB]; rfl
   have hn1l : n1 ≤ 1 + m := by
    have h1 := M.trB_length_le ([x] ++ rs)
    rw [← hr1, List.length_append, HD.out.rd.len] at h1
    simp at h1
    omega
   have ho4 := HO3.out.shortB
   rw [← hr1, ← hn1] at ho4
   have HR1 := Lib.hid hr1
   have HN1 := Lib.hid hn1
   have HT1 := Lib.hid ht1
   have HV1 := Lib.hid hv1
   have HO4 := Lib.hid ho4
   clear hr1 hn1 ht1 hv1 ho4 hcell
   refine (trimB_any _ _ _ _ _ HO3.out.rd (by omega)).mono ?_
   rw [← HR1.out, ← HN1.out]
   rintro e w' ⟨rfl, rfl⟩
   go_wp2_with fail
   have hKB := Lib.hid ((K.out.below HD.out.below).below HB3.out)
   refine (less_any _ _ _ _ _ _ _ _ _ HO4.out.rd hKB.out (by omega) (by omega)).mono ?_
   rw [← HV.out]
   rintro e w5 ⟨rfl, hb5⟩
   have hb35 := bl_trans HB3.out hb5
   have HO5 := Lib.hid (HO4.out.below hb5)
   have HK5 := Lib.hid (hKB.out.below hb5)
   have HQ5 := Lib.hid (HD.out.own.below hb35)
   have HB5 := Lib.hid hb35
   clear hb5 hb35 HO4 hKB HO3 HB3 HW
   by_cases hlt : M.bval r1 < V
   ·have hdl : decide (M.bval r1 < V) = true := decide_eq_true hlt
    have HST := Lib.hid (HD.out.math.less (by omega) HX.out HT1.out HV1.out hlt)
    rw [hdl]
    clear hdl hlt
    go_wp2
    go_roundw
    case rel =>
     refine ⟨i, n1, c3, A3, false :: qs, r1, by omega, by go_num, rfl, ⟨HST.out, HO5.out.rd, fun q hq => by have := (HO5.out.lt hq).1; omega, ?_, ?_⟩⟩
     ·have := HQ5.out
      rw [List.replicate_succ', List.append_assoc] at this
      exact this
     ·exact HD.out.below.trans (HB5.out.mono HD.out.below.size)
    case measure => simp [intOf]
   ·have hdl : decide (M.bval r1 < V) = false := decide_eq_false hlt
    have HLT := Lib.hid hlt
    rw [hdl]
    clear hdl hlt
    go_wp2_with fail
    refine (subB_any _ _ _ _ _ _ _ _ _ HO5.out.rd HK5.out (by omega) ?_ (by rw [← HV.out]; have := HLT.out; omega)).mono ?_
    ·refine Nat.le_of_not_lt fun hc => ?_
     have h9 := M.bval_lt_of_len (xs := r1) (ys := bs) HT.out (by rw [← HN1.out, K.out.len]; exact hc)
     rw [← HV.out] at h9
     exact HLT.out h9
    rw [← HV.out]
    rintro e w6 ⟨A6, n6, c6, r6, rfl, o6, t6, v6, b6⟩
    have HST := Lib.hid (HD.out.math.more (by omega) HX.out t6 HV1.out HLT.out v6)
    have hQ6 := HQ5.out.below b6
    have hcq := hQ6.cellAt (j := i) (x := false) (by rw [List.getElem?_append_left (by simp), List.getElem?_replicate, if_pos (by omega)])
    have hfq := hQ6.frozenAt i
    simp only [kBool] at hcq
    obtain ⟨q1, q2⟩ := hQ6.set_ i true trivial
    rw [set_repB] at q1
    have hap : ∀ q, A6 = some q → w.heap.size < q.block := fun q hq => by have := (o6.lt hq).1; have := HB5.out.size; omega
    have hrd := o6.rd.grown q2 (fun q hq _ e => by have := hap q hq; injection e with e; omega)
    have hbb := (HD.out.below.trans (HB5.out.mono HD.out.below.size)).trans (b6.mono (by have := HB5.out.size; omega))
    have HQ7 := Lib.hid q1
    have HRD := Lib.hid hrd
    have HAP := Lib.hid hap
    have HBB := Lib.hid (hbb.setCell (p := ⟨w.heap.size, i, none⟩) (Nat.le_refl _) (.bool true))
    clear q1 q2 hrd hap hbb hQ6 o6 t6 v6 b6
    have hin : i < n := by omega
    go_wp2
    go_roundw
    case rel => exact ⟨i, n6, c6, A6, true :: qs, r6, by omega, by go_num, rfl, ⟨HST.out, HRD.out, HAP.out, HQ7.out, HBB.out⟩⟩
    case measure => simp [intOf]

/-- The loop of Gcd. -/
def GcB (w : World) (G k : Nat) (p q : Value) (wr : World) : Prop :=
 ∃ A n c xs B m d ys, p = .slice A n c ∧ q = .slice B m d ∧ RdB wr A n c xs ∧ RdB wr B m d ys ∧ M.trB ys = ys ∧ M.bval ys = k ∧ Nat.gcd (M.bval xs) k = G ∧ n ≤ 1000000 ∧ m ≤ 900000 ∧ Below w.heap.size w wr

set_option maxHeartbeats 2000000 in
theorem gcdB_any (A : Option Addr) (n c : Nat) (xs : List Nat) (B : Option Addr) (m d : Nat) (ys : List Nat) (w : World) (h : Rd w A n c xs) (k : Rd w B m d ys) (hn : n ≤ 1000) (hm : m ≤ 1000) :
  Calls Tryz.prog 88 #[.slice A n c, .slice B m d] w (Gives w (M.lims (Nat.gcd (M.val xs) (M.val ys)))) := by
 have hx := M.val_lt h.Lim
 have hy := M.val_lt k.Lim
 rw [h.len] at hx
 rw [k.len] at hy
 have h2 : ∀ j, M.R ^ j = 2 ^ (32 * j) := fun j => by rw [Nat.pow_mul]; rfl
 rw [h2] at hx hy
 obtain ⟨G, hG⟩ : ∃ G, G = Nat.gcd (M.val xs) (M.val ys) := ⟨_, rfl⟩
 rw [← hG]
 have H := Lib.hid h
 have K := Lib.hid k
 have HG := Lib.hid hG
 have HX := Lib.hid hx
 have HY := Lib.hid hy
 clear h k hG h2 hx hy
 go_enter Tryz.func88, Tryz.ntmps88
 go_wp2_with fail
 refine (bits_any _ _ _ _ _ H.out (by omega)).mono ?_
 rintro e w1 ⟨A1, n1, c1, as1, rfl, o1, t1, v1, b1⟩
 have hl1 := M.bval_len t1 (by rw [v1]; exact HX.out)
 rw [o1.len] at hl1
 have HO1 := Lib.hid o1
 have HV1 := Lib.hid v1
 have HB1 := Lib.hid b1
 clear o1 t1 v1 b1
 go_wp2_with fail
 refine (bits_any _ _ _ _ _ (K.out.below HB1.out) (by omega)).mono ?_
 rintro e w2 ⟨A2, n2, c2, as2, rfl, o2, t2, v2, b2⟩
 have hl2 := M.bval_len t2 (by rw [v2]; exact HY.out)
 rw [o2.len] at hl2
 have HR := Lib.hid (show GcB w G (M.val ys) (.slice A1 n1 c1) (.slice A2 n2 c2) w2 from
  ⟨A1, n1, c1, as1, A2, n2, c2, as2, rfl, rfl, HO1.out.rd.below b2, o2.rd, t2, v2, by rw [HV1.out]; exact HG.out.symm, by omega, by omega, bl_trans HB1.out b2⟩)
 clear o2 t2 v2 b2 HO1 HV1 HB1 H K HX HY HG hl1 hl2
 go_wp2_with fail
 go_loopg [5, 6] (M.val ys) (fun k p q wr => GcB w G k p q wr)
 case atStart => exact HR.out
 case round =>
  obtain ⟨A3, n3, c3, x3, B3, m3, d3, y3, rfl, rfl, r1, r2, t3, v3, hg, hn3, hm3, hb⟩ := hrel
  have HR1 := Lib.hid r1
  have HR2 := Lib.hid r2
  have HT := Lib.hid t3
  have HV := Lib.hid v3
  have HG := Lib.hid hg
  have HB := Lib.hid hb
  clear r1 r2 t3 v3 hg hb HR
  by_cases h0 : m3 = 0
  ·have hk0 : gk = 0 := by
    rw [← HV.out]
    exact (M.bval_zero HT.out).1 (by rw [HR2.out.len]; exact h0)
   have HE := Lib.hid (show M.bval x3 = G by rw [← HG.out, hk0, Nat.gcd_zero_right])
   clear hk0
   subst h0
   go_wp2_with fail
   refine (limbs_any _ _ _ _ _ HR1.out hn3).mono ?_
   rw [HE.out]
   rintro e w4 ⟨A4, c4, rfl, o4, b4⟩
   go_wp2_with fail
   go_ret
   exact ⟨A4, c4, rfl, o4.mono HB.out.size, bl_trans HB.out b4⟩
  ·have hkp : 0 < M.bval y3 := by
    refine Nat.pos_of_ne_zero fun hc => h0 ?_
    rw [← HR2.out.len]
    exact (M.bval_zero HT.out).2 hc
   have hpos : 0 < m3 := by omega
   have HKP := Lib.hid hkp
   clear hkp
   go_wp2_with fail
   refine (divB_any _ _ _ _ _ _ _ _ _ HR1.out HR2.out hn3 hm3 HT.out HKP.out).mono ?_
   rintro e w4 ⟨A4, n4, c4, q4, B4, m4, d4, r4, rfl, s1, s2, s3, s4, s5, s6, b4⟩
   have hmod : M.bval x3 % M.bval y3 < gk := by rw [← HV.out]; exact Nat.mod_lt _ HKP.out
   have hm4 : m4 ≤ 900000 := by
    have h1 := M.bval_len s5 (k := m3) (by rw [s6]; exact Nat.lt_trans (Nat.mod_lt _ HKP.out) (by rw [← HR2.out.len]; exact M.bval_lt y3))
    rw [s4.len] at h1
    omega
   have HR := Lib.hid (show GcB w G (M.bval x3 % M.bval y3) (.slice B3 m3 d3) (.slice B4 m4 d4) w4 from
    ⟨B3, m3, d3, y3, B4, m4, d4, r4, rfl, rfl, HR2.out.below b4, s4, s5, s6, by rw [← HG.out, ← HV.out, Nat.gcd_comm (M.bval y3), ← Nat.gcd_rec (M.bval y3), Nat.gcd_comm], by omega, hm4, bl_trans HB.out b4⟩)
   clear s1 s2 s3 s4 s5 s6 b4 hm4
   go_wp2_with fail
   go_roundg (M.bval x3 % M.bval y3)
   case measure => exact hmod
   case rel => exact HR.out

end Go.Proofs.YtbhgbilhoonopaaGreat

/- litmusref01 in numbers alone. -/
namespace Go.Proofs.YtbhgbilhoonopaaGreat
open Go.RowKit
set_option linter.unusedVariables false

section
variable {w w' : World} {A B : Option Addr} {n c m d v x y k j : Nat}
theorem gcdRN (h : Nm w A n c x k) (g : Nm w B m d y j) (hk : k ≤ 1000) (hj : j ≤ 1000) : Calls Tryz.prog 88 #[.slice A n c, .slice B m d] w (GivN w (Nat.gcd x y) (max k j)) := by
 have h1 := h.lt
 have g1 := g.lt
 have hl := h.le
 have gl := g.le
 obtain ⟨xs, hx, rfl⟩ := h.row
 obtain ⟨ys, hy, rfl⟩ := g.row
 exact (gcdB_any _ _ _ _ _ _ _ _ _ hx hy (by omega) (by omega)).mono fun e w' r => givN (gcd_lt_pow h1 g1) r
end

end Go.Proofs.YtbhgbilhoonopaaGreat
namespace Go.Proofs.YtbhgbilhoonopaaGreat
open Go.RowKit
set_option linter.unusedVariables false

theorem M.badd_step {zs : List Bool} {k : Nat} {x y z ca ca' : Bool} {A B : Nat} (hl : zs.length = k) (h : A + B = M.bval zs + 2 ^ k * ca.toNat) (hz : x.toNat + y.toNat + ca.toNat = z.toNat + 2 * ca'.toNat) :
  A + 2 ^ k * x.toNat + (B + 2 ^ k * y.toNat) = M.bval (zs ++ [z]) + 2 ^ (k + 1) * ca'.toNat := by
 rw [M.bval_append, M.bval_one, hl, Nat.pow_succ]
 have e1 : 2 ^ k * (x.toNat + y.toNat + ca.toNat) = 2 ^ k * (z.toNat + 2 * ca'.toNat) := by rw [hz]
 have e2 : 2 ^ k * (x.toNat + y.toNat + ca.toNat) = 2 ^ k * x.toNat + 2 ^ k * y.toNat + 2 ^ k * ca.toNat := by rw [Nat.mul_add, Nat.mul_add]
 have e3 : 2 ^ k * (z.toNat + 2 * ca'.toNat) = 2 ^ k * z.toNat + 2 ^ k * 2 * ca'.toNat := by rw [Nat.mul_add, Nat.mul_assoc]
 omega
theorem bitAt_out {bs : List Bool} {k : Nat} (h : bs.length ≤ k) : bitAt bs k = false := by unfold bitAt; rw [List.getElem?_eq_none h]; rfl

/-- A new row of bits of this number, of so many at most; there may be highest zeros. -/
def GivesAdd (w : World) (k v : Nat) (e : Ending) (w' : World) : Prop := ∃ C p q zs, e = .returned (.slice C p q) ∧ OwB w' w.heap.size C p q zs ∧ p ≤ k ∧ M.bval zs = v ∧ Below w.heap.size w w'

set_option maxHeartbeats 8000000 in
theorem addB_any (A : Option Addr) (n c : Nat) (es : List Bool) (B : Option Addr) (m d : Nat) (bs : List Bool) (w : World) (h : RdB w A n c es) (k : RdB w B m d bs) (hn : n ≤ 1000000) (hm : m ≤ 1000000) :
  Calls Tryz.prog 121 #[.slice A n c, .slice B m d] w (GivesAdd w (max n m + 1) (M.bval es + M.bval bs)) := by
 have H := Lib.hid h
 have K := Lib.hid k
 clear h k
 obtain ⟨mx, hmx⟩ : ∃ mx, mx = max n m := ⟨_, rfl⟩
 rw [← hmx]
 have hmn : n ≤ mx := by omega
 have hmm : m ≤ mx := by omega
 have hmxl : mx ≤ 1000000 := by omega
 clear hmx
 go_enter Tryz.func121, Tryz.ntmps121
 go_wp2
 go_loopw [5, 6, 7] (fun v q i wr => ∃ (k p cp : Nat) (ca : Bool) (D : Option Addr) (zs : List Bool), k ≤ mx + 1 ∧ (mx < k → ca = false) ∧ i = .int .i64 (k : Int) ∧ q = .bool ca ∧ v = .slice D p cp ∧ OwB wr w.heap.size D p cp zs ∧ zs.length = k ∧ M.bval (es.take k) + M.bval (bs.take k) = M.bval zs + 2 ^ k * ca.toNat ∧ Below w.heap.size w wr) (fun _ _ i _ => mx + 1 - (intOf i).toNat)
 case atStart => exact ⟨0, 0, 0, false, none, [], by omega, fun _ => rfl, rfl, rfl, rfl, OwK.nil_ _ _, rfl, rfl, Below.refl _ _⟩
 case round =>
  obtain ⟨k, p, cp, ca, D, zs, hk, hfa, rfl, rfl, rfl, ho, hl, hv, hb⟩ := hrel
  have hpk : p ≤ 1000001 := by have := ho.len; omega
  have HFA := Lib.hid hfa
  have HO := Lib.hid ho
  have HL := Lib.hid hl
  have HV := Lib.hid hv
  have HB := Lib.hid hb
  have HRA := Lib.hid (H.out.below hb)
  have HRB := Lib.hid (K.out.below hb)
  clear ho hl hv hb hfa
  obtain ⟨x, hx⟩ : ∃ x, x = bitAt es k := ⟨_, rfl⟩
  obtain ⟨y, hy⟩ : ∃ y, y = bitAt bs k := ⟨_, rfl⟩
  have HQA := Lib.hid (show Calls Tryz.prog 146 #[.slice A n c, .int .i64 (k : Int)] wr fun e w' => e = .returned (.bool x) ∧ wr = w' by rw [hx]; exact atB_any _ _ _ _ _ _ HRA.out (by omega))
  have HQB := Lib.hid (show Calls Tryz.prog 146 #[.slice B m d, .int .i64 (k : Int)] wr fun e w' => e = .returned (.bool y) ∧ wr = w' by rw [hy]; exact atB_any _ _ _ _ _ _ HRB.out (by omega))
  have HST := Lib.hid (show ∀ z ca' : Bool, x.toNat + y.toNat + ca.toNat = z.toNat + 2 * ca'.toNat → M.bval (es.take (k + 1)) + M.bval (bs.take (k + 1)) = M.bval (zs ++ [z]) + 2 ^ (k + 1) * ca'.toNat by
   intro z ca' hz
   rw [bval_take_at, bval_take_at, ← hx, ← hy]
   exact M.badd_step HL.out HV.out hz)
  have HXO := Lib.hid (show n ≤ k → x = false from fun h9 => by rw [hx]; exact bitAt_out (by rw [H.out.len]; exact h9))
  have HYO := Lib.hid (show m ≤ k → y = false from fun h9 => by rw [hy]; exact bitAt_out (by rw [K.out.len]; exact h9))
  clear hx hy
  have step : (k < n ∨ k < m ∨ ca = true) → k < mx + 1 := by
   intro h9
   rcases h9 with h9 | h9 | h9
   ·omega
   ·omega
   ·refine Nat.lt_of_not_le fun hc => ?_
    have := HFA.out (by omega)
    rw [this] at h9
    cases h9
  have HSTEP := Lib.hid step
  clear step
  by_cases hgo : k < n ∨ k < m ∨ ca = true
  ·have hkx := HSTEP.out hgo
   by_cases hkn : k < n <;> by_cases hkm : k < m <;> cases ca <;> first | (exfalso; simp at hgo; omega) | skip
   all_goals
    clear hgo
    go_wp2_with fail
    refine (HQA.out).mono ?_
    rintro e w' ⟨rfl, rfl⟩
    go_wp2_with fail
    refine (HQB.out).mono ?_
    rintro e w' ⟨rfl, rfl⟩
    cases x <;> cases y
    all_goals
     go_wp2_with (at_builtin; refine app_own kBool _ rfl _ _ rfl w.heap.size D p cp zs rfl (HO.out.alloc _) _ 1 1 [_] rfl (RdK.one (K := kBool) _ _ trivial) (by omega) (by have := HB.out.size; simp; omega) ?_; intro A3 c3 w3 ho3 hg3; have HO3 := Lib.hid ho3; have HG3 := Lib.hid hg3; clear ho3 hg3)
     go_roundw
     case rel => exact ⟨k + 1, p + 1, c3, _, A3, _, by omega, fun h9 => (by first | rfl | (have h8 := HXO.out (by omega); exact absurd h8 (by decide)) | (have h8 := HYO.out (by omega); exact absurd h8 (by decide))), by go_num, rfl, rfl, HO3.out, by simp [HL.out], HST.out _ _ rfl, below_app HB.out HB.out.size HO.out HG3.out⟩
     case measure => simp [intOf]; omega
  ·obtain ⟨h1, h2⟩ : ¬ k < n ∧ ¬ k < m := ⟨fun h9 => hgo (.inl h9), fun h9 => hgo (.inr (.inl h9))⟩
   obtain rfl : ca = false := by cases ca with
    | false => rfl
    | true => exact absurd (.inr (.inr rfl)) hgo
   have hv := HV.out
   rw [List.take_of_length_le (by rw [H.out.len]; omega), List.take_of_length_le (by rw [K.out.len]; omega)] at hv
   have HF := Lib.hid (show M.bval zs = M.bval es + M.bval bs by simp at hv; omega)
   have hpm : p ≤ mx + 1 := by have := HO.out.len; have := HL.out; omega
   clear hv hgo
   go_wp2
   go_ret
   exact ⟨D, p, cp, zs, rfl, HO.out, hpm, HF.out, HB.out⟩

end Go.Proofs.YtbhgbilhoonopaaGreat

/- litmusref01.mul: rows of bits are multiplied: how many pairs meet at each place, and what is carried. -/
namespace Go.Proofs.YtbhgbilhoonopaaGreat
open Go.RowKit
set_option linter.unusedVariables false

def kInt : Kd Nat := ⟨fun x => .int .i64 (x : Int), fun x => x ≤ 2000000, 3, 134, 0, 8, fun _ => rfl, Tryz.underlying134, by kernel_rfl, rfl, by decide⟩

namespace M
/-- Counts at the places of bits. -/
def cval : List Nat → Nat
 | [] => 0
 | x :: xs => x + 2 * cval xs
theorem cval_replicate (n : Nat) : cval (List.replicate n 0) = 0 := by
 induction n with
 | zero => rfl
 | succ n ih => rw [List.replicate_succ, cval, ih]
theorem cval_set {ns : List Nat} {k x : Nat} (h : ns[k]? = some x) : cval (ns.set k (x + 1)) = cval ns + 2 ^ k := by
 induction ns generalizing k with
 | nil => simp at h
 | cons y ys ih =>
  cases k with
  | zero =>
   simp at h
   subst h
   simp only [List.set_cons_zero, cval, Nat.pow_zero]
   omega
  | succ k =>
   simp only [List.set_cons_succ, cval]
   rw [ih (by simpa using h), Nat.pow_succ]
   omega
theorem cval_append (xs ys : List Nat) : cval (xs ++ ys) = cval xs + 2 ^ xs.length * cval ys := by
 induction xs with
 | nil => simp [cval]
 | cons x xs ih =>
  rw [List.cons_append, cval, ih, cval, List.length_cons, Nat.pow_succ]
  have : 2 ^ xs.length * 2 * cval ys = 2 * (2 ^ xs.length * cval ys) := by rw [Nat.mul_comm (2 ^ xs.length), Nat.mul_assoc]
  omega
theorem cval_take {xs : List Nat} {k x : Nat} (h : xs[k]? = some x) : cval (xs.take (k + 1)) = cval (xs.take k) + 2 ^ k * x := by
 have hk : k < xs.length := (List.getElem?_eq_some_iff.1 h).1
 rw [take_snoc h, cval_append, List.length_take, Nat.min_eq_left (by omega)]
 simp [cval]

/-- The counts when i bits of the one, and k of the other at the next, have met. -/
structure CnR (es bs : List Bool) (i k : Nat) (ns : List Nat) : Prop where
 len : ns.length = es.length + bs.length
 eq : cval ns = bval (es.take i) * bval bs + 2 ^ i * bval (bs.take k)
 lo : ∀ (j x : Nat), ns[j]? = some x → x ≤ i + 1
 hi : ∀ (j x : Nat), ns[j]? = some x → i + k ≤ j → x ≤ i
theorem CnR.start (es bs : List Bool) : CnR es bs 0 0 (List.replicate (es.length + bs.length) 0) := by
 refine ⟨by simp, by rw [cval_replicate]; simp [bval], fun j x h => ?_, fun j x h _ => ?_⟩
 ·rw [List.getElem?_replicate] at h
  split at h
  ·cases h; omega
  ·cases h
 ·rw [List.getElem?_replicate] at h
  split at h
  ·cases h; omega
  ·cases h
theorem CnR.yes {es bs : List Bool} {i k x : Nat} {ns : List Nat} (h : CnR es bs i k ns) (hb : bs[k]? = some true) (hx : ns[i + k]? = some x) : CnR es bs i (k + 1) (ns.set (i + k) (x + 1)) := by
 have hxi := h.hi _ _ hx (Nat.le_refl _)
 refine ⟨by rw [List.length_set]; exact h.len, ?_, fun j y hy => ?_, fun j y hy hj => ?_⟩
 ·rw [cval_set hx, h.eq, bval_take hb, Nat.mul_add, Nat.pow_add]
  simp
  omega
 ·rw [List.getElem?_set] at hy
  split at hy
  ·split at hy
   ·cases hy; omega
   ·cases hy
  ·exact h.lo j y hy
 ·rw [List.getElem?_set, if_neg (by omega)] at hy
  exact h.hi j y hy (by omega)
theorem CnR.no {es bs : List Bool} {i k : Nat} {ns : List Nat} (h : CnR es bs i k ns) (hb : bs[k]? = some false) : CnR es bs i (k + 1) ns := by
 refine ⟨h.len, ?_, h.lo, fun j y hy hj => h.hi j y hy (by omega)⟩
 rw [h.eq, bval_take hb]
 simp
theorem CnR.next {es bs : List Bool} {i : Nat} {ns : List Nat} (h : CnR es bs i bs.length ns) (he : es[i]? = some true) : CnR es bs (i + 1) 0 ns := by
 refine ⟨h.len, ?_, fun j y hy => Nat.le_succ_of_le (h.lo j y hy), fun j y hy _ => h.lo j y hy⟩
 rw [h.eq, bval_take he, List.take_of_length_le (Nat.le_refl _), Nat.add_mul]
 simp [bval]
theorem CnR.skip {es bs : List Bool} {i : Nat} {ns : List Nat} (h : CnR es bs i 0 ns) (he : es[i]? = some false) : CnR es bs (i + 1) 0 ns := by
 refine ⟨h.len, ?_, fun j y hy => Nat.le_succ_of_le (h.lo j y hy), fun j y hy _ => h.lo j y hy⟩
 rw [h.eq, bval_take he]
 simp [bval]
theorem carry_step {zs : List Bool} {k ca x C : Nat} (hl : zs.length = k) (h : bval zs + 2 ^ k * ca = C) : bval (zs ++ [decide ((ca + x) % 2 = 1)]) + 2 ^ (k + 1) * ((ca + x) / 2) = C + 2 ^ k * x := by
 rw [bval_append, bval_one, hl, Nat.pow_succ]
 have e0 : (decide ((ca + x) % 2 = 1)).toNat = (ca + x) % 2 := by
  by_cases h9 : (ca + x) % 2 = 1
  ·rw [decide_eq_true h9, h9]; rfl
  ·rw [decide_eq_false h9]
   show 0 = _
   omega
 rw [e0]
 have e1 : 2 ^ k * ((ca + x) % 2 + 2 * ((ca + x) / 2)) = 2 ^ k * (ca + x) := by congr 1; omega
 have e2 : 2 ^ k * ((ca + x) % 2 + 2 * ((ca + x) / 2)) = 2 ^ k * ((ca + x) % 2) + 2 ^ k * 2 * ((ca + x) / 2) := by rw [Nat.mul_add, Nat.mul_assoc]
 have e3 : 2 ^ k * (ca + x) = 2 ^ k * ca + 2 ^ k * x := Nat.mul_add _ _ _
 omega
end M

set_option maxHeartbeats 4000000 in
theorem mulB_any (A : Option Addr) (n c : Nat) (es : List Bool) (B : Option Addr) (m d : Nat) (bs : List Bool) (w : World) (h : RdB w A n c es) (k : RdB w B m d bs) (hn : n ≤ 500000) (hm : m ≤ 500000) :
  Calls Tryz.prog 135 #[.slice A n c, .slice B m d] w (GivesBits w (M.bval es * M.bval bs)) := by
 have H := Lib.hid h
 have K := Lib.hid k
 clear h k
 go_enter Tryz.func135, Tryz.ntmps135
 go_wp2_with (at_make; refine make_full kInt _ rfl _ _ rfl .i64 .i64 _ _ (n + m) rfl rfl (by omega) (by omega) (by omega) (Nat.zero_le _) ?_; intro w1 ho1 hb1; have HO1 := Lib.hid ho1; have HB1 := Lib.hid hb1; clear ho1 hb1)
 go_loopg [6] n (fun g i wr => ∃ (k : Nat) (ns : List Nat), k ≤ n ∧ g = n - k ∧ i = .int .i64 (k : Int) ∧ M.CnR es bs k 0 ns ∧ OwK kInt wr w.heap.size (some ⟨w.heap.size, 0, none⟩) (n + m) (n + m) ns ∧ Below w.heap.size w wr)
 case atStart =>
  refine ⟨0, _, by omega, rfl, rfl, M.CnR.start es bs, ?_, HB1.out⟩
  rw [H.out.len, K.out.len]
  exact HO1.out
 case round =>
  obtain ⟨i, ns, hi, hg, rfl, hc, ho, hb⟩ := hrel
  have HG := Lib.hid hg
  have HC := Lib.hid hc
  have HO := Lib.hid ho
  have HB := Lib.hid hb
  clear hg hc ho hb HO1 HB1
  by_cases hin : i < n
  ·obtain ⟨b, o, x, hA, hx, hcell⟩ := (H.out.below HB.out).atB hin
   subst hA
   have HX := Lib.hid hx
   clear hx
   have HCE := Lib.hid (show ∀ w9, Below w.heap.size w w9 → w9.cell? ⟨b, o + i, none⟩ = some (.bool x) by
    intro w9 hb9
    obtain ⟨b9, o9, x9, hA9, hx9, hc9⟩ := (H.out.below hb9).atB hin
    injection hA9 with hA9
    injection hA9 with hA9 hA9'
    subst hA9 hA9'
    have := HX.out
    rw [hx9] at this
    injection this with this
    subst this
    exact hc9)
   clear hcell
   go_wp2
   go_loopg [7] m (fun g v wr => ∃ (k : Nat) (ns : List Nat), k ≤ m ∧ (x = false → k = 0) ∧ g = m - k ∧ v = .int .i64 (k : Int) ∧ M.CnR es bs i k ns ∧ OwK kInt wr w.heap.size (some ⟨w.heap.size, 0, none⟩) (n + m) (n + m) ns ∧ Below w.heap.size w wr)
   case atStart => exact ⟨0, ns, by omega, fun _ => rfl, rfl, rfl, HC.out, HO.out, HB.out⟩
   case round =>
    obtain ⟨k, ns2, hk, hx0, hg2, rfl, hc2, ho2, hb2⟩ := hrel
    have hcell := HCE.out wr hb2
    have HX0 := Lib.hid hx0
    have HG2 := Lib.hid hg2
    have HC2 := Lib.hid hc2
    have HO2 := Lib.hid ho2
    have HB2 := Lib.hid hb2
    clear hx0 hg2 hc2 ho2 hb2 HC HO HB
    cases x with
    | false =>
     have hk0 := HX0.out rfl
     subst hk0
     have HN := Lib.hid (HC2.out.skip HX.out)
     go_wp2
     go_roundg (n - (i + 1))
     case measure => have := HG.out; omega
     case rel => exact ⟨i + 1, ns2, by omega, rfl, by go_num, HN.out, HO2.out, HB2.out⟩
    | true =>
     by_cases hkm : k < m
     ·obtain ⟨b', o', y, hB, hy, hcy⟩ := (K.out.below HB2.out).atB hkm
      subst hB
      have HY := Lib.hid hy
      clear hy
      cases y with
      | false =>
       have HN := Lib.hid (HC2.out.no HY.out)
       go_wp2
       go_roundg (m - (k + 1))
       case measure => have := HG2.out; omega
       case rel => exact ⟨k + 1, ns2, by omega, (fun h9 => by cases h9), rfl, by go_num, HN.out, HO2.out, HB2.out⟩
      | true =>
       obtain ⟨t, ht⟩ : ∃ t, ns2[i + k]? = some t := ⟨ns2[i + k]'(by rw [HO2.out.len]; omega), List.getElem?_eq_getElem _⟩
       have htl := HC2.out.lo _ _ ht
       have c1 := HO2.out.cellAt ht
       have f1 := HO2.out.frozenAt (i + k)
       simp only [kInt] at c1
       have HN := Lib.hid (HC2.out.yes HY.out ht)
       obtain ⟨ho3, hg3⟩ := HO2.out.set_ (i + k) (t + 1) (show t + 1 ≤ 2000000 by omega)
       have HO3 := Lib.hid ho3
       have HB3 := Lib.hid (HB2.out.setCell (p := ⟨w.heap.size, i + k, none⟩) (Nat.le_refl _) (.int .i64 ((t + 1 : Nat) : Int)))
       clear ht ho3 hg3
       go_wp2
       go_roundg (m - (k + 1))
       case measure => have := HG2.out; omega
       case rel => exact ⟨k + 1, _, by omega, (fun h9 => by cases h9), rfl, by go_num, HN.out, HO3.out, HB3.out⟩
     ·obtain rfl : k = m := by omega
      have hcn := HC2.out
      rw [← K.out.len] at hcn
      have HN := Lib.hid (hcn.next HX.out)
      clear hcn
      go_wp2
      go_roundg (n - (i + 1))
      case measure => have := HG.out; omega
      case rel => exact ⟨i + 1, ns2, by omega, rfl, by go_num, HN.out, HO2.out, HB2.out⟩
  ·obtain rfl : i = n := by omega
   have heq := HC.out.eq
   rw [List.take_of_length_le (by rw [H.out.len]; exact Nat.le_refl _)] at heq
   simp only [List.take_zero, M.bval, Nat.mul_zero, Nat.add_zero] at heq
   have HE := Lib.hid heq
   clear heq
   go_wp2
   go_loopw [8, 9, 10] (fun v q j wr => ∃ (k p cp ca : Nat) (D : Option Addr) (zs : List Bool), k ≤ i + m ∧ j = .int .i64 (k : Int) ∧ q = .int .i64 (ca : Int) ∧ ca ≤ 1000001 ∧ v = .slice D p cp ∧ OwB wr (w.heap.size + 1) D p cp zs ∧ zs.length = k ∧ M.bval zs + 2 ^ k * ca = M.cval (ns.take k) ∧ OwK kInt wr w.heap.size (some ⟨w.heap.size, 0, none⟩) (i + m) (i + m) ns ∧ Below w.heap.size w wr ∧ w.heap.size + 1 ≤ wr.heap.size) (fun _ _ j _ => i + m - (intOf j).toNat)
   case atStart => exact ⟨0, 0, 0, 0, none, [], by omega, rfl, rfl, by omega, rfl, OwK.nil_ _ _, rfl, rfl, HO.out, HB.out, (HO.out.lt rfl).2⟩
   case round =>
    obtain ⟨k, p, cp, ca, D, zs, hk, rfl, rfl, hca, rfl, ho3, hl3, hv3, ho4, hb4, hsz⟩ := hrel
    have hpk : p ≤ 1000000 := by have := ho3.len; omega
    have HO3 := Lib.hid ho3
    have HL3 := Lib.hid hl3
    have HV3 := Lib.hid hv3
    have HO4 := Lib.hid ho4
    have HB4 := Lib.hid hb4
    clear ho3 hl3 hv3 ho4 hb4
    by_cases hkn : k < i + m
    ·obtain ⟨t, ht⟩ : ∃ t, ns[k]? = some t := ⟨ns[k]'(by rw [HO4.out.len]; exact hkn), List.getElem?_eq_getElem _⟩
     have htl := HC.out.lo _ _ ht
     have c1 := HO4.out.cellAt ht
     simp only [kInt] at c1
     obtain ⟨bt, hbt⟩ : ∃ bt : Bool, bt = decide ((ca + t) % 2 = 1) := ⟨_, rfl⟩
     obtain ⟨ca2, hca2⟩ : ∃ ca2, ca2 = (ca + t) / 2 := ⟨_, rfl⟩
     have hst := M.carry_step (x := t) HL3.out HV3.out
     rw [← M.cval_take ht, ← hbt, ← hca2] at hst
     have HST := Lib.hid hst
     have h2l : ca2 ≤ 1000001 := by omega
     have e1 : (((ca : Int) + (t : Int)).tmod 2 == 1) = bt := by
      rw [Int.tmod_eq_emod_of_nonneg (by omega), hbt, Bool.eq_iff_iff]
      simp
      omega
     have e4 : (((ca : Int) + (t : Int)) % 2 == 1) = bt := by
      rw [hbt, Bool.eq_iff_iff]
      simp
      omega
     have e2 : ((ca : Int) + (t : Int)).tdiv 2 = (ca2 : Int) := by rw [Int.tdiv_eq_ediv_of_nonneg (by omega), hca2]; omega
     have e3 : ((ca : Int) + (t : Int)) / 2 = (ca2 : Int) := by rw [hca2]; omega
     clear hst ht hbt hca2
     go_wp2_with (at_builtin; refine app_own kBool _ rfl _ _ rfl (w.heap.size + 1) D p cp zs rfl (HO3.out.alloc _) _ 1 1 [bt] rfl (RdK.one (K := kBool) _ bt trivial) (by omega) (by simp; omega) ?_; intro A5 c5 w5 ho5 hg5; have HO5 := Lib.hid ho5; have HG5 := Lib.hid hg5; clear ho5 hg5)
     go_roundw
     case rel =>
      have hlt5 : ∀ k9, (Value.slice D p cp).ownBlock = some k9 → w.heap.size + 1 ≤ k9 := fun k9 h9 => (HO3.out.row.lt k9 h9).1
      have hs5 := HG5.out.size
      simp only [World.size_alloc] at hs5
      refine ⟨k + 1, p + 1, c5, ca2, A5, zs ++ [bt], by omega, by go_num, by go_num, h2l, rfl, HO5.out, by simp [HL3.out], HST.out, ?_, ?_, by omega⟩
      ·exact (HO4.out.alloc _).grown HG5.out (fun q hq e => by cases hq; have := hlt5 _ e.symm; dsimp only at this; omega)
      ·exact (HB4.out.alloc HB4.out.size _).grown HG5.out (by simp; have := HB4.out.size; omega) (fun k9 h9 => by have := hlt5 k9 h9; omega)
     case measure => simp [intOf]; omega
    ·obtain rfl : k = i + m := by omega
     have hv := HV3.out
     rw [List.take_of_length_le (by rw [HO4.out.len]; exact Nat.le_refl _), HE.out] at hv
     have h1 := M.bval_lt es
     have h2 := M.bval_lt bs
     rw [H.out.len] at h1
     rw [K.out.len] at h2
     have h3 : M.bval es * M.bval bs < 2 ^ i * 2 ^ m := Nat.mul_lt_mul'' h1 h2
     rw [← Nat.pow_add] at h3
     have hca0 : ca = 0 := by
      refine Nat.eq_zero_of_not_pos fun h9 => ?_
      have : 2 ^ (i + m) * 1 ≤ 2 ^ (i + m) * ca := Nat.mul_le_mul_left _ h9
      omega
     have HF := Lib.hid (show M.bval zs = M.bval es * M.bval bs by rw [hca0, Nat.mul_zero, Nat.add_zero] at hv; exact hv)
     clear hv h1 h2 h3 hca0
     go_wp2_with fail
     refine (trimB_any _ _ _ _ _ HO3.out.rd (by omega)).mono ?_
     rintro e w' ⟨rfl, rfl⟩
     go_wp2_with fail
     go_ret
     exact ⟨D, _, cp, M.trB zs, rfl, (HO3.out.shortB).mono (by omega), M.trB_trB _, by rw [M.bval_trB]; exact HF.out, HB4.out⟩

end Go.Proofs.YtbhgbilhoonopaaGreat
namespace Go.Proofs.YtbhgbilhoonopaaGreat
open Go.RowKit
set_option linter.unusedVariables false

/-- Bits of a number, without highest zeros, at most k. -/
structure Bm (w : World) (A : Option Addr) (n c v k : Nat) : Prop where
 row : ∃ bs, RdB w A n c bs ∧ M.trB bs = bs ∧ M.bval bs = v
 le : n ≤ k

section
variable {w w' : World} {A B : Option Addr} {n c m d v x y k j : Nat}
theorem Bm.below (h : Bm w A n c v k) (hb : Below w.heap.size w w') : Bm w' A n c v k := by
 obtain ⟨bs, h1, h2⟩ := h.row
 exact ⟨⟨bs, h1.below hb, h2⟩, h.le⟩
theorem pow_R (k : Nat) : M.R ^ k = 2 ^ (32 * k) := by rw [Nat.pow_mul]; rfl
def GivBm (w : World) (v k : Nat) (e : Ending) (w' : World) : Prop := ∃ A n c, e = .returned (.slice A n c) ∧ Bm w' A n c v k ∧ Below w.heap.size w w'
theorem givBm {e : Ending} (hv : v < 2 ^ k) (h : GivesBits w v e w') : GivBm w v k e w' := by
 obtain ⟨A, n, c, bs, rfl, ho, ht, hb, hbl⟩ := h
 have hl := M.bval_len ht (k := k) (by rw [hb]; exact hv)
 rw [ho.len] at hl
 exact ⟨A, n, c, rfl, ⟨⟨bs, ho.rd, ht, hb⟩, hl⟩, hbl⟩
theorem bitsN (h : Nm w A n c x k) (hk : k ≤ 1000) : Calls Tryz.prog 102 #[.slice A n c] w (GivBm w x (32 * k)) := by
 have h1 := h.lt
 rw [pow_R] at h1
 have hl := h.le
 obtain ⟨xs, hx, rfl⟩ := h.row
 exact (bits_any _ _ _ _ _ hx (by omega)).mono fun e w' r => givBm h1 r
theorem limbsN (h : Bm w A n c x k) (hk : k ≤ 100000) (hx : x < M.R ^ j) : Calls Tryz.prog 101 #[.slice A n c] w (GivN w x j) := by
 have hl := h.le
 obtain ⟨bs, hb, ht, rfl⟩ := h.row
 exact (limbs_any _ _ _ _ _ hb (by omega)).mono fun e w' r => givN hx r
theorem lessN (h : Bm w A n c x k) (g : Bm w B m d y j) (hk : k ≤ 100000) (hj : j ≤ 100000) : Calls Tryz.prog 139 #[.slice A n c, .slice B m d] w fun e w' => e = .returned (.bool (decide (x < y))) ∧ Below w.heap.size w w' := by
 have hl := h.le
 have gl := g.le
 obtain ⟨es, he, _, rfl⟩ := h.row
 obtain ⟨bs, hb, _, rfl⟩ := g.row
 exact less_any _ _ _ _ _ _ _ _ _ he hb (by omega) (by omega)
theorem subBN (h : Bm w A n c x k) (g : Bm w B m d y j) (hk : k ≤ 100000) (hj : j ≤ 100000) (hle : y ≤ x) : Calls Tryz.prog 140 #[.slice A n c, .slice B m d] w (GivBm w (x - y) k) := by
 have hl := h.le
 have gl := g.le
 obtain ⟨es, he, ht, rfl⟩ := h.row
 obtain ⟨bs, hb, hs, rfl⟩ := g.row
 have hlt := M.bval_lt es
 rw [he.len] at hlt
 have h2 : (2 : Nat) ^ n ≤ 2 ^ k := Nat.pow_le_pow_right (by omega) hl
 refine (subB_any _ _ _ _ _ _ _ _ _ he hb (by omega) ?_ hle).mono fun e w' r => givBm (by omega) r
 refine Nat.le_of_not_lt fun hc => ?_
 have := M.bval_lt_of_len (xs := es) (ys := bs) hs (by rw [he.len, hb.len]; exact hc)
 omega
theorem mulBN (h : Bm w A n c x k) (g : Bm w B m d y j) (hk : k ≤ 100000) (hj : j ≤ 100000) : Calls Tryz.prog 135 #[.slice A n c, .slice B m d] w (GivBm w (x * y) (k + j)) := by
 have hl := h.le
 have gl := g.le
 obtain ⟨es, he, ht, rfl⟩ := h.row
 obtain ⟨bs, hb, hs, rfl⟩ := g.row
 have h1 := M.bval_lt es
 have h2 := M.bval_lt bs
 rw [he.len] at h1
 rw [hb.len] at h2
 have h3 : M.bval es * M.bval bs < 2 ^ n * 2 ^ m := Nat.mul_lt_mul'' h1 h2
 rw [← Nat.pow_add] at h3
 have h4 : (2 : Nat) ^ (n + m) ≤ 2 ^ (k + j) := Nat.pow_le_pow_right (by omega) (by omega)
 exact (mulB_any _ _ _ _ _ _ _ _ _ he hb (by omega) (by omega)).mono fun e w' r => givBm (by omega) r
def GivAd (w : World) (v k : Nat) (e : Ending) (w' : World) : Prop := ∃ A n c, e = .returned (.slice A n c) ∧ (∃ bs, RdB w' A n c bs ∧ M.bval bs = v ∧ n ≤ k) ∧ Below w.heap.size w w'
theorem addBN (h : Bm w A n c x k) (g : Bm w B m d y j) (hk : k ≤ 100000) (hj : j ≤ 100000) : Calls Tryz.prog 121 #[.slice A n c, .slice B m d] w (GivAd w (x + y) 100001) := by
 have hl := h.le
 have gl := g.le
 obtain ⟨es, he, ht, rfl⟩ := h.row
 obtain ⟨bs, hb, hs, rfl⟩ := g.row
 refine (addB_any _ _ _ _ _ _ _ _ _ he hb (by omega) (by omega)).mono ?_
 rintro e w' ⟨C, p, q, zs, rfl, ho, hp, hv, hbl⟩
 exact ⟨C, p, q, rfl, ⟨zs, ho.rd, hv, by omega⟩, hbl⟩
def GivDv (w : World) (q r kq kr : Nat) (e : Ending) (w' : World) : Prop := ∃ A n c B m d, e = .returned (.tuple #[.slice A n c, .slice B m d]) ∧ Bm w' A n c q kq ∧ Bm w' B m d r kr ∧ Below w.heap.size w w'
theorem divBN (h : Bm w A n c x k) (g : Bm w B m d y j) (hk : k ≤ 100000) (hj : j ≤ 100000) (hy : y ≠ 0) : Calls Tryz.prog 120 #[.slice A n c, .slice B m d] w (GivDv w (x / y) (x % y) k j) := by
 have hl := h.le
 have gl := g.le
 obtain ⟨es, he, ht, rfl⟩ := h.row
 obtain ⟨bs, hb, hs, rfl⟩ := g.row
 have hpos := Nat.pos_of_ne_zero hy
 have h1 := M.bval_lt es
 have h2 := M.bval_lt bs
 rw [he.len] at h1
 rw [hb.len] at h2
 refine (divB_any _ _ _ _ _ _ _ _ _ he hb (by omega) (by omega) hs hpos).mono ?_
 rintro e w' ⟨A1, n1, c1, qs, B1, m1, d1, rs, rfl, r1, r2, r3, r4, r5, r6, hbl⟩
 have l1 := M.bval_len r2 (k := n) (by rw [r3]; exact Nat.lt_of_le_of_lt (Nat.div_le_self _ _) h1)
 have l2 := M.bval_len r5 (k := m) (by rw [r6]; exact Nat.lt_trans (Nat.mod_lt _ hpos) h2)
 rw [r1.len] at l1
 rw [r4.len] at l2
 exact ⟨A1, n1, c1, B1, m1, d1, rfl, ⟨⟨qs, r1, r2, r3⟩, by omega⟩, ⟨⟨rs, r4, r5, r6⟩, by omega⟩, hbl⟩
end

section
variable {w : World} {A B : Option Addr} {n c m d x y k j : Nat}
set_option maxHeartbeats 1000000
theorem trimRN (h : Nm w A n c x k) (hk : k ≤ 1000) : Calls Tryz.prog 50 #[.slice A n c] w (GivN w x k) := by
 have hx := h.lt
 go_enter Tryz.func50, Tryz.ntmps50
 go_wp2_with fail
 refine (bitsN h hk).mono ?_
 rintro e w1 ⟨A1, n1, c1, rfl, P, hb1⟩
 go_wp2_with fail
 refine (limbsN P (by omega) hx).mono ?_
 rintro e w2 ⟨A2, n2, c2, rfl, Q, hb2⟩
 have BB := bl_trans hb1 hb2
 clear hb1 hb2 P h hx
 go_wp2_with fail
 go_ret
 exact ⟨A2, n2, c2, rfl, Q, BB⟩
theorem addRN (h : Nm w A n c x k) (g : Nm w B m d y j) (hk : k ≤ 1000) (hj : j ≤ 1000) : Calls Tryz.prog 79 #[.slice A n c, .slice B m d] w (GivN w (x + y) (max k j + 1)) := by
 have hx := add_lt_pow h.lt g.lt
 go_enter Tryz.func79, Tryz.ntmps79
 go_wp2_with fail
 refine (bitsN h hk).mono ?_
 rintro e w1 ⟨A1, n1, c1, rfl, P, hb1⟩
 replace g := g.below hb1
 go_wp2_with fail
 refine (bitsN g hj).mono ?_
 rintro e w2 ⟨A2, n2, c2, rfl, Q, hb2⟩
 replace P := P.below hb2
 have BB := bl_trans hb1 hb2
 clear hb1 hb2 h g
 go_wp2_with fail
 refine (addBN P Q (by omega) (by omega)).mono ?_
 rintro e w3 ⟨A3, n3, c3, rfl, ⟨zs, hz, hv, hl3⟩, hb3⟩
 replace BB := bl_trans BB hb3
 have HZ := Lib.hid hz
 have HV := Lib.hid hv
 have HX := Lib.hid hx
 clear hb3 P Q hz hv hx
 go_wp2_with fail
 refine (limbs_any _ _ _ _ _ HZ.out (by omega)).mono fun e w4 r => ?_
 rw [HV.out] at r
 obtain ⟨A4, n4, c4, rfl, S, hb4⟩ := givN HX.out r
 replace BB := bl_trans BB hb4
 clear hb4 r
 go_wp2_with fail
 go_ret
 exact ⟨A4, n4, c4, rfl, S, BB⟩
theorem mulRN (h : Nm w A n c x k) (g : Nm w B m d y j) (hk : k ≤ 1000) (hj : j ≤ 1000) : Calls Tryz.prog 103 #[.slice A n c, .slice B m d] w (GivN w (x * y) (k + j)) := by
 have hx := mul_lt_pow h.lt g.lt
 go_enter Tryz.func103, Tryz.ntmps103
 go_wp2_with fail
 refine (bitsN h hk).mono ?_
 rintro e w1 ⟨A1, n1, c1, rfl, P, hb1⟩
 replace g := g.below hb1
 go_wp2_with fail
 refine (bitsN g hj).mono ?_
 rintro e w2 ⟨A2, n2, c2, rfl, Q, hb2⟩
 replace P := P.below hb2
 have BB := bl_trans hb1 hb2
 clear hb1 hb2 h g
 go_wp2_with fail
 refine (mulBN P Q (by omega) (by omega)).mono ?_
 rintro e w3 ⟨A3, n3, c3, rfl, R3, hb3⟩
 replace BB := bl_trans BB hb3
 clear hb3 P Q
 go_wp2_with fail
 refine (limbsN R3 (by omega) hx).mono ?_
 rintro e w4 ⟨A4, n4, c4, rfl, S, hb4⟩
 replace BB := bl_trans BB hb4
 clear hb4 R3 hx
 go_wp2_with fail
 go_ret
 exact ⟨A4, n4, c4, rfl, S, BB⟩
end

end Go.Proofs.YtbhgbilhoonopaaGreat

/- litmusref01's Cmp, Sub, Div over rows of limbs; in numbers alone. -/
namespace Go.Proofs.YtbhgbilhoonopaaGreat
open Go.RowKit
set_option linter.unusedVariables false

section
variable {w : World} {A B : Option Addr} {n c m d x y k j : Nat}
set_option maxHeartbeats 2000000
theorem cmpRN_lt (h : Nm w A n c x k) (g : Nm w B m d y j) (hk : k ≤ 1000) (hj : j ≤ 1000) (hc : x < y) : Calls Tryz.prog 106 #[.slice A n c, .slice B m d] w fun e w' => e = .returned (.int .i64 (cmpV x y)) ∧ Below w.heap.size w w' := by
 rw [cmpV_lt hc]
 have BB : Below w.heap.size w w := Below.refl _ _
 go_enter Tryz.func106, Tryz.ntmps106
 go_wp2_with fail
 refine (bitsN h hk).mono ?_
 rintro e w1 ⟨A1, n1, c1, rfl, P, hb1⟩
 replace h := h.below hb1
 replace g := g.below hb1
 replace BB := bl_trans BB hb1
 clear hb1
 go_wp2_with fail
 refine (bitsN g hj).mono ?_
 rintro e w2 ⟨A2, n2, c2, rfl, Q, hb2⟩
 replace h := h.below hb2
 replace g := g.below hb2
 replace P := P.below hb2
 replace BB := bl_trans BB hb2
 clear hb2
 go_wp2_with fail
 refine (lessN P Q (by omega) (by omega)).mono ?_
 rw [decide_eq_true hc]
 rintro e w3 ⟨rfl, hb3⟩
 replace h := h.below hb3
 replace g := g.below hb3
 replace BB := bl_trans BB hb3
 clear hb3 P Q
 go_wp2_with fail
 go_ret
 exact ⟨rfl, BB⟩
theorem cmpRN_gt (h : Nm w A n c x k) (g : Nm w B m d y j) (hk : k ≤ 1000) (hj : j ≤ 1000) (hc : y < x) : Calls Tryz.prog 106 #[.slice A n c, .slice B m d] w fun e w' => e = .returned (.int .i64 (cmpV x y)) ∧ Below w.heap.size w w' := by
 rw [cmpV_gt hc]
 have BB : Below w.heap.size w w := Below.refl _ _
 go_enter Tryz.func106, Tryz.ntmps106
 go_wp2_with fail
 refine (bitsN h hk).mono ?_
 rintro e w1 ⟨A1, n1, c1, rfl, P, hb1⟩
 replace h := h.below hb1
 replace g := g.below hb1
 replace BB := bl_trans BB hb1
 clear hb1
 go_wp2_with fail
 refine (bitsN g hj).mono ?_
 rintro e w2 ⟨A2, n2, c2, rfl, Q, hb2⟩
 replace h := h.below hb2
 replace g := g.below hb2
 replace P := P.below hb2
 replace BB := bl_trans BB hb2
 clear hb2
 go_wp2_with fail
 refine (lessN P Q (by omega) (by omega)).mono ?_
 rw [decide_eq_false (show ¬ x < y by omega)]
 rintro e w3 ⟨rfl, hb3⟩
 replace h := h.below hb3
 replace g := g.below hb3
 replace BB := bl_trans BB hb3
 clear hb3 P Q
 go_wp2_with fail
 refine (bitsN g hj).mono ?_
 rintro e w4 ⟨A4, n4, c4, rfl, P, hb1⟩
 replace h := h.below hb1
 replace g := g.below hb1
 replace BB := bl_trans BB hb1
 clear hb1
 go_wp2_with fail
 refine (bitsN h hk).mono ?_
 rintro e w5 ⟨A5, n5, c5, rfl, Q, hb2⟩
 replace h := h.below hb2
 replace g := g.below hb2
 replace P := P.below hb2
 replace BB := bl_trans BB hb2
 clear hb2
 go_wp2_with fail
 refine (lessN P Q (by omega) (by omega)).mono ?_
 rw [decide_eq_true hc]
 rintro e w6 ⟨rfl, hb6⟩
 replace h := h.below hb6
 replace g := g.below hb6
 replace BB := bl_trans BB hb6
 clear hb6 P Q
 go_wp2_with fail
 go_ret
 exact ⟨rfl, BB⟩
theorem cmpRN_eq (h : Nm w A n c x k) (g : Nm w B m d y j) (hk : k ≤ 1000) (hj : j ≤ 1000) (hc : x = y) : Calls Tryz.prog 106 #[.slice A n c, .slice B m d] w fun e w' => e = .returned (.int .i64 (cmpV x y)) ∧ Below w.heap.size w w' := by
 subst hc
 rw [cmpV_eq]
 have BB : Below w.heap.size w w := Below.refl _ _
 go_enter Tryz.func106, Tryz.ntmps106
 go_wp2_with fail
 refine (bitsN h hk).mono ?_
 rintro e w1 ⟨A1, n1, c1, rfl, P, hb1⟩
 replace h := h.below hb1
 replace g := g.below hb1
 replace BB := bl_trans BB hb1
 clear hb1
 go_wp2_with fail
 refine (bitsN g hj).mono ?_
 rintro e w2 ⟨A2, n2, c2, rfl, Q, hb2⟩
 replace h := h.below hb2
 replace g := g.below hb2
 replace P := P.below hb2
 replace BB := bl_trans BB hb2
 clear hb2
 go_wp2_with fail
 refine (lessN P Q (by omega) (by omega)).mono ?_
 rw [decide_eq_false (show ¬ x < x by omega)]
 rintro e w3 ⟨rfl, hb3⟩
 replace h := h.below hb3
 replace g := g.below hb3
 replace BB := bl_trans BB hb3
 clear hb3 P Q
 go_wp2_with fail
 refine (bitsN g hj).mono ?_
 rintro e w4 ⟨A4, n4, c4, rfl, P, hb1⟩
 replace h := h.below hb1
 replace g := g.below hb1
 replace BB := bl_trans BB hb1
 clear hb1
 go_wp2_with fail
 refine (bitsN h hk).mono ?_
 rintro e w5 ⟨A5, n5, c5, rfl, Q, hb2⟩
 replace h := h.below hb2
 replace g := g.below hb2
 replace P := P.below hb2
 replace BB := bl_trans BB hb2
 clear hb2
 go_wp2_with fail
 refine (lessN P Q (by omega) (by omega)).mono ?_
 rw [decide_eq_false (show ¬ x < x by omega)]
 rintro e w6 ⟨rfl, hb6⟩
 replace h := h.below hb6
 replace g := g.below hb6
 replace BB := bl_trans BB hb6
 clear hb6 P Q
 go_wp2_with fail
 go_ret
 exact ⟨rfl, BB⟩
theorem subRN_yes (h : Nm w A n c x k) (g : Nm w B m d y j) (hk : k ≤ 1000) (hj : j ≤ 1000) (hc : y ≤ x) : Calls Tryz.prog 107 #[.slice A n c, .slice B m d] w (GivB w (x - y) k true) := by
 have hlt : x - y < M.R ^ k := by have := h.lt; omega
 have BB : Below w.heap.size w w := Below.refl _ _
 go_enter Tryz.func107, Tryz.ntmps107
 go_wp2_with fail
 refine (bitsN h hk).mono ?_
 rintro e w1 ⟨A1, n1, c1, rfl, P, hb1⟩
 replace h := h.below hb1
 replace g := g.below hb1
 replace BB := bl_trans BB hb1
 clear hb1
 go_wp2_with fail
 refine (bitsN g hj).mono ?_
 rintro e w2 ⟨A2, n2, c2, rfl, Q, hb2⟩
 replace h := h.below hb2
 replace g := g.below hb2
 replace P := P.below hb2
 replace BB := bl_trans BB hb2
 clear hb2
 go_wp2_with fail
 refine (lessN P Q (by omega) (by omega)).mono ?_
 rw [decide_eq_false (show ¬ x < y by omega)]
 rintro e w3 ⟨rfl, hb3⟩
 replace h := h.below hb3
 replace g := g.below hb3
 replace BB := bl_trans BB hb3
 clear hb3 P Q
 go_wp2_with fail
 refine (bitsN h hk).mono ?_
 rintro e w4 ⟨A4, n4, c4, rfl, P, hb1⟩
 replace h := h.below hb1
 replace g := g.below hb1
 replace BB := bl_trans BB hb1
 clear hb1
 go_wp2_with fail
 refine (bitsN g hj).mono ?_
 rintro e w5 ⟨A5, n5, c5, rfl, Q, hb2⟩
 replace h := h.below hb2
 replace g := g.below hb2
 replace P := P.below hb2
 replace BB := bl_trans BB hb2
 clear hb2
 go_wp2_with fail
 refine (subBN P Q (by omega) (by omega) hc).mono ?_
 rintro e w8 ⟨A8, n8, c8, rfl, R8, hb8⟩
 replace BB := bl_trans BB hb8
 clear hb8 P Q
 go_wp2_with fail
 refine (limbsN R8 (by omega) hlt).mono ?_
 rintro e w9 ⟨A9, n9, c9, rfl, S9, hb9⟩
 replace BB := bl_trans BB hb9
 clear hb9 R8
 go_wp2_with fail
 go_ret2
 exact ⟨A9, n9, c9, rfl, S9, BB⟩
theorem divRN (h : Nm w A n c x k) (g : Nm w B m d y j) (hk : k ≤ 1000) (hj : j ≤ 1000) (hc : y ≠ 0) : Calls Tryz.prog 78 #[.slice A n c, .slice B m d] w (GivD w (x / y) k (x % y) j 0) := by
 have hq : x / y < M.R ^ k := Nat.lt_of_le_of_lt (Nat.div_le_self _ _) h.lt
 have hr : x % y < M.R ^ j := Nat.lt_trans (Nat.mod_lt _ (Nat.pos_of_ne_zero hc)) g.lt
 have BB : Below w.heap.size w w := Below.refl _ _
 go_enter Tryz.func78, Tryz.ntmps78
 go_wp2_with fail
 refine (bitsN g hj).mono ?_
 rintro e w1 ⟨A1, n1, c1, rfl, P, hb1⟩
 replace h := h.below hb1
 replace g := g.below hb1
 replace BB := bl_trans BB hb1
 have hn1 : ((n1 : Int) == 0) = false := by
  obtain ⟨bs, r1, r2, r3⟩ := P.row
  have : n1 ≠ 0 := fun h9 => hc (by rw [← r3]; exact (M.bval_zero r2).1 (by rw [r1.len]; exact h9))
  simp
  omega
 clear hb1 P
 go_wp2_with fail
 refine (bitsN h hk).mono ?_
 rintro e w2 ⟨A2, n2, c2, rfl, P, hb1⟩
 replace h := h.below hb1
 replace g := g.below hb1
 replace BB := bl_trans BB hb1
 clear hb1
 go_wp2_with fail
 refine (bitsN g hj).mono ?_
 rintro e w3 ⟨A3, n3, c3, rfl, Q, hb2⟩
 replace h := h.below hb2
 replace g := g.below hb2
 replace P := P.below hb2
 replace BB := bl_trans BB hb2
 clear hb2
 go_wp2_with fail
 refine (divBN P Q (by omega) (by omega) hc).mono ?_
 rintro e w8 ⟨A8, n8, c8, B8, m8, d8, rfl, R8, S8, hb8⟩
 replace BB := bl_trans BB hb8
 clear hb8 P Q
 go_wp2_with fail
 refine (limbsN R8 (by omega) hq).mono ?_
 rintro e w9 ⟨A9, n9, c9, rfl, S9, hb9⟩
 replace S8 := S8.below hb9
 replace BB := bl_trans BB hb9
 clear hb9 R8
 go_wp2_with fail
 refine (limbsN S8 (by omega) hr).mono ?_
 rintro e w10 ⟨A10, n10, c10, rfl, S10, hb10⟩
 replace S9 := S9.below hb10
 replace BB := bl_trans BB hb10
 clear hb10 S8
 go_wp2_with fail
 go_ret3
 exact ⟨A9, n9, c9, A10, n10, c10, rfl, S9, S10, BB⟩
end

end Go.Proofs.YtbhgbilhoonopaaGreat
namespace Go.Proofs.YtbhgbilhoonopaaGreat
open Go.RowKit
set_option linter.unusedVariables false

namespace M
def dval : List Nat → Nat
 | [] => 0
 | x :: xs => x + 10 * dval xs
theorem dval_append (xs ys : List Nat) : dval (xs ++ ys) = dval xs + 10 ^ xs.length * dval ys := by
 induction xs with
 | nil => simp [dval]
 | cons x xs ih =>
  rw [List.cons_append, dval, ih, dval, List.length_cons, Nat.pow_succ]
  have : 10 ^ xs.length * 10 * dval ys = 10 * (10 ^ xs.length * dval ys) := by rw [Nat.mul_comm (10 ^ xs.length), Nat.mul_assoc]
  omega
theorem dval_take {xs : List Nat} {k x : Nat} (h : xs[k]? = some x) : dval (xs.take (k + 1)) = dval (xs.take k) + 10 ^ k * x := by
 have hk : k < xs.length := (List.getElem?_eq_some_iff.1 h).1
 rw [take_snoc h, dval_append, List.length_take, Nat.min_eq_left (by omega)]
 simp [dval]
/-- Digits of a number, the lowest first, the highest not 0. -/
structure Dg (ds : List Nat) (v : Nat) : Prop where
 lim : ∀ x ∈ ds, x < 10
 val : dval ds = v
 top : ∀ x, ds.getLast? = some x → x ≠ 0
theorem Dg.lows {ds : List Nat} {v : Nat} (h : Dg ds v) : ds.map (48 + ·) = M.lows v := by
 induction ds generalizing v with
 | nil =>
  have := h.val
  rw [← this]
  exact lows_zero.symm
 | cons x xs ih =>
  have hx := h.lim x (by simp)
  have hv := h.val
  rw [dval] at hv
  have ht : Dg xs (dval xs) := by
   refine ⟨fun y hy => h.lim y (by simp [hy]), rfl, fun y hy => h.top y ?_⟩
   cases xs with
   | nil => simp at hy
   | cons z zs => rw [List.getLast?_cons_cons]; exact hy
  have hne : v ≠ 0 := by
   intro h0
   cases xs with
   | nil =>
    have := h.top x (by simp)
    simp [dval] at hv
    omega
   | cons z zs =>
    have e1 := ih ht
    have e0 : dval (z :: zs) = 0 := by omega
    rw [e0, lows_zero] at e1
    simp at e1
  rw [List.map_cons, ih ht, lows_pos hne]
  have e1 : v % 10 = x := by omega
  have e2 : v / 10 = dval xs := by omega
  rw [e1, e2]
/-- Doubling: k digits are done. -/
structure Db (ds : List Nat) (b k ca : Nat) (zs : List Nat) : Prop where
 len : zs.length = k
 lim : ∀ x ∈ zs, x < 10
 ca1 : ca ≤ 1
 eq : 2 * dval (ds.take k) + b = dval zs + 10 ^ k * ca
 top : ∀ l, zs.getLast? = some l → ∃ x c, ds[k - 1]? = some x ∧ l + 10 * ca = 2 * x + c
theorem Db.start (ds : List Nat) (b : Nat) (hb : b ≤ 1) : Db ds b 0 b [] := ⟨rfl, (fun x hx => by cases hx), hb, by simp [dval], fun l h => by simp at h⟩
theorem Db.step {ds zs : List Nat} {b k ca x : Nat} (h : Db ds b k ca zs) (hx : ds[k]? = some x) (hl : x < 10) : Db ds b (k + 1) ((2 * x + ca) / 10) (zs ++ [(2 * x + ca) % 10]) := by
 have hc := h.ca1
 refine ⟨by simp [h.len], ?_, by omega, ?_, ?_⟩
 ·intro y hy
  rcases List.mem_append.1 hy with hy | hy
  ·exact h.lim y hy
  ·simp at hy
   omega
 ·have e := h.eq
  rw [dval_take hx, dval_append, h.len, Nat.pow_succ]
  have e1 : 10 ^ k * (2 * x + ca) = 10 ^ k * ((2 * x + ca) % 10 + 10 * ((2 * x + ca) / 10)) := by congr 1; omega
  have e2 : 10 ^ k * (2 * x + ca) = 2 * (10 ^ k * x) + 10 ^ k * ca := by rw [Nat.mul_add, Nat.mul_left_comm]
  have e3 : 10 ^ k * ((2 * x + ca) % 10 + 10 * ((2 * x + ca) / 10)) = 10 ^ k * ((2 * x + ca) % 10) + 10 ^ k * 10 * ((2 * x + ca) / 10) := by rw [Nat.mul_add, Nat.mul_assoc]
  simp only [dval, Nat.mul_zero, Nat.add_zero]
  omega
 ·intro l hl'
  rw [List.getLast?_append] at hl'
  simp at hl'
  exact ⟨x, ca, by simpa using hx, by omega⟩
theorem Db.done0 {ds zs : List Nat} {b V : Nat} (hd : Dg ds V) (h : Db ds b ds.length 0 zs) : Dg zs (2 * V + b) := by
 refine ⟨h.lim, ?_, ?_⟩
 ·have := h.eq
  rw [List.take_of_length_le (Nat.le_refl _), hd.val] at this
  omega
 ·intro l hl
  obtain ⟨x, c, hx, he⟩ := h.top l hl
  have hne := hd.top x (by rw [List.getLast?_eq_getElem?]; exact hx)
  omega
theorem Db.done1 {ds zs : List Nat} {b V : Nat} (hd : Dg ds V) (h : Db ds b ds.length 1 zs) : Dg (zs ++ [1]) (2 * V + b) := by
 refine ⟨?_, ?_, ?_⟩
 ·intro y hy
  rcases List.mem_append.1 hy with hy | hy
  ·exact h.lim y hy
  ·simp at hy; omega
 ·have := h.eq
  rw [List.take_of_length_le (Nat.le_refl _), hd.val] at this
  rw [dval_append, h.len]
  simp only [dval]
  omega
 ·intro l hl
  rw [List.getLast?_append] at hl
  simp at hl
  omega
end M

set_option maxHeartbeats 4000000 in
theorem textR_any (A : Option Addr) (n c : Nat) (xs : List Nat) (w : World) (h : Rd w A n c xs) (hn : n ≤ 1000) : Calls Tryz.prog 86 #[.slice A n c] w (GivesT w (M.txt (M.val xs))) := by
 obtain ⟨V, hV⟩ : ∃ V, V = M.val xs := ⟨_, rfl⟩
 rw [← hV]
 have hlt := M.val_lt h.Lim
 rw [h.len, ← hV, pow_R] at hlt
 have H := Lib.hid h
 have HV := Lib.hid hV
 have HLT := Lib.hid hlt
 clear h hV hlt
 go_enter Tryz.func86, Tryz.ntmps86
 go_wp2_with fail
 refine (bits_any _ _ _ _ _ H.out hn).mono ?_
 rw [← HV.out]
 rintro e w1 ⟨A1, n1, c1, es, rfl, o1, t1, v1, b1⟩
 have hl1 := M.bval_len t1 (by rw [v1]; exact HLT.out)
 rw [o1.len] at hl1
 have HR := Lib.hid o1.rd
 have HV1 := Lib.hid v1
 have HB1 := Lib.hid b1
 clear o1 t1 v1 b1 H HV HLT
 go_wp2_with fail
 go_loopg [4, 5] n1 (fun g v i wr => ∃ (j p cp : Nat) (D : Option Addr) (ds : List Nat), j ≤ n1 ∧ g = j ∧ i = .int .i64 ((j : Int) - 1) ∧ v = .slice D p cp ∧ OwK kU8 wr w1.heap.size D p cp ds ∧ p ≤ n1 - j ∧ M.Dg ds (M.bval (es.drop j)) ∧ Below w1.heap.size w1 wr)
 case atStart =>
  refine ⟨n1, 0, 0, none, [], Nat.le_refl _, rfl, rfl, rfl, OwK.nil_ _ _, by omega, ⟨(fun x hx => by cases hx), ?_, fun l hl => by simp at hl⟩, Below.refl _ _⟩
  rw [List.drop_of_length_le (by rw [HR.out.len]; exact Nat.le_refl _)]
  rfl
 case round =>
  obtain ⟨j, p, cp, D, ds, hj, hg, rfl, rfl, ho, hp, hd, hb⟩ := hrel
  have HG := Lib.hid hg
  have HO := Lib.hid ho
  have HD := Lib.hid hd
  have HB := Lib.hid hb
  clear hg ho hd hb
  by_cases h0 : j = 0
  ·subst h0
   obtain ⟨wo, rfl⟩ : ∃ wo, wo = wr := ⟨_, rfl⟩
   have hdV := HD.out
   rw [List.drop_zero, HV1.out] at hdV
   have HDV := Lib.hid hdV
   have HBB := Lib.hid (bl_trans HB1.out HB.out)
   clear hdV
   by_cases hp0 : p = 0
   ·subst hp0
    have hds : ds = [] := List.eq_nil_of_length_eq_zero HO.out.len
    have HE := Lib.hid (show M.txt V = [48] by
     have := HDV.out.val
     rw [hds] at this
     rw [← this]
     rfl)
    clear hds
    go_wp2
    go_ret
    exact ⟨_, rfl, by rw [HE.out]; rfl, HBB.out⟩
   ·have hpos : 0 < p := by omega
    have hpne : ((p : Int) == 0) = false := by simp; omega
    have HE := Lib.hid (show (ds.map (48 + ·)).reverse = M.txt V by
     have hlow := HDV.out.lows
     have hne : V ≠ 0 := by
      intro h9
      rw [h9, M.lows_zero] at hlow
      have := HO.out.len
      have h8 := congrArg List.length hlow
      simp at h8
      rw [h8] at this
      simp at this
      omega
     unfold M.txt
     rw [if_neg hne, hlow])
    have hpl : p ≤ 100000 := by omega
    go_wp2_with (at_make; refine make_full kU8 _ rfl _ _ rfl .i64 .i64 _ _ p rfl rfl (by omega) (by omega) (by omega) (show (0 : Nat) < 256 by omega) ?_; intro w2 ho2 hb2; have HO2 := Lib.hid ho2; have HB2 := Lib.hid hb2; clear ho2 hb2)
    have hD2 := HO.out.below HB2.out
    have hDlt : ∀ q, D = some q → q.block < wo.heap.size := fun q hq => (HO.out.lt hq).2
    have HD2 := Lib.hid hD2
    have HDL := Lib.hid hDlt
    clear hD2 hDlt
    go_loopg [10] p (fun g v w3 => ∃ k : Nat, k ≤ p ∧ g = p - k ∧ v = .int .i64 (k : Int) ∧ OwK kU8 w3 wo.heap.size (some ⟨wo.heap.size, 0, none⟩) p p (List.replicate (p - k) 0 ++ ((ds.take k).map (48 + ·)).reverse) ∧ Below wo.heap.size wo w3)
    case atStart => exact ⟨0, by omega, rfl, rfl, by rw [Nat.sub_zero, List.take_zero, List.map_nil, List.reverse_nil, List.append_nil]; exact HO2.out, HB2.out⟩
    case round =>
     obtain ⟨k, hk, hg3, rfl, ho3, hb3⟩ := hrel
     have HG3 := Lib.hid hg3
     have HO3 := Lib.hid ho3
     have HB3 := Lib.hid hb3
     clear hg3 ho3 hb3
     by_cases hkp : k < p
     ·obtain ⟨y, hy⟩ : ∃ y, ds[k]? = some y := ⟨ds[k]'(by rw [HO.out.len]; exact hkp), List.getElem?_eq_getElem _⟩
      have hyl := HDV.out.lim y (List.mem_of_getElem? hy)
      obtain ⟨g, rfl, hg1, hg2⟩ := HO.out.head (by omega)
      have cy := (HO.out.below HB3.out).cellAt hy
      have hq : p - k = (p - 1 - k) + 1 := by omega
      have hset0 := HO3.out
      rw [hq] at hset0
      have cz := hset0.cellAt (j := p - 1 - k) (x := 0) (by rw [List.getElem?_append_left (by simp), List.getElem?_replicate, if_pos (by omega)])
      have fz := hset0.frozenAt (p - 1 - k)
      simp only [kU8] at cy cz
      obtain ⟨z, hz⟩ : ∃ z, z = 48 + y := ⟨_, rfl⟩
      obtain ⟨ho4, hg4⟩ := hset0.set_ (p - 1 - k) z (show z < 256 by omega)
      rw [set_rep] at ho4
      have hlist : z :: ((ds.take k).map (48 + ·)).reverse = ((ds.take (k + 1)).map (48 + ·)).reverse := by rw [M.take_snoc hy, hz]; simp
      rw [hlist] at ho4
      have hz2 : (48 : Int) + (y : Int) = (z : Int) := by rw [hz]; simp
      have hj : ((p : Int) - 1 - k).toNat = p - 1 - k := by omega
      have HO4 := Lib.hid ho4
      have HB4 := Lib.hid (HB3.out.setCell (p := ⟨wo.heap.size, p - 1 - k, none⟩) (Nat.le_refl _) (.int .u8 (z : Int)))
      clear ho4 hg4 hlist hset0 hy hq hz
      go_wp2
      go_roundg (p - (k + 1))
      case measure => have := HG3.out; omega
      case rel =>
       refine ⟨k + 1, by omega, rfl, by go_num, ?_, HB4.out⟩
       rw [show p - (k + 1) = p - 1 - k by omega]
       exact HO4.out
     ·obtain rfl : k = p := by omega
      have hfin := HO3.out
      rw [Nat.sub_self, List.replicate_zero, List.nil_append, List.take_of_length_le (by rw [HO.out.len]; exact Nat.le_refl _), HE.out] at hfin
      have hlen3 := hfin.len
      have hconv := run_convert_bytes_arg (P := Tryz.prog) wr 50 5 Tryz.underlying50 Tryz.underlying5 wo.heap.size 0 k k ((M.txt V).map fun x : Nat => (x : Int)) (by rw [List.length_map]; exact hlen3) (fun i hi => by
       obtain ⟨x, hx⟩ : ∃ x, (M.txt V)[i]? = some x := ⟨_, List.getElem?_eq_getElem (by rw [hlen3]; exact hi)⟩
       have := hfin.cellAt hx
       rw [Nat.zero_add, this]
       simp only [kU8]
       rw [List.getD_eq_getElem?_getD, List.getElem?_map, hx]
       rfl) 9 Tryz.underlying9
      have HB5 := Lib.hid (bl_trans HBB.out HB3.out)
      clear hfin hlen3
      go_wp2
      go_ret
      refine ⟨_, rfl, ?_, HB5.out⟩
      exact bytes_strOfNums (M.txt_dig V)
  ·obtain ⟨i, rfl⟩ : ∃ i, j = i + 1 := ⟨j - 1, by omega⟩
   have hji : ((i + 1 : Nat) : Int) - 1 = (i : Int) := by omega
   obtain ⟨b, o, x, hA, hx, hcell⟩ := (HR.out.below HB.out).atB (show i < n1 by omega)
   subst hA
   obtain ⟨bt, hbt⟩ : ∃ bt, bt = x.toNat := ⟨_, rfl⟩
   have hbt1 : bt ≤ 1 := by rw [hbt]; have := Bool.toNat_lt x; omega
   have HBV := Lib.hid (show M.bval (es.drop i) = 2 * M.bval (es.drop (i + 1)) + bt by rw [M.drop_pred hx, M.bval_cons, hbt]; omega)
   clear hx
   cases x with
   | false =>
    obtain rfl : bt = 0 := hbt
    go_wp2
    go_loopg [6, 7] p (fun g q v wr => ∃ (k ca : Nat) (zs : List Nat), k ≤ p ∧ g = p - k ∧ q = .int .u8 (ca : Int) ∧ v = .int .i64 (k : Int) ∧ M.Db ds 0 k ca zs ∧ OwK kU8 wr w1.heap.size D p cp (zs ++ ds.drop k) ∧ Below w1.heap.size w1 wr)
    case atStart => exact ⟨0, 0, [], Nat.zero_le _, rfl, rfl, rfl, M.Db.start ds 0 (by omega), by simpa using HO.out, HB.out⟩
    case round =>
     obtain ⟨k, ca, zs, hk, hg2, rfl, rfl, hdb, ho2, hb2⟩ := hrel
     have hca := hdb.ca1
     have HG2 := Lib.hid hg2
     have HDB := Lib.hid hdb
     have HO2 := Lib.hid ho2
     have HB2 := Lib.hid hb2
     clear hg2 hdb ho2 hb2
     by_cases hkp : k < p
     ·obtain ⟨y, hy⟩ : ∃ y, ds[k]? = some y := ⟨ds[k]'(by rw [HO.out.len]; exact hkp), List.getElem?_eq_getElem _⟩
      have hyl := HD.out.lim y (List.mem_of_getElem? hy)
      obtain ⟨g, rfl, hg1, hg3⟩ := HO2.out.head (by omega)
      have hyk : (zs ++ ds.drop k)[k]? = some y := by
       rw [List.getElem?_append_right (by rw [HDB.out.len]; exact Nat.le_refl _), HDB.out.len, Nat.sub_self, List.getElem?_drop, Nat.add_zero]
       exact hy
      have cy := HO2.out.cellAt hyk
      have fy := HO2.out.frozenAt k
      simp only [kU8] at cy
      obtain ⟨z, hz⟩ : ∃ z, z = (2 * y + ca) % 10 := ⟨_, rfl⟩
      obtain ⟨ca2, hca2⟩ : ∃ ca2, ca2 = (2 * y + ca) / 10 := ⟨_, rfl⟩
      have hst := HDB.out.step hy hyl
      rw [← hz, ← hca2] at hst
      obtain ⟨ho4, hg4⟩ := HO2.out.set_ k z (show z < 256 by omega)
      have hset : (zs ++ ds.drop k).set k z = zs ++ [z] ++ ds.drop (k + 1) := by
       rw [M.drop_pred hy, List.set_append, if_neg (by rw [HDB.out.len]; omega), HDB.out.len, Nat.sub_self, List.set_cons_zero, List.append_assoc]
       rfl
      rw [hset] at ho4
      have e1 : (2 * (y : Int) + (ca : Int)) % 10 = z := by rw [hz]; omega
      have e2 : (2 * (y : Int) + (ca : Int)) / 10 = ca2 := by rw [hca2]; omega
      have HST := Lib.hid hst
      have HO4 := Lib.hid ho4
      have HB4 := Lib.hid (HB2.out.setCell (p := ⟨g, k, none⟩) hg1 (.int .u8 (z : Int)))
      clear hst ho4 hg4 hset hy hyk hz hca2
      go_wp2
      go_roundg (p - (k + 1))
      case measure => have := HG2.out; omega
      case rel => exact ⟨k + 1, ca2, zs ++ [z], by omega, rfl, by go_num, by go_num, HST.out, HO4.out, HB4.out⟩
     ·obtain rfl : k = p := by omega
      have hod := HO2.out
      rw [List.drop_of_length_le (by rw [HO.out.len]; exact Nat.le_refl _), List.append_nil] at hod
      have hdd := HDB.out
      rw [← HO.out.len] at hdd
      have HOD := Lib.hid hod
      have hpl : k ≤ 100000 := by omega
      rcases (show ca = 0 ∨ ca = 1 by omega) with rfl | rfl
      ·have hfin := hdd.done0 HD.out
       rw [← HBV.out] at hfin
       have HF := Lib.hid hfin
       clear hod hdd hfin
       go_wp2
       go_roundg i
       case measure => have := HG.out; omega
       case rel => exact ⟨i, k, cp, D, zs, by omega, rfl, by go_num, rfl, HOD.out, by omega, HF.out, HB2.out⟩
      ·have hfin := hdd.done1 HD.out
       rw [← HBV.out] at hfin
       have HF := Lib.hid hfin
       clear hod hdd hfin
       go_wp2_with (at_builtin; refine app_own kU8 _ rfl _ _ rfl w1.heap.size D k cp zs rfl (HOD.out.alloc _) _ 1 1 [1] rfl (RdK.one (K := kU8) _ 1 (show 1 < 256 by omega)) (by omega) (by have := HB2.out.size; simp; omega) ?_; intro A5 c5 w5 ho5 hg5; have HO5 := Lib.hid ho5; have HG5 := Lib.hid hg5; clear ho5 hg5)
       go_roundg i
       case measure => have := HG.out; omega
       case rel => exact ⟨i, k + 1, c5, A5, zs ++ [1], by omega, rfl, by go_num, rfl, HO5.out, by omega, HF.out, below_app HB2.out HB2.out.size HOD.out HG5.out⟩
   | true =>
    obtain rfl : bt = 1 := hbt
    go_wp2
    go_loopg [6, 7] p (fun g q v wr => ∃ (k ca : Nat) (zs : List Nat), k ≤ p ∧ g = p - k ∧ q = .int .u8 (ca : Int) ∧ v = .int .i64 (k : Int) ∧ M.Db ds 1 k ca zs ∧ OwK kU8 wr w1.heap.size D p cp (zs ++ ds.drop k) ∧ Below w1.heap.size w1 wr)
    case atStart => exact ⟨0, 1, [], Nat.zero_le _, rfl, rfl, rfl, M.Db.start ds 1 (by omega), by simpa using HO.out, HB.out⟩
    case round =>
     obtain ⟨k, ca, zs, hk, hg2, rfl, rfl, hdb, ho2, hb2⟩ := hrel
     have hca := hdb.ca1
     have HG2 := Lib.hid hg2
     have HDB := Lib.hid hdb
     have HO2 := Lib.hid ho2
     have HB2 := Lib.hid hb2
     clear hg2 hdb ho2 hb2
     by_cases hkp : k < p
     ·obtain ⟨y, hy⟩ : ∃ y, ds[k]? = some y := ⟨ds[k]'(by rw [HO.out.len]; exact hkp), List.getElem?_eq_getElem _⟩
      have hyl := HD.out.lim y (List.mem_of_getElem? hy)
      obtain ⟨g, rfl, hg1, hg3⟩ := HO2.out.head (by omega)
      have hyk : (zs ++ ds.drop k)[k]? = some y := by
       rw [List.getElem?_append_right (by rw [HDB.out.len]; exact Nat.le_refl _), HDB.out.len, Nat.sub_self, List.getElem?_drop, Nat.add_zero]
       exact hy
      have cy := HO2.out.cellAt hyk
      have fy := HO2.out.frozenAt k
      simp only [kU8] at cy
      obtain ⟨z, hz⟩ : ∃ z, z = (2 * y + ca) % 10 := ⟨_, rfl⟩
      obtain ⟨ca2, hca2⟩ : ∃ ca2, ca2 = (2 * y + ca) / 10 := ⟨_, rfl⟩
      have hst := HDB.out.step hy hyl
      rw [← hz, ← hca2] at hst
      obtain ⟨ho4, hg4⟩ := HO2.out.set_ k z (show z < 256 by omega)
      have hset : (zs ++ ds.drop k).set k z = zs ++ [z] ++ ds.drop (k + 1) := by
       rw [M.drop_pred hy, List.set_append, if_neg (by rw [HDB.out.len]; omega), HDB.out.len, Nat.sub_self, List.set_cons_zero, List.append_assoc]
       rfl
      rw [hset] at ho4
      have e1 : (2 * (y : Int) + (ca : Int)) % 10 = z := by rw [hz]; omega
      have e2 : (2 * (y : Int) + (ca : Int)) / 10 = ca2 := by rw [hca2]; omega
      have HST := Lib.hid hst
      have HO4 := Lib.hid ho4
      have HB4 := Lib.hid (HB2.out.setCell (p := ⟨g, k, none⟩) hg1 (.int .u8 (z : Int)))
      clear hst ho4 hg4 hset hy hyk hz hca2
      go_wp2
      go_roundg (p - (k + 1))
      case measure => have := HG2.out; omega
      case rel => exact ⟨k + 1, ca2, zs ++ [z], by omega, rfl, by go_num, by go_num, HST.out, HO4.out, HB4.out⟩
     ·obtain rfl : k = p := by omega
      have hod := HO2.out
      rw [List.drop_of_length_le (by rw [HO.out.len]; exact Nat.le_refl _), List.append_nil] at hod
      have hdd := HDB.out
      rw [← HO.out.len] at hdd
      have HOD := Lib.hid hod
      have hpl : k ≤ 100000 := by omega
      rcases (show ca = 0 ∨ ca = 1 by omega) with rfl | rfl
      ·have hfin := hdd.done0 HD.out
       rw [← HBV.out] at hfin
       have HF := Lib.hid hfin
       clear hod hdd hfin
       go_wp2
       go_roundg i
       case measure => have := HG.out; omega
       case rel => exact ⟨i, k, cp, D, zs, by omega, rfl, by go_num, rfl, HOD.out, by omega, HF.out, HB2.out⟩
      ·have hfin := hdd.done1 HD.out
       rw [← HBV.out] at hfin
       have HF := Lib.hid hfin
       clear hod hdd hfin
       go_wp2_with (at_builtin; refine app_own kU8 _ rfl _ _ rfl w1.heap.size D k cp zs rfl (HOD.out.alloc _) _ 1 1 [1] rfl (RdK.one (K := kU8) _ 1 (show 1 < 256 by omega)) (by omega) (by have := HB2.out.size; simp; omega) ?_; intro A5 c5 w5 ho5 hg5; have HO5 := Lib.hid ho5; have HG5 := Lib.hid hg5; clear ho5 hg5)
       go_roundg i
       case measure => have := HG.out; omega
       case rel => exact ⟨i, k + 1, c5, A5, zs ++ [1], by omega, rfl, by go_num, rfl, HO5.out, by omega, HF.out, below_app HB2.out HB2.out.size HOD.out HG5.out⟩

end Go.Proofs.YtbhgbilhoonopaaGreat
