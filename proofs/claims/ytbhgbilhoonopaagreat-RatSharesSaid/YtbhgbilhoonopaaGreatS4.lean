/- Contracts of the program's functions, as far as the claims ask for them (4 of 4). -/
import Derived.Deep.Cut
import Derived.Deep.LoopGhost
import Derived.Lib.AppendZeros
import Derived.Test.YtbhgbilhoonopaaGreatS3
namespace Go.Proofs.YtbhgbilhoonopaaGreat
open Go.RowKit
set_option linter.unusedVariables false
set_option maxRecDepth 100000

set_option maxHeartbeats 2000000 in
theorem madeE_ofTwoR1 {w : World} {v : Value} {q : Rat} {k : Nat} {cap0 cap1 : Value} {q' : Rat} {k' ge : Nat} {o : Int} (h : IsQm w v q k) (hk : k ≤ 900) (hk1 : 1 ≤ k) (hge : ge < w.heap.size) (hf : ∀ W u, Below w.heap.size w W → w.heap.size + 2 ≤ W.heap.size → IsQ (w.heap.size + 2) W u q k → Calls Tryz.prog 97 #[u, cap0, cap1] W (AnsE ge W fun w' v => IsQ (w.heap.size + 2) w' v q' k' ∧ Be w' ge o)) : Calls Tryz.prog 57 #[v, .func (Fn.func 97) #[] #[cap0, cap1]] w (AnsE ge w fun w' v => IsQ w.heap.size w' v q' k' ∧ Be w' ge o) := by
 obtain ⟨b, A, n, c, B, m, d, rfl, z, y, hz, hy, rfl⟩ := h
 have PA := (Bq.new w b A n c B m d).alloc (.cells #[.bool false, .slice none 0 0, .slice none 0 0] 26)
 have PR := Bq.new2 w (.cells #[.bool b, .slice A n c, .slice B m d] 26) false none 0 0 none 0 0
 have BB := bl_trans (bl_alloc w (.cells #[.bool b, .slice A n c, .slice B m d] 26)) (bl_alloc _ (.cells #[.bool false, .slice none 0 0, .slice none 0 0] 26))
 have HF := Lib.hid hf
 have ZA := hz.below BB
 have NY := hy.below BB
 have HZ := Lib.hid hz
 clear hf hz hy
 have p2 := PA.c2
 go_enter Tryz.func57, Tryz.ntmps57
 go_wp2_with fail
 refine (cmpN NY (nilN _) (by omega) (Nat.zero_le _)).mono ?_
 rintro e w1 ⟨rfl, hb1⟩
 have hs1 := hb1.size
 simp only [hs_alloc] at hs1
 replace PA := PA.below hb1
 replace ZA := ZA.below hb1
 replace NY := NY.below hb1
 replace PR := PR.below hb1
 replace BB := bl_trans BB hb1
 clear hb1 p2
 by_cases hy0 : y = 0
 ·subst hy0
  rw [cmpV_eq]
  have p1 := PA.c2
  have g2 := PA.f 2
  go_wp2_with fail
  refine (cFromD (N := w.heap.size + 2) 1 (by omega) (by omega)).mono ?_
  rintro e w2 ⟨_, rfl, hb2, D1, n1, c1, rfl, o1, l1⟩
  have hs2 := hb2.size
  replace PA := PA.below hb2
  replace PR := PR.below hb2
  replace ZA := ZA.below hb2
  replace BB := bl_trans BB hb2
  clear hb2 p1 g2 NY
  have p0 := PA.c0
  have p1 := PA.c1
  have p2 := PA.c2
  have g2 := PA.f 2
  go_wp2_with fail
  clear p0 p1 p2 g2
  replace PA := PA.setD D1 n1 c1
  replace PR := PR.other (g' := w.heap.size) (i := 2) (v := .slice D1 n1 c1) (by omega)
  replace BB := BB.setCell (p := ⟨w.heap.size, 2, none⟩) (Nat.le_refl _) (.slice D1 n1 c1)
  replace ZA := HZ.out.below BB
  have ND : Nm (w2.setCell ⟨w.heap.size, 2, none⟩ (.slice D1 n1 c1)) D1 n1 c1 1 1 := ⟨⟨_, (OwK.rd (o1.grown (grownBy_setCell w2 ⟨w.heap.size, 2, none⟩ (.slice D1 n1 c1)) (fun p hp e => by injection e with e; have := (OwK.lt o1 hp).1; dsimp only at e; omega))), M.val_lims 1⟩, l1⟩
  have hs4 : w.heap.size + 2 ≤ (w2.setCell ⟨w.heap.size, 2, none⟩ (.slice D1 n1 c1)).heap.size := by simp [World.setCell]; omega
  generalize w2.setCell ⟨w.heap.size, 2, none⟩ (.slice D1 n1 c1) = W2 at PA PR BB ZA ND hs4 ⊢
  clear o1 l1
  refine (cLowest ⟨_, _, _, _, rfl, ZA⟩ ⟨_, _, _, rfl, ND⟩ (by omega) (by omega) (by omega)).mono ?_
  rintro e w3 ⟨u, rfl, hb3, q3⟩
  have hs3 := hb3.size
  have q3' := (q3.mono (show max k 1 ≤ k by omega)).base (N' := w.heap.size + 2) (by omega)
  replace PR := PR.below hb3
  replace BB := bl_trans BB hb3
  clear hb3 q3  PA ZA ND
  go_wp2_with fail
  refine (HF.out _ _ BB (by omega) (by rw [dOf_zero]; exact q3')).mono ?_
  rintro e w4 ⟨r, rfl, hb4, q4, he4⟩
  obtain ⟨b4, A4, n4, c4, B4, m4, d4, rfl, q4'⟩ := id q4
  replace PR := PR.blE hb4 (by omega)
  have r0 := PR.c0
  have f0 := PR.f 0
  have r1 := PR.c1
  have f1 := PR.f 1
  have r2 := PR.c2
  have f2 := PR.f 2
  have BE := BlE.of BB hb4
  clear hb4 q3' HF
  clear q4'
  go_wp2_with fail
  exact bodyPost_ret (v := .agg #[.bool b4, .slice A4 n4 c4, .slice B4 m4 d4]) (by simp [results, Tryz.results57, go_sem, *]) rfl (fin_qE q4 he4 BE hge (by omega) (by omega) _ _ _)
 ·have HY := Lib.hid hy0
  have hc : (cmpV y 0 == 0) = false := by rw [cmpV_gt (by omega)]; rfl
  rw [cmpV_gt (show 0 < y by omega)]
  clear hc hy0
  have p0 := PA.c0
  have p1 := PA.c1
  have p2 := PA.c2
  go_wp2_with fail
  refine (cLowest ⟨_, _, _, _, rfl, ZA⟩ ⟨_, _, _, rfl, NY⟩ (by omega) (by omega) HY.out).mono ?_
  rintro e w3 ⟨u, rfl, hb3, q3⟩
  have hs3 := hb3.size
  have q3' := (q3.mono (show max k k ≤ k by omega)).base (N' := w.heap.size + 2) (by omega)
  replace PR := PR.below hb3
  replace BB := bl_trans BB hb3
  clear hb3 q3 p0 p1 p2 PA ZA NY
  go_wp2_with fail
  refine (HF.out _ _ BB (by omega) (by rw [dOf_of HY.out]; exact q3')).mono ?_
  rintro e w4 ⟨r, rfl, hb4, q4, he4⟩
  obtain ⟨b4, A4, n4, c4, B4, m4, d4, rfl, q4'⟩ := id q4
  replace PR := PR.blE hb4 (by omega)
  have r0 := PR.c0
  have f0 := PR.f 0
  have r1 := PR.c1
  have f1 := PR.f 1
  have r2 := PR.c2
  have f2 := PR.f 2
  have BE := BlE.of BB hb4
  clear hb4 q3' HF
  clear q4'
  go_wp2_with fail
  exact bodyPost_ret (v := .agg #[.bool b4, .slice A4 n4 c4, .slice B4 m4 d4]) (by simp [results, Tryz.results57, go_sem, *]) rfl (fin_qE q4 he4 BE hge (by omega) (by omega) _ _ _)

set_option maxHeartbeats 2000000 in
theorem madeE_ofTwoR2 {w : World} {v : Value} {q : Rat} {k : Nat} {cap0 cap1 : Value} {q' : Rat} {k' ge : Nat} {o : Int} (h : IsQm w v q k) (hk : k ≤ 900) (hk1 : 1 ≤ k) (hge : ge < w.heap.size) (hf : ∀ W u, Below w.heap.size w W → w.heap.size + 2 ≤ W.heap.size → IsQ (w.heap.size + 2) W u q k → Calls Tryz.prog 98 #[u, cap0, cap1] W (AnsE ge W fun w' v => IsQ (w.heap.size + 2) w' v q' k' ∧ Be w' ge o)) : Calls Tryz.prog 57 #[v, .func (Fn.func 98) #[] #[cap0, cap1]] w (AnsE ge w fun w' v => IsQ w.heap.size w' v q' k' ∧ Be w' ge o) := by
 obtain ⟨b, A, n, c, B, m, d, rfl, z, y, hz, hy, rfl⟩ := h
 have PA := (Bq.new w b A n c B m d).alloc (.cells #[.bool false, .slice none 0 0, .slice none 0 0] 26)
 have PR := Bq.new2 w (.cells #[.bool b, .slice A n c, .slice B m d] 26) false none 0 0 none 0 0
 have BB := bl_trans (bl_alloc w (.cells #[.bool b, .slice A n c, .slice B m d] 26)) (bl_alloc _ (.cells #[.bool false, .slice none 0 0, .slice none 0 0] 26))
 have HF := Lib.hid hf
 have ZA := hz.below BB
 have NY := hy.below BB
 have HZ := Lib.hid hz
 clear hf hz hy
 have p2 := PA.c2
 go_enter Tryz.func57, Tryz.ntmps57
 go_wp2_with fail
 refine (cmpN NY (nilN _) (by omega) (Nat.zero_le _)).mono ?_
 rintro e w1 ⟨rfl, hb1⟩
 have hs1 := hb1.size
 simp only [hs_alloc] at hs1
 replace PA := PA.below hb1
 replace ZA := ZA.below hb1
 replace NY := NY.below hb1
 replace PR := PR.below hb1
 replace BB := bl_trans BB hb1
 clear hb1 p2
 by_cases hy0 : y = 0
 ·subst hy0
  rw [cmpV_eq]
  have p1 := PA.c2
  have g2 := PA.f 2
  go_wp2_with fail
  refine (cFromD (N := w.heap.size + 2) 1 (by omega) (by omega)).mono ?_
  rintro e w2 ⟨_, rfl, hb2, D1, n1, c1, rfl, o1, l1⟩
  have hs2 := hb2.size
  replace PA := PA.below hb2
  replace PR := PR.below hb2
  replace ZA := ZA.below hb2
  replace BB := bl_trans BB hb2
  clear hb2 p1 g2 NY
  have p0 := PA.c0
  have p1 := PA.c1
  have p2 := PA.c2
  have g2 := PA.f 2
  go_wp2_with fail
  clear p0 p1 p2 g2
  replace PA := PA.setD D1 n1 c1
  replace PR := PR.other (g' := w.heap.size) (i := 2) (v := .slice D1 n1 c1) (by omega)
  replace BB := BB.setCell (p := ⟨w.heap.size, 2, none⟩) (Nat.le_refl _) (.slice D1 n1 c1)
  replace ZA := HZ.out.below BB
  have ND : Nm (w2.setCell ⟨w.heap.size, 2, none⟩ (.slice D1 n1 c1)) D1 n1 c1 1 1 := ⟨⟨_, (OwK.rd (o1.grown (grownBy_setCell w2 ⟨w.heap.size, 2, none⟩ (.slice D1 n1 c1)) (fun p hp e => by injection e with e; have := (OwK.lt o1 hp).1; dsimp only at e; omega))), M.val_lims 1⟩, l1⟩
  have hs4 : w.heap.size + 2 ≤ (w2.setCell ⟨w.heap.size, 2, none⟩ (.slice D1 n1 c1)).heap.size := by simp [World.setCell]; omega
  generalize w2.setCell ⟨w.heap.size, 2, none⟩ (.slice D1 n1 c1) = W2 at PA PR BB ZA ND hs4 ⊢
  clear o1 l1
  refine (cLowest ⟨_, _, _, _, rfl, ZA⟩ ⟨_, _, _, rfl, ND⟩ (by omega) (by omega) (by omega)).mono ?_
  rintro e w3 ⟨u, rfl, hb3, q3⟩
  have hs3 := hb3.size
  have q3' := (q3.mono (show max k 1 ≤ k by omega)).base (N' := w.heap.size + 2) (by omega)
  replace PR := PR.below hb3
  replace BB := bl_trans BB hb3
  clear hb3 q3  PA ZA ND
  go_wp2_with fail
  refine (HF.out _ _ BB (by omega) (by rw [dOf_zero]; exact q3')).mono ?_
  rintro e w4 ⟨r, rfl, hb4, q4, he4⟩
  obtain ⟨b4, A4, n4, c4, B4, m4, d4, rfl, q4'⟩ := id q4
  replace PR := PR.blE hb4 (by omega)
  have r0 := PR.c0
  have f0 := PR.f 0
  have r1 := PR.c1
  have f1 := PR.f 1
  have r2 := PR.c2
  have f2 := PR.f 2
  have BE := BlE.of BB hb4
  clear hb4 q3' HF
  clear q4'
  go_wp2_with fail
  exact bodyPost_ret (v := .agg #[.bool b4, .slice A4 n4 c4, .slice B4 m4 d4]) (by simp [results, Tryz.results57, go_sem, *]) rfl (fin_qE q4 he4 BE hge (by omega) (by omega) _ _ _)
 ·have HY := Lib.hid hy0
  have hc : (cmpV y 0 == 0) = false := by rw [cmpV_gt (by omega)]; rfl
  rw [cmpV_gt (show 0 < y by omega)]
  clear hc hy0
  have p0 := PA.c0
  have p1 := PA.c1
  have p2 := PA.c2
  go_wp2_with fail
  refine (cLowest ⟨_, _, _, _, rfl, ZA⟩ ⟨_, _, _, rfl, NY⟩ (by omega) (by omega) HY.out).mono ?_
  rintro e w3 ⟨u, rfl, hb3, q3⟩
  have hs3 := hb3.size
  have q3' := (q3.mono (show max k k ≤ k by omega)).base (N' := w.heap.size + 2) (by omega)
  replace PR := PR.below hb3
  replace BB := bl_trans BB hb3
  clear hb3 q3 p0 p1 p2 PA ZA NY
  go_wp2_with fail
  refine (HF.out _ _ BB (by omega) (by rw [dOf_of HY.out]; exact q3')).mono ?_
  rintro e w4 ⟨r, rfl, hb4, q4, he4⟩
  obtain ⟨b4, A4, n4, c4, B4, m4, d4, rfl, q4'⟩ := id q4
  replace PR := PR.blE hb4 (by omega)
  have r0 := PR.c0
  have f0 := PR.f 0
  have r1 := PR.c1
  have f1 := PR.f 1
  have r2 := PR.c2
  have f2 := PR.f 2
  have BE := BlE.of BB hb4
  clear hb4 q3' HF
  clear q4'
  go_wp2_with fail
  exact bodyPost_ret (v := .agg #[.bool b4, .slice A4 n4 c4, .slice B4 m4 d4]) (by simp [results, Tryz.results57, go_sem, *]) rfl (fin_qE q4 he4 BE hge (by omega) (by omega) _ _ _)

theorem one_le_of {x k : Nat} (h : x ≠ 0) (g : x < M.R ^ k) : 1 ≤ k := by
 rcases k with _ | k
 ·rw [Nat.pow_zero] at g; omega
 ·omega
theorem eO_eQ (p q : Rat) : eO (q.num * ((ofB p q : Nat) : Int)) = eQ q := by
 unfold eO eQ
 by_cases h : q = 0
 ·rw [if_pos h, if_pos (by rw [h]; simp)]
 ·rw [if_neg h, if_neg (Int.mul_ne_zero (fun e => h (Rat.num_eq_zero.1 e)) (by have := two_B_pos p q; omega))]
set_option maxHeartbeats 4000000 in
theorem two2_Div {w : World} {v : Value} {p q : Rat} {k j N ga gt ge : Nat} {o : Int} {b : Bool} {A B : Option Addr} {n c m d : Nat} (hb : IsQ N w v q j) (PA : Bq w ga b A n c B m d) (QP : IsQt w (.agg #[.bool b, .slice A n c, .slice B m d]) p k) (PT : Bf w gt (.func (Fn.func 49) #[] #[.pointer (some ⟨ge, 0, none⟩)]) 58) (PE : Be w ge o) (hk : k ≤ 18) (hj : j ≤ 18) : Calls Tryz.prog 98 #[v, .pointer (some ⟨ga, 0, none⟩), .pointer (some ⟨gt, 0, none⟩)] w (AnsE ge w fun w' v => IsQ w.heap.size w' v (p / q) (k + j) ∧ Be w' ge (eQ q)) := by
 obtain ⟨t, A', n', c', B', m', d', rfl, Zb, Ob, lb⟩ := hb
 have h1 := QP.num_lt
 have h2 := QP.den_lt
 have h3 : q.num.natAbs < M.R ^ j := Zb.tm.nm.lt
 have h4 : q.den < M.R ^ j := by rw [← M.lims_length_le, Ob.len]; exact lb
 obtain ⟨_, _, _, _, _, _, _, ea, Ta, hsa, Da⟩ := QP
 cases ea
 have HG := Lib.hid (show p.den.gcd q.den ≠ 0 by have := two_g p q; omega)
 have PB := (Bq.new w t A' n' c' B' m' d').alloc (.cells #[.bool false, .slice none 0 0, .slice none 0 0] 26)
 have PR := Bq.new2 w (.cells #[.bool t, .slice A' n' c', .slice B' m' d'] 26) false none 0 0 none 0 0
 have BB := bl_trans (bl_alloc w (.cells #[.bool t, .slice A' n' c', .slice B' m' d'] 26)) (bl_alloc _ (.cells #[.bool false, .slice none 0 0, .slice none 0 0] 26))
 have hge := PE.lt
 replace PE := PE.below BB
 have HM := Lib.hid (eO_eQ p q)
 have HT := Lib.hid (two_div p q)
 have hga := PA.lt
 have hgt := PT.lt
 replace PA := PA.below BB
 replace PT := PT.below BB
 have NA : Nm _ B m d p.den k := (Da.nm).below BB
 have NB : Nm _ B' m' d' q.den j := Nm.below ⟨⟨_, Ob.rd, M.val_lims _⟩, lb⟩ BB
 have ZA : IsM ((w.alloc (.cells #[.bool t, .slice A' n' c', .slice B' m' d'] 26)).alloc (.cells #[.bool false, .slice none 0 0, .slice none 0 0] 26)) (.agg #[.bool b, .slice A n c]) p.num k := by
  refine ⟨_, _, _, _, rfl, ⟨⟨_, Ta.nm.below BB, ?_⟩⟩⟩
  rw [hsa]
  by_cases h : p.num < 0
  ·rw [decide_eq_true h, zv_true]; omega
  ·rw [decide_eq_false h, zv_false]; omega
 have ZB : IsM ((w.alloc (.cells #[.bool t, .slice A' n' c', .slice B' m' d'] 26)).alloc (.cells #[.bool false, .slice none 0 0, .slice none 0 0] 26)) (.agg #[.bool t, .slice A' n' c']) q.num j := ⟨_, _, _, _, rfl, Zb.zm.below BB⟩
 have hs0 : ((w.alloc (.cells #[.bool t, .slice A' n' c', .slice B' m' d'] 26)).alloc (.cells #[.bool false, .slice none 0 0, .slice none 0 0] 26)).heap.size = w.heap.size + 2 := by simp
 clear Zb Ob lb Ta hsa Da
 have a2 := PA.c2
 have b2 := PB.c2
 go_enter Tryz.func98, Tryz.ntmps98
 go_wp2_with fail
 clear a2 b2
 generalize ((w.alloc (.cells #[.bool t, .slice A' n' c', .slice B' m' d'] 26)).alloc (.cells #[.bool false, .slice none 0 0, .slice none 0 0] 26)) = W0 at PA PB PT PR PE NA NB ZA ZB BB hs0 ⊢
 refine (cGcd (N := 0) ⟨_, _, _, rfl, NA⟩ ⟨_, _, _, rfl, NB⟩ (by omega) (by omega) (Nat.zero_le _)).mono ?_
 rintro e w1 ⟨_, rfl, hb1, G, gn, gc, rfl, og, lg⟩
 have NG : Nm w1 G gn gc (p.den.gcd q.den) (max k j) := ⟨⟨_, og.rd, M.val_lims _⟩, lg⟩
 have hs1 := hb1.size
 replace PA := PA.below hb1
 replace PB := PB.below hb1
 replace PT := PT.below hb1
 replace PR := PR.below hb1
 replace PE := PE.below hb1
 replace NA := NA.below hb1
 replace NB := NB.below hb1
 replace ZA := ZA.below hb1
 replace ZB := ZB.below hb1
 replace BB := bl_trans BB hb1
 clear hb1 og lg
 go_wp2_with fail
 refine wp_region_list (Ext := RB) (Rel := RBu) [fun v _ _ => v = .pointer (some ⟨w.heap.size, 2, none⟩), fun v _ _ => v = .slice B' m' d', fun v _ _ => v = .slice G gn gc, fun v _ w => IsD (w1).heap.size w v (q.den / (p.den.gcd q.den)) j, fun v _ _ => v = .pointer (some ⟨ga, 2, none⟩), fun v _ _ => v = .slice B m d, fun v _ _ => v = .slice G gn gc, fun v _ w => IsD (w1).heap.size w v (p.den / (p.den.gcd q.den)) k, fun v _ w => IsD (w1).heap.size w v (q.den / (p.den.gcd q.den)) j, fun v _ w => IsD (w1).heap.size w v (p.den / (p.den.gcd q.den)) k] (n := 10) (by kernel_rfl) rfl (by kernel_rfl) (by kernel_rfl) (by kernel_rfl) (by kernel_rfl) (by kernel_rfl) rb_refl rb_trans ⟨sC, ⟨sC, ⟨sC, ⟨sD, ⟨sC, ⟨sC, ⟨sC, ⟨sD, ⟨sD, ⟨sD, trivial⟩⟩⟩⟩⟩⟩⟩⟩⟩⟩ ?_ ?_
 ·refine ⟨⟨⟨⟨⟨⟨⟨⟨⟨⟨trivial, ?_⟩, ?_⟩, ?_⟩, ?_⟩, ?_⟩, ?_⟩, ?_⟩, ?_⟩, ?_⟩, ?_⟩
  ·refine rs_plain rfl rfl fun a wr S => ?_
   have X := undrew S.ext
   exact wp_qf1 (ev_of ((S.old 3 (by kernel_rfl)).trans rfl)) (done (by kernel_rfl) rbu_refl rfl)
  ·refine rs_plain rfl rfl fun a wr S => ?_
   have X := undrew S.ext
   obtain ⟨v0, e0, h0⟩ := S.got 0 (by kernel_rfl)
   exact wp_qD ((ev_of (e0 15 (by kernel_rfl))).trans h0) (PB.below X) (done (by kernel_rfl) rbu_refl rfl)
  ·refine rs_plain rfl rfl fun a wr S => ?_
   have X := undrew S.ext
   exact wp_mv (ev_of ((S.old 5 (by kernel_rfl)).trans rfl)) (done (by kernel_rfl) rbu_refl rfl)
  ·refine rs_plain rfl rfl fun a wr S => ?_
   have X := undrew S.ext
   obtain ⟨v1, e1, h1⟩ := S.got 1 (by kernel_rfl)
   obtain ⟨v2, e2, h2⟩ := S.got 2 (by kernel_rfl)
   exact st_call cf_rat_without (args2 ((ev_of (e1 16 (by kernel_rfl))).trans h1) ((ev_of (e2 17 (by kernel_rfl))).trans h2)) (by kernel_rfl) rb (cWithout ⟨_, _, _, rfl, NB.below X⟩ ⟨_, _, _, rfl, NG.below X⟩ (by omega) (by omega) HG.out X.size) (fun _ _ _ h => h)
  ·refine rs_plain rfl rfl fun a wr S => ?_
   have X := undrew S.ext
   exact wp_qf1 (ev_of ((S.old 1 (by kernel_rfl)).trans rfl)) (done (by kernel_rfl) rbu_refl rfl)
  ·refine rs_plain rfl rfl fun a wr S => ?_
   have X := undrew S.ext
   obtain ⟨v4, e4, h4⟩ := S.got 4 (by kernel_rfl)
   exact wp_qD ((ev_of (e4 19 (by kernel_rfl))).trans h4) (PA.below X) (done (by kernel_rfl) rbu_refl rfl)
  ·refine rs_plain rfl rfl fun a wr S => ?_
   have X := undrew S.ext
   exact wp_mv (ev_of ((S.old 5 (by kernel_rfl)).trans rfl)) (done (by kernel_rfl) rbu_refl rfl)
  ·refine rs_plain rfl rfl fun a wr S => ?_
   have X := undrew S.ext
   obtain ⟨v5, e5, h5⟩ := S.got 5 (by kernel_rfl)
   obtain ⟨v6, e6, h6⟩ := S.got 6 (by kernel_rfl)
   exact st_call cf_rat_without (args2 ((ev_of (e5 20 (by kernel_rfl))).trans h5) ((ev_of (e6 21 (by kernel_rfl))).trans h6)) (by kernel_rfl) rb (cWithout ⟨_, _, _, rfl, NA.below X⟩ ⟨_, _, _, rfl, NG.below X⟩ (by omega) (by omega) HG.out X.size) (fun _ _ _ h => h)
  ·refine rs_plain rfl rfl fun a wr S => ?_
   have X := undrew S.ext
   obtain ⟨v3, e3, h3⟩ := S.got 3 (by kernel_rfl)
   exact wp_as (ev_of (e3 18 (by kernel_rfl))) (done (by kernel_rfl) rbu_refl h3)
  ·refine rs_plain rfl rfl fun a wr S => ?_
   have X := undrew S.ext
   obtain ⟨v7, e7, h7⟩ := S.got 7 (by kernel_rfl)
   exact wp_as (ev_of (e7 22 (by kernel_rfl))) (done (by kernel_rfl) rbu_refl h7)
 ·intro fa w2 hR hv
  replace hR := undrew hR
  have f0 : fa 0 = .pointer (some ⟨w.heap.size, 2, none⟩) := (hvc (hv 0 (by omega))).elim fun _ h => h
  have f1 : fa 1 = .slice B' m' d' := (hvc (hv 1 (by omega))).elim fun _ h => h
  have f2 : fa 2 = .slice G gn gc := (hvc (hv 2 (by omega))).elim fun _ h => h
  have f4 : fa 4 = .pointer (some ⟨ga, 2, none⟩) := (hvc (hv 4 (by omega))).elim fun _ h => h
  have f5 : fa 5 = .slice B m d := (hvc (hv 5 (by omega))).elim fun _ h => h
  have f6 : fa 6 = .slice G gn gc := (hvc (hv 6 (by omega))).elim fun _ h => h
  obtain ⟨Ax, nx, cx, f8, Ox, lx⟩ := (show IsD _ w2 _ (q.den / (p.den.gcd q.den)) j from (hvc (hv 8 (by omega))).elim fun _ h => h)
  obtain ⟨Ay, ny, cy, f9, Oy, ly⟩ := (show IsD _ w2 _ (p.den / (p.den.gcd q.den)) k from (hvc (hv 9 (by omega))).elim fun _ h => h)
  simp only [putFn, Act.put, List.setIfInBounds_toArray, List.set_cons_zero, List.set_cons_succ, f0, f1, f2, f4, f5, f6, f8, f9]
  have NX : Nm w2 Ax nx cx (ofA p q) j := ⟨⟨_, Ox.rd, M.val_lims _⟩, lx⟩
  have NY : Nm w2 Ay ny cy (ofB p q) k := ⟨⟨_, Oy.rd, M.val_lims _⟩, ly⟩
  have hs2 := hR.size
  replace PA := PA.below hR
  replace PB := PB.below hR
  replace PT := PT.below hR
  replace PR := PR.below hR
  replace PE := PE.below hR
  replace NA := NA.below hR
  replace NB := NB.below hR
  replace ZA := ZA.below hR
  replace ZB := ZB.below hR
  replace BB := bl_trans BB hR
  clear hR hv Ox lx Oy ly NG NB
  go_wp2_with fail
  refine wp_region_list (Ext := (BelX (w2).heap.size)) (Rel := (BelU (w2).heap.size)) [fun v _ _ => v = .pointer (some ⟨ga, 0, none⟩), fun v _ _ => v = .agg #[.bool b, .slice A n c], fun v _ _ => v = .slice Ax nx cx, fun v _ _ => v = .agg #[.bool false, .slice Ax nx cx], fun v _ w => IsR2 w v (p.num) k (((ofA p q : Nat) : Int)) j, fun v _ w => IsZ (w2).heap.size w v (p.num * (((ofA p q : Nat) : Int))) (k + j), fun v _ w => IsP (w2).heap.size v w, fun _ u w => HasZ (w2).heap.size u w (p.num * (((ofA p q : Nat) : Int))) (k + j)] (n := 8) (by kernel_rfl) rfl (by kernel_rfl) (by kernel_rfl) (by kernel_rfl) (by kernel_rfl) (by kernel_rfl) (rx_refl _) (rxu_trans _) ⟨sC, ⟨sC, ⟨sC, ⟨sC, ⟨xR2, ⟨xZ, ⟨xP, ⟨xHZ, trivial⟩⟩⟩⟩⟩⟩⟩⟩ ?_ ?_
  ·refine ⟨⟨⟨⟨⟨⟨⟨⟨trivial, ?_⟩, ?_⟩, ?_⟩, ?_⟩, ?_⟩, ?_⟩, ?_⟩, ?_⟩
   ·refine rs_plain rfl rfl fun a wr S => ?_
    have X := undrewX S.ext
    exact wp_qf0 (ev_of ((S.old 1 (by kernel_rfl)).trans rfl)) (done (by kernel_rfl) (rxu_refl _) rfl)
   ·refine rs_plain rfl rfl fun a wr S => ?_
    have X := undrewX S.ext
    obtain ⟨v0, e0, h0⟩ := S.got 0 (by kernel_rfl)
    exact wp_qN ((ev_of (e0 23 (by kernel_rfl))).trans h0) (PA.below X) (done (by kernel_rfl) (rxu_refl _) rfl)
   ·refine rs_plain rfl rfl fun a wr S => ?_
    have X := undrewX S.ext
    exact wp_mv (ev_of ((S.old 6 (by kernel_rfl)).trans rfl)) (done (by kernel_rfl) (rxu_refl _) rfl)
   ·refine rs_plain rfl rfl fun a wr S => ?_
    have X := undrewX S.ext
    obtain ⟨v2, e2, h2⟩ := S.got 2 (by kernel_rfl)
    exact st_call cf_rat_unsigned (args1 ((ev_of (e2 25 (by kernel_rfl))).trans h2)) (by kernel_rfl) (rxu _) (cUnsigned _ _ _) (fun _ _ _ h => h)
   ·refine rs_plain rfl rfl fun a wr S => ?_
    have X := undrewX S.ext
    obtain ⟨v1, e1, h1⟩ := S.got 1 (by kernel_rfl)
    obtain ⟨v3, e3, h3⟩ := S.got 3 (by kernel_rfl)
    obtain ⟨b0, A0, n0, c0, hv0, Z0⟩ := (show IsM wr _ _ _ from (ZA.below X))
    obtain ⟨b1, A1, n1, c1, hv1, Z1⟩ := (show IsM wr _ _ _ from (unsM (NX.below X)))
    exact wp_bs2 (((ev_of (e1 24 (by kernel_rfl))).trans h1).trans hv0) (((ev_of (e3 26 (by kernel_rfl))).trans h3).trans hv1) (done' (by kernel_rfl) ((rxu _) _ _ _ (bl_alloc _ _)) (IsR2.new Z0 Z1))
   ·refine rs_plain rfl rfl fun a wr S => ?_
    have X := undrewX S.ext
    obtain ⟨v4, e4, h4⟩ := S.got 4 (by kernel_rfl)
    exact st_call cf_big_Mul (args1 (ev_of (e4 27 (by kernel_rfl)))) (by kernel_rfl) (rxu _) (cMul2 (z := p.num) (u := (((ofA p q : Nat) : Int))) h4 (by omega) (by omega) (by omega) X.size) (fun _ _ _ h => h)
   ·refine rs_plain rfl rfl fun a wr S => ?_
    have X := undrewX S.ext
    refine st_alloc X.size (fun _ _ _ h => h) fun j vj u hj hs => ?_
    have hj' : j ∈ [6] := alloc_cases (by kernel_rfl) j hj
    simp only [List.mem_cons, List.not_mem_nil, or_false] at hj'
    subst hj'; exact hs
   ·refine rs_plain rfl rfl fun a wr S => ?_
    have X := undrewX S.ext
    obtain ⟨v6, e6, h6⟩ := S.got 6 (by kernel_rfl)
    obtain ⟨v5, e5, h5⟩ := S.got 5 (by kernel_rfl)
    exact st_storeZ (by kernel_rfl) (by kernel_rfl) (ev_of (e6 8 (by kernel_rfl))) h6 (ev_of (e5 28 (by kernel_rfl))) h5 (fun _ _ _ h => h)
  ·intro fb w3 hR hv
   replace hR := undrewX hR
   have f0 : fb 0 = .pointer (some ⟨ga, 0, none⟩) := (hvc (hv 0 (by omega))).elim fun _ h => h
   have f1 : fb 1 = .agg #[.bool b, .slice A n c] := (hvc (hv 1 (by omega))).elim fun _ h => h
   have f2 : fb 2 = .slice Ax nx cx := (hvc (hv 2 (by omega))).elim fun _ h => h
   have f3 : fb 3 = .agg #[.bool false, .slice Ax nx cx] := (hvc (hv 3 (by omega))).elim fun _ h => h
   obtain ⟨gn, bn, An, nn, cn, f6, hgn, Pn, Zn⟩ := (show HasZ _ (fb 6) w3 (p.num * (((ofA p q : Nat) : Int))) (k + j) from hvs (hv 7 (by omega)) (by kernel_rfl))
   simp only [putFn, Act.put, List.setIfInBounds_toArray, List.set_cons_zero, List.set_cons_succ, f0, f1, f2, f3, f6]
   have hs3 := hR.size
   replace PA := PA.below hR
   replace PB := PB.below hR
   replace PT := PT.below hR
   replace PR := PR.below hR
   replace PE := PE.below hR
   replace NA := NA.below hR
   replace ZA := ZA.below hR
   replace ZB := ZB.below hR
   replace NX := NX.below hR
   replace NY := NY.below hR
   replace BB := bl_trans BB hR
   have QN : IsM w3 (.agg #[.bool bn, .slice An nn cn]) (p.num * ((ofA p q : Nat) : Int)) (k + j) := ⟨_, _, _, _, rfl, Zn.zm⟩
   clear hR hv Zn hgn ZA
   go_wp2_with fail
   refine wp_region_list (Ext := (BelX (w3).heap.size)) (Rel := (BelU (w3).heap.size)) [fun v _ _ => v = .pointer (some ⟨w.heap.size, 0, none⟩), fun v _ _ => v = .agg #[.bool t, .slice A' n' c'], fun v _ _ => v = .slice Ay ny cy, fun v _ _ => v = .agg #[.bool false, .slice Ay ny cy], fun v _ w => IsR2 w v (q.num) j (((ofB p q : Nat) : Int)) k, fun v _ w => IsZ (w3).heap.size w v (q.num * (((ofB p q : Nat) : Int))) (j + k), fun v _ w => IsP (w3).heap.size v w, fun _ u w => HasZ (w3).heap.size u w (q.num * (((ofB p q : Nat) : Int))) (j + k)] (n := 8) (by kernel_rfl) rfl (by kernel_rfl) (by kernel_rfl) (by kernel_rfl) (by kernel_rfl) (by kernel_rfl) (rx_refl _) (rxu_trans _) ⟨sC, ⟨sC, ⟨sC, ⟨sC, ⟨xR2, ⟨xZ, ⟨xP, ⟨xHZ, trivial⟩⟩⟩⟩⟩⟩⟩⟩ ?_ ?_
   ·refine ⟨⟨⟨⟨⟨⟨⟨⟨trivial, ?_⟩, ?_⟩, ?_⟩, ?_⟩, ?_⟩, ?_⟩, ?_⟩, ?_⟩
    ·refine rs_plain rfl rfl fun a wr S => ?_
     have X := undrewX S.ext
     exact wp_qf0 (ev_of ((S.old 3 (by kernel_rfl)).trans rfl)) (done (by kernel_rfl) (rxu_refl _) rfl)
    ·refine rs_plain rfl rfl fun a wr S => ?_
     have X := undrewX S.ext
     obtain ⟨v0, e0, h0⟩ := S.got 0 (by kernel_rfl)
     exact wp_qN ((ev_of (e0 29 (by kernel_rfl))).trans h0) (PB.below X) (done (by kernel_rfl) (rxu_refl _) rfl)
    ·refine rs_plain rfl rfl fun a wr S => ?_
     have X := undrewX S.ext
     exact wp_mv (ev_of ((S.old 7 (by kernel_rfl)).trans rfl)) (done (by kernel_rfl) (rxu_refl _) rfl)
    ·refine rs_plain rfl rfl fun a wr S => ?_
     have X := undrewX S.ext
     obtain ⟨v2, e2, h2⟩ := S.got 2 (by kernel_rfl)
     exact st_call cf_rat_unsigned (args1 ((ev_of (e2 31 (by kernel_rfl))).trans h2)) (by kernel_rfl) (rxu _) (cUnsigned _ _ _) (fun _ _ _ h => h)
    ·refine rs_plain rfl rfl fun a wr S => ?_
     have X := undrewX S.ext
     obtain ⟨v1, e1, h1⟩ := S.got 1 (by kernel_rfl)
     obtain ⟨v3, e3, h3⟩ := S.got 3 (by kernel_rfl)
     obtain ⟨b0, A0, n0, c0, hv0, Z0⟩ := (show IsM wr _ _ _ from (ZB.below X))
     obtain ⟨b1, A1, n1, c1, hv1, Z1⟩ := (show IsM wr _ _ _ from (unsM (NY.below X)))
     exact wp_bs2 (((ev_of (e1 30 (by kernel_rfl))).trans h1).trans hv0) (((ev_of (e3 32 (by kernel_rfl))).trans h3).trans hv1) (done' (by kernel_rfl) ((rxu _) _ _ _ (bl_alloc _ _)) (IsR2.new Z0 Z1))
    ·refine rs_plain rfl rfl fun a wr S => ?_
     have X := undrewX S.ext
     obtain ⟨v4, e4, h4⟩ := S.got 4 (by kernel_rfl)
     exact st_call cf_big_Mul (args1 (ev_of (e4 33 (by kernel_rfl)))) (by kernel_rfl) (rxu _) (cMul2 (z := q.num) (u := (((ofB p q : Nat) : Int))) h4 (by omega) (by omega) (by omega) X.size) (fun _ _ _ h => h)
    ·refine rs_plain rfl rfl fun a wr S => ?_
     have X := undrewX S.ext
     refine st_alloc X.size (fun _ _ _ h => h) fun j vj u hj hs => ?_
     have hj' : j ∈ [6] := alloc_cases (by kernel_rfl) j hj
     simp only [List.mem_cons, List.not_mem_nil, or_false] at hj'
     subst hj'; exact hs
    ·refine rs_plain rfl rfl fun a wr S => ?_
     have X := undrewX S.ext
     obtain ⟨v6, e6, h6⟩ := S.got 6 (by kernel_rfl)
     obtain ⟨v5, e5, h5⟩ := S.got 5 (by kernel_rfl)
     exact st_storeZ (by kernel_rfl) (by kernel_rfl) (ev_of (e6 9 (by kernel_rfl))) h6 (ev_of (e5 34 (by kernel_rfl))) h5 (fun _ _ _ h => h)
   ·intro fc w4 hR hv
    replace hR := undrewX hR
    have f0 : fc 0 = .pointer (some ⟨w.heap.size, 0, none⟩) := (hvc (hv 0 (by omega))).elim fun _ h => h
    have f1 : fc 1 = .agg #[.bool t, .slice A' n' c'] := (hvc (hv 1 (by omega))).elim fun _ h => h
    have f2 : fc 2 = .slice Ay ny cy := (hvc (hv 2 (by omega))).elim fun _ h => h
    have f3 : fc 3 = .agg #[.bool false, .slice Ay ny cy] := (hvc (hv 3 (by omega))).elim fun _ h => h
    obtain ⟨gm, bm, Am, nm, cm, f6, hgm, Pm, Zm⟩ := (show HasZ _ (fc 6) w4 (q.num * (((ofB p q : Nat) : Int))) (j + k) from hvs (hv 7 (by omega)) (by kernel_rfl))
    simp only [putFn, Act.put, List.setIfInBounds_toArray, List.set_cons_zero, List.set_cons_succ, f0, f1, f2, f3, f6]
    have hs4 := hR.size
    replace PA := PA.below hR
    replace PB := PB.below hR
    replace PT := PT.below hR
    replace PR := PR.below hR
    replace PE := PE.below hR
    replace NA := NA.below hR
    replace ZB := ZB.below hR
    replace NX := NX.below hR
    replace NY := NY.below hR
    replace Pn := Pn.below hR
    replace QN := QN.below hR
    replace BB := bl_trans BB hR
    have QM : IsM w4 (.agg #[.bool bm, .slice Am nm cm]) (q.num * ((ofB p q : Nat) : Int)) (j + k) := ⟨_, _, _, _, rfl, Zm.zm⟩
    clear hR hv Zm hgm ZB NY PB
    go_wp2_with fail
    refine wp_cut (by kernel_rfl) 7 ?_
    simp only [List.take_succ_cons, List.take_zero, List.drop_succ_cons, List.drop_zero]
    refine wp_cut_list (Ext := RB) (Rel := RBu) [fun v _ _ => v = .func (Fn.func 49) #[] #[.pointer (some ⟨ge, 0, none⟩)], fun v _ _ => v = .agg #[.bool bn, .slice An nn cn], fun v _ _ => v = .agg #[.bool bm, .slice Am nm cm], fun v _ _ => v = .pointer (some ⟨ga, 2, none⟩), fun v _ _ => v = .slice B m d, fun v _ _ => v = .slice Ax nx cx, fun v _ w => IsD (w4).heap.size w v (p.den * (ofA p q)) (k + j)] (n := 7) (by kernel_rfl) (by kernel_rfl) (by kernel_rfl) (by kernel_rfl) (by kernel_rfl) (by kernel_rfl) (by kernel_rfl) (by kernel_rfl) (by kernel_rfl) rb_refl rb_trans ⟨sC, ⟨sC, ⟨sC, ⟨sC, ⟨sC, ⟨sC, ⟨sD, trivial⟩⟩⟩⟩⟩⟩⟩ ?_ ?_
    ·refine ⟨⟨⟨⟨⟨⟨⟨trivial, ?_⟩, ?_⟩, ?_⟩, ?_⟩, ?_⟩, ?_⟩, ?_⟩
     ·refine rs_plain rfl rfl fun a wr S => ?_
      have X := undrew S.ext
      exact wp_floadR (ev_of ((S.old 2 (by kernel_rfl)).trans rfl)) (PT.below X) (done (by kernel_rfl) rbu_refl rfl)
     ·refine rs_plain rfl rfl fun a wr S => ?_
      have X := undrew S.ext
      exact wp_load (ev_of ((S.old 8 (by kernel_rfl)).trans rfl)) (Pn.below X) (done (by kernel_rfl) rbu_refl rfl)
     ·refine rs_plain rfl rfl fun a wr S => ?_
      have X := undrew S.ext
      exact wp_load (ev_of ((S.old 9 (by kernel_rfl)).trans rfl)) (Pm.below X) (done (by kernel_rfl) rbu_refl rfl)
     ·refine rs_plain rfl rfl fun a wr S => ?_
      have X := undrew S.ext
      exact wp_qf1 (ev_of ((S.old 1 (by kernel_rfl)).trans rfl)) (done (by kernel_rfl) rbu_refl rfl)
     ·refine rs_plain rfl rfl fun a wr S => ?_
      have X := undrew S.ext
      obtain ⟨v3, e3, h3⟩ := S.got 3 (by kernel_rfl)
      exact wp_qD ((ev_of (e3 38 (by kernel_rfl))).trans h3) (PA.below X) (done (by kernel_rfl) rbu_refl rfl)
     ·refine rs_plain rfl rfl fun a wr S => ?_
      have X := undrew S.ext
      exact wp_mv (ev_of ((S.old 6 (by kernel_rfl)).trans rfl)) (done (by kernel_rfl) rbu_refl rfl)
     ·refine rs_plain rfl rfl fun a wr S => ?_
      have X := undrew S.ext
      obtain ⟨v4, e4, h4⟩ := S.got 4 (by kernel_rfl)
      obtain ⟨v5, e5, h5⟩ := S.got 5 (by kernel_rfl)
      exact st_call cf_nat_Mul (args2 ((ev_of (e4 39 (by kernel_rfl))).trans h4) ((ev_of (e5 40 (by kernel_rfl))).trans h5)) (by kernel_rfl) rb (cMulD ⟨_, _, _, rfl, NA.below X⟩ ⟨_, _, _, rfl, NX.below X⟩ (by omega) (by omega) (by omega) X.size) (fun _ _ _ h => h)
    ·intro fd w5 hR hv hap
     clear hap
     replace hR := undrew hR
     have f0 : fd 0 = .func (Fn.func 49) #[] #[.pointer (some ⟨ge, 0, none⟩)] := (hvc (hv 0 (by omega))).elim fun _ h => h
     have f1 : fd 1 = .agg #[.bool bn, .slice An nn cn] := (hvc (hv 1 (by omega))).elim fun _ h => h
     have f2 : fd 2 = .agg #[.bool bm, .slice Am nm cm] := (hvc (hv 2 (by omega))).elim fun _ h => h
     have f3 : fd 3 = .pointer (some ⟨ga, 2, none⟩) := (hvc (hv 3 (by omega))).elim fun _ h => h
     have f4 : fd 4 = .slice B m d := (hvc (hv 4 (by omega))).elim fun _ h => h
     have f5 : fd 5 = .slice Ax nx cx := (hvc (hv 5 (by omega))).elim fun _ h => h
     obtain ⟨Az, nz, cz, f6, Oz, lz⟩ := (show IsD _ w5 _ (p.den * (ofA p q)) (k + j) from (hvc (hv 6 (by omega))).elim fun _ h => h)
     simp only [putFn, Act.put, List.setIfInBounds_toArray, List.set_cons_zero, List.set_cons_succ, f0, f1, f2, f3, f4, f5, f6]
     have hs5 := hR.size
     replace QN := QN.below hR
     replace QM := QM.below hR
     replace PR := PR.below hR
     replace PE := PE.below hR
     replace BB := bl_trans BB hR
     have ND : IsN w5 (.slice Az nz cz) (p.den * ofA p q) (k + j) := ⟨_, _, _, rfl, ⟨⟨_, Oz.rd, M.val_lims _⟩, lz⟩⟩
     have hd0 : p.den * ofA p q ≠ 0 := Nat.mul_ne_zero p.den_nz (two_A_pos p q)
     clear hR hv Oz lz PA PT NA NX Pn Pm
     go_wp2_with fail
     refine (cDiv1e QN QM PE (by omega) (by omega) (one_le_of hd0 ND.lt)).mono ?_
     rintro e w6 ⟨_, rfl, hb6, q6, he6⟩
     rw [HT.out] at q6
     replace he6 := HM.out ▸ he6
     replace q6 := q6.mono (show _ ≤ k + j by omega)
     obtain ⟨b6, A6, n6, c6, B6, m6, d6, rfl, _⟩ := id q6
     replace PR := PR.blE hb6 (by omega)
     have BE := BlE.of BB hb6
     have r0 := PR.c0
     have f0 := PR.f 0
     have r1 := PR.c1
     have f1 := PR.f 1
     have r2 := PR.c2
     have f2 := PR.f 2
     clear hb6 QN QM ND
     go_wp2_with fail
     exact bodyPost_ret (v := .agg #[.bool b6, .slice A6 n6 c6, .slice B6 m6 d6]) (by simp [results, Tryz.results98, go_sem, *]) rfl (fin_qE q6 he6 BE hge (by omega) (by omega) _ _ _)

set_option maxHeartbeats 4000000 in
theorem two1_Div {w : World} {v : Value} {p q : Rat} {k j N gb gt ge : Nat} {o : Int} {b2 : Bool} {A2 B2 : Option Addr} {n2 c2 m2 d2 : Nat} (hp : IsQ N w v p k) (PB : Bq w gb b2 A2 n2 c2 B2 m2 d2) (QB : IsQm w (.agg #[.bool b2, .slice A2 n2 c2, .slice B2 m2 d2]) q j) (PT : Bf w gt (.func (Fn.func 49) #[] #[.pointer (some ⟨ge, 0, none⟩)]) 58) (PE : Be w ge o) (hk : k ≤ 18) (hj : j ≤ 18) (hj1 : 1 ≤ j) : Calls Tryz.prog 97 #[v, .pointer (some ⟨gb, 0, none⟩), .pointer (some ⟨gt, 0, none⟩)] w (AnsE ge w fun w' v => IsQ w.heap.size w' v (p / q) (k + j) ∧ Be w' ge (eQ q)) := by
 have hpt := hp.t
 obtain ⟨b0, A0, n0, c0, B0, m0, d0, rfl, _⟩ := hp
 have PA := (Bq.new w b0 A0 n0 c0 B0 m0 d0).alloc (.cells #[.bool false, .slice none 0 0, .slice none 0 0] 26)
 have PR := Bq.new2 w (.cells #[.bool b0, .slice A0 n0 c0, .slice B0 m0 d0] 26) false none 0 0 none 0 0
 have BB := bl_trans (bl_alloc w (.cells #[.bool b0, .slice A0 n0 c0, .slice B0 m0 d0] 26)) (bl_alloc _ (.cells #[.bool false, .slice none 0 0, .slice none 0 0] 26))
 have hge := PE.lt
 have HE := Lib.hid (PE.below BB)
 clear PE
 have HP := Lib.hid (hpt.below BB)
 have HA := Lib.hid PA
 replace PB := PB.below BB
 have HT := Lib.hid (PT.below BB)
 have HB := Lib.hid (QB.below BB)
 clear hpt QB PT PA
 have y0 := PB.c0
 have y1 := PB.c1
 have y2 := PB.c2
 go_enter Tryz.func97, Tryz.ntmps97
 go_wp2_with fail
 refine (madeE_ofTwoR2 (q' := (p / q)) (k' := (k + j)) (ge := ge) (o := eQ q) HB.out (by omega) hj1 (by simp; omega) fun W u hW hsz hu => (two2_Div hu (HA.out.below hW) (HP.out.below hW) (HT.out.below hW) (HE.out.below hW) hk hj).mono fun e w' r => ?_).mono ?_
 ·exact ansE_base hsz e w' r
 clear y0 y1 y2 PB HA HB HT HP
 rintro e w1 ⟨_, rfl, hb1, q1, he1⟩
 obtain ⟨b1, A1, n1, c1, B1, m1, d1, rfl, _⟩ := id q1
 replace PR := PR.blE hb1 (by omega)
 have BE := BlE.of BB hb1
 have r0 := PR.c0
 have f0 := PR.f 0
 have r1 := PR.c1
 have f1 := PR.f 1
 have r2 := PR.c2
 have f2 := PR.f 2
 clear hb1
 go_wp2_with fail
 exact bodyPost_ret (v := .agg #[.bool b1, .slice A1 n1 c1, .slice B1 m1 d1]) (by simp [results, Tryz.results97, go_sem, *]) rfl (fin_qE (N := w.heap.size + 1 + 1) (q1.base (by simp)) he1 BE hge (by omega) (by omega) _ _ _)

set_option maxHeartbeats 4000000 in
theorem two0_Div {w : World} {v v' : Value} {p q : Rat} {k j ge : Nat} {o : Int} (ha : IsQm w v p k) (hb : IsQm w v' q j) (PE : Be w ge o) (hk : k ≤ 18) (hj : j ≤ 18) (hk1 : 1 ≤ k) (hj1 : 1 ≤ j) : Calls Tryz.prog 48 #[v, v', .func (Fn.func 49) #[] #[.pointer (some ⟨ge, 0, none⟩)]] w (AnsE ge w fun w' v => IsQ w.heap.size w' v (p / q) (k + j) ∧ Be w' ge (eQ q)) := by
 obtain ⟨b2, A2, n2, c2, B2, m2, d2, rfl, _⟩ := id ha
 obtain ⟨b3, A3, n3, c3, B3, m3, d3, rfl, _⟩ := id hb
 have BB := (bl_trans (bl_trans (bl_trans (bl_alloc w (.cells #[.bool b2, .slice A2 n2 c2, .slice B2 m2 d2] 26)) (bl_alloc _ (.cells #[.bool b3, .slice A3 n3 c3, .slice B3 m3 d3] 26))) (bl_alloc _ (.cells #[.func (Fn.func 49) #[] #[.pointer (some ⟨ge, 0, none⟩)]] 58))) (bl_alloc _ (.cells #[.bool false, .slice none 0 0, .slice none 0 0] 26)))
 have PA := ((Bq.new w b2 A2 n2 c2 B2 m2 d2).alloc (.cells #[.bool b3, .slice A3 n3 c3, .slice B3 m3 d3] 26)).alloc (.cells #[.func (Fn.func 49) #[] #[.pointer (some ⟨ge, 0, none⟩)]] 58)
 have PB := (Bq.new2 w (.cells #[.bool b2, .slice A2 n2 c2, .slice B2 m2 d2] 26) b3 A3 n3 c3 B3 m3 d3).alloc (.cells #[.func (Fn.func 49) #[] #[.pointer (some ⟨ge, 0, none⟩)]] 58)
 have PT := Bf.new3 w (.cells #[.bool b2, .slice A2 n2 c2, .slice B2 m2 d2] 26) (.cells #[.bool b3, .slice A3 n3 c3, .slice B3 m3 d3] 26) (.func (Fn.func 49) #[] #[.pointer (some ⟨ge, 0, none⟩)]) 58
 replace PA := PA.alloc (.cells #[.bool false, .slice none 0 0, .slice none 0 0] 26)
 replace PB := PB.alloc (.cells #[.bool false, .slice none 0 0, .slice none 0 0] 26)
 replace PT := PT.below (bl_alloc _ (.cells #[.bool false, .slice none 0 0, .slice none 0 0] 26))
 have PR := Bq.new4 w (.cells #[.bool b2, .slice A2 n2 c2, .slice B2 m2 d2] 26) (.cells #[.bool b3, .slice A3 n3 c3, .slice B3 m3 d3] 26) (.cells #[.func (Fn.func 49) #[] #[.pointer (some ⟨ge, 0, none⟩)]] 58) false none 0 0 none 0 0
 have hge := PE.lt
 have HE := Lib.hid (PE.below BB)
 clear PE
 have HA := Lib.hid (ha.below BB)
 have HB := Lib.hid (hb.below BB)
 have HPB := Lib.hid PB
 have HPT := Lib.hid PT
 clear ha hb PB PT
 have x0 := PA.c0
 have x1 := PA.c1
 have x2 := PA.c2
 go_enter Tryz.func48, Tryz.ntmps48
 go_wp2_with fail
 refine (madeE_ofTwoR1 (q' := (p / q)) (k' := (k + j)) (ge := ge) (o := eQ q) HA.out (by omega) hk1 (by simp; omega) fun W u hW hsz hu => (two1_Div hu (HPB.out.below hW) (HB.out.below hW) (HPT.out.below hW) (HE.out.below hW) hk hj hj1).mono fun e w' r => ?_).mono ?_
 ·exact ansE_base hsz e w' r
 clear x0 x1 x2 PA HA HB HPB HPT
 rintro e w1 ⟨_, rfl, hb1, q1, he1⟩
 obtain ⟨b1, A1, n1, c1, B1, m1, d1, rfl, _⟩ := id q1
 replace PR := PR.blE hb1 (by omega)
 have BE := BlE.of BB hb1
 have r0 := PR.c0
 have f0 := PR.f 0
 have r1 := PR.c1
 have f1 := PR.f 1
 have r2 := PR.c2
 have f2 := PR.f 2
 clear hb1
 go_wp2_with fail
 exact bodyPost_ret (v := .agg #[.bool b1, .slice A1 n1 c1, .slice B1 m1 d1]) (by simp [results, Tryz.results48, go_sem, *]) rfl (fin_qE (N := w.heap.size + 1 + 1 + 1 + 1) (q1.base (by simp)) he1 BE hge (by omega) (by omega) _ _ _)

set_option maxHeartbeats 4000000 in
theorem cQDiv {w : World} {v v' : Value} {p q : Rat} {k j : Nat} (ha : IsQm w v p k) (hb : IsQm w v' q j) (hk : k ≤ 18) (hj : j ≤ 18) (hk1 : 1 ≤ k) (hj1 : 1 ≤ j) : Calls Tryz.prog 13 #[v, v'] w (Ans w fun w' v => IsQE w.heap.size w' v (p / q) (k + j) (eQ q)) := by
 obtain ⟨b2, A2, n2, c2, B2, m2, d2, rfl, y1⟩ := id ha
 obtain ⟨b3, A3, n3, c3, B3, m3, d3, rfl, y2⟩ := id hb
 clear y1 y2
 have BB := bl_trans (bl_trans (bl_trans (bl_alloc w (.cells #[.bool b2, .slice A2 n2 c2, .slice B2 m2 d2] 26)) (bl_alloc _ (.cells #[.bool b3, .slice A3 n3 c3, .slice B3 m3 d3] 26))) (bl_alloc _ (.cells #[.bool false, .slice none 0 0, .slice none 0 0] 26))) (bl_alloc _ (.cells #[.int .i64 0] 28))
 have PA := (((Bq.new w b2 A2 n2 c2 B2 m2 d2).alloc (.cells #[.bool b3, .slice A3 n3 c3, .slice B3 m3 d3] 26)).alloc (.cells #[.bool false, .slice none 0 0, .slice none 0 0] 26)).alloc (.cells #[.int .i64 0] 28)
 have PB := ((Bq.new2 w (.cells #[.bool b2, .slice A2 n2 c2, .slice B2 m2 d2] 26) b3 A3 n3 c3 B3 m3 d3).alloc (.cells #[.bool false, .slice none 0 0, .slice none 0 0] 26)).alloc (.cells #[.int .i64 0] 28)
 have PR := (Bq.new3 w (.cells #[.bool b2, .slice A2 n2 c2, .slice B2 m2 d2] 26) (.cells #[.bool b3, .slice A3 n3 c3, .slice B3 m3 d3] 26) false none 0 0 none 0 0).alloc (.cells #[.int .i64 0] 28)
 have PE := Be.new4 w (.cells #[.bool b2, .slice A2 n2 c2, .slice B2 m2 d2] 26) (.cells #[.bool b3, .slice A3 n3 c3, .slice B3 m3 d3] 26) (.cells #[.bool false, .slice none 0 0, .slice none 0 0] 26) 0
 have HA := Lib.hid (ha.below BB)
 have HB := Lib.hid (hb.below BB)
 have HE := Lib.hid PE
 have x0 := PA.c0
 have x1 := PA.c1
 have x2 := PA.c2
 have y0 := PB.c0
 have y1 := PB.c1
 have y2 := PB.c2
 generalize hq9 : eQ q = o9
 have H9 := Lib.hid hq9
 clear ha hb hq9
 go_enter Tryz.func13, Tryz.ntmps13
 go_wp2_with fail
 refine (two0_Div HA.out HB.out HE.out hk hj hk1 hj1).mono ?_
 rw [H9.out]
 rintro e w1 ⟨_, rfl, hb1, q1, he1⟩
 obtain ⟨b1, A1, n1, c1, B1, m1, d1, rfl, yy⟩ := id q1
 clear yy
 have hs1 := hb1.size
 simp only [hs_alloc] at hs1 q1
 replace PR := PR.blE hb1 (by omega)
 have BW := BlE.below hb1 (by omega) BB
 have OO : Below w1.heap.size w1 (w1.alloc (.cells #[.bool b1, .slice A1 n1 c1, .slice B1 m1 d1] 26)) := bl_alloc _ _
 have PQ := Bq.new w1 b1 A1 n1 c1 B1 m1 d1
 replace q1 := q1.below OO
 replace PR := PR.below OO
 replace he1 := he1.below OO
 replace BW := bl_trans BW OO
 have e0 := he1.c0
 have p0 := PQ.c0
 have p1 := PQ.c1
 have p2 := PQ.c2
 have r0 := PR.c0
 have r1 := PR.c1
 have r2 := PR.c2
 have f0 := PR.f 0
 have f1 := PR.f 1
 have f2 := PR.f 2
 clear x0 x1 x2 y0 y1 y2 PA PB HA HB HE BB PE hb1 OO
 go_wp2_with fail
 go_region
 go_wp2_with fail
 have PF := (PR.set3 (b' := b1) (A' := A1) (n' := n1) (c' := c1) (B' := B1) (m' := m1) (d' := d1)).drew
 obtain ⟨_, e1, fb, fq⟩ := fin_q (g := w.heap.size + 1 + 1) q1 BW (by omega) (by omega) (.bool b1) (.slice A1 n1 c1) (.slice B1 m1 d1)
 cases e1
 replace fq := fq.below (Below.drew (Below.refl _ _))
 replace fb := Below.drew fb
 clear e0 p0 p1 p2 r0 r1 r2 f0 f1 f2 PQ he1 BW q1 PR
 generalize World.drew _ = W9 at PF fq fb ⊢
 have z0 := PF.c0
 have z1 := PF.c1
 have z2 := PF.c2
 exact bodyPost_ret (v := .tuple #[.agg #[.bool b1, .slice A1 n1 c1, .slice B1 m1 d1], .int .i64 o9]) (by simp [results, Tryz.results13, go_sem, z0, z1, z2]) rfl ⟨_, rfl, fb, _, _, _, _, _, _, _, rfl, fq⟩

end Go.Proofs.YtbhgbilhoonopaaGreat
namespace Go.Proofs.YtbhgbilhoonopaaGreat
open Go.RowKit
set_option linter.unusedVariables false
set_option maxRecDepth 100000

section
variable {a : Act} {w : World} {K : Act → World → Prop} {Q : Exit → Act → World → Prop} {dst : Option Tmp} {ty : TypeId} {pos : String} {af : Array Edge} {gd : Option (Nat × Bool)} {x y : Operand} {p q : Int}
end
theorem cf_rat_Add : CallsF 22 := fun args w => by go_simp
theorem cf_rat_Mul : CallsF 26 := fun args w => by go_simp
theorem cf_rat_Neg : CallsF 20 := fun args w => by go_simp
theorem cf_rat_Cmp : CallsF 28 := fun args w => by go_simp
theorem cf_rat_Int : CallsF 42 := fun args w => by go_simp
theorem cf_rat_Floor : CallsF 33 := fun args w => by go_simp
theorem cf_rat_Ceil : CallsF 35 := fun args w => by go_simp
theorem cf_rat_Text : CallsF 37 := fun args w => by go_simp
theorem cf_law03_same : CallsF 15 := fun args w => by go_simp
theorem cf_law03_few : CallsF 12 := fun args w => by go_simp
theorem cf_ref03_SameInt : CallsF 32 := fun args w => by go_simp

/-- A fraction, cut. -/
theorem few_q {w : World} {b : Bool} {A B : Option Addr} {n c m d : Nat} {xs ys : List Nat} (h : Rd w A n c xs) (g : Rd w B m d ys) (r : Nat) : IsQm w (.agg #[.bool b, .slice A (min n r) c, .slice B (min m r) d]) (mkRat (zv b (M.val (xs.take (min n r)))) (dOf (M.val (ys.take (min m r))))) r :=
 ⟨_, _, _, _, _, _, _, rfl, _, _, ⟨⟨_, ⟨⟨_, h.take (by omega), rfl⟩, by omega⟩, rfl⟩⟩, ⟨⟨_, g.take (by omega), rfl⟩, by omega⟩, rfl⟩
end Go.Proofs.YtbhgbilhoonopaaGreat
namespace Go.Proofs.YtbhgbilhoonopaaGreat
open Go.RowKit
set_option linter.unusedVariables false
set_option maxRecDepth 100000

set_option maxHeartbeats 2000000 in
theorem cOf3 {w : World} (x y : Int) (x0 : -9223372036854775808 ≤ x) (x1 : x < 9223372036854775808) (y0 : -9223372036854775808 ≤ y) (y1 : y < 9223372036854775808) : Calls Tryz.prog 87 #[.int .i64 x, .int .i64 y] w (Ans w fun w' v => IsQ w.heap.size w' v (((x : Int) : Rat) / ((y : Int) : Rat)) 4) := by
 have PR := Bq.new w false none 0 0 none 0 0
 have BB := bl_alloc w (.cells #[.bool false, .slice none 0 0, .slice none 0 0] 26)
 go_enter Tryz.func87, Tryz.ntmps87
 go_wp2_with fail
 refine (cQFrom x x0 x1).mono ?_
 rintro e w1 ⟨_, rfl, hb1, q1⟩
 obtain ⟨b1, A1, n1, c1, B1, m1, d1, rfl, yy⟩ := id q1
 clear yy
 replace PR := PR.below hb1
 replace BB := bl_trans BB hb1
 clear hb1
 go_wp2_with fail
 refine (cQFrom y y0 y1).mono ?_
 rintro e w2 ⟨_, rfl, hb2, q2⟩
 obtain ⟨b2, A2, n2, c2, B2, m2, d2, rfl, yy⟩ := id q2
 clear yy
 have hs2 := hb2.size
 replace q1 := q1.below hb2
 replace PR := PR.below hb2
 replace BB := bl_trans BB hb2
 clear hb2
 go_wp2_with fail
 refine (cQDiv q1.m q2.m (by omega) (by omega) (by omega) (by omega)).mono ?_
 rintro e w3 ⟨_, rfl, hb3, b3, A3, n3, c3, B3, m3, d3, rfl, q3⟩
 have hl := PR.lt
 replace PR := PR.below hb3
 replace BB := bl_trans BB hb3
 clear hb3 q1 q2
 have PQ := Bq.new w3 b3 A3 n3 c3 B3 m3 d3
 have OO : Below w3.heap.size w3 (w3.alloc (.cells #[.bool b3, .slice A3 n3 c3, .slice B3 m3 d3] 26)) := bl_alloc _ _
 replace q3 := q3.below OO
 replace PR := PR.below OO
 replace BB := bl_trans BB OO
 have p0 := PQ.c0
 have p1 := PQ.c1
 have p2 := PQ.c2
 have r0 := PR.c0
 have r1 := PR.c1
 have r2 := PR.c2
 have f0 := PR.f 0
 have f1 := PR.f 1
 have f2 := PR.f 2
 clear OO
 go_wp2_with fail
 have PF := PR.set3 (b' := b3) (A' := A3) (n' := n3) (c' := c3) (B' := B3) (m' := m3) (d' := d3)
 obtain ⟨_, e1, fb, fq⟩ := fin_q (g := w.heap.size) q3 BB (by omega) (by omega) (.bool b3) (.slice A3 n3 c3) (.slice B3 m3 d3)
 cases e1
 clear p0 p1 p2 r0 r1 r2 f0 f1 f2 PQ BB q3 PR
 generalize World.setCell _ ⟨w.heap.size, 2, none⟩ _ = W9 at PF fq fb ⊢
 have z0 := PF.c0
 have z1 := PF.c1
 have z2 := PF.c2
 exact bodyPost_ret (v := .agg #[.bool b3, .slice A3 n3 c3, .slice B3 m3 d3]) (by simp [results, Tryz.results87, go_sem, z0, z1, z2]) rfl ⟨_, rfl, fb, fq⟩

end Go.Proofs.YtbhgbilhoonopaaGreat
namespace Go.Proofs.YtbhgbilhoonopaaGreat
open Go.RowKit
set_option linter.unusedVariables false
set_option maxRecDepth 100000

def IsQB (N : Nat) (w : World) (v : Value) (q : Rat) (k : Nat) (o : Bool) : Prop := ∃ b A n c B m d, v = .tuple #[.agg #[.bool b, .slice A n c, .slice B m d], .bool o] ∧ IsQ N w (.agg #[.bool b, .slice A n c, .slice B m d]) q k
theorem cParseD {w : World} {N k : Nat} (s : ByteArray) (hs : s.size ≤ 1048576) (hd : M.Digits (M.bytes s)) (hv : M.dec 0 (M.bytes s) < M.R ^ k) (hN : N ≤ w.heap.size) : Calls Tryz.prog 94 #[.string s] w (Ans w fun w' v => ∃ A n c, v = .tuple #[.slice A n c, .bool true] ∧ Own w' N A n c (M.lims (M.dec 0 (M.bytes s))) ∧ n ≤ k) := by
 refine (parse_yes s w hs hd).mono ?_
 rintro e w' ⟨A, c, rfl, ho, hb⟩
 exact ⟨_, rfl, hb, A, _, c, rfl, ho.mono hN, M.lims_length_le.2 hv⟩
set_option maxHeartbeats 4000000 in
theorem cQParse2 {w : World} {k : Nat} {l1 l2 : List Nat} (s : ByteArray) (hs : s.size ≤ 1048576) (h : M.bytes s = l1 ++ 47 :: l2) (hn : 47 ∉ l1) (hz : isZ (s.extract 0 l1.length)) (hd : M.Digits l2) (q : Rat) (hq1 : valZ (s.extract 0 l1.length) = q.num) (hq2 : M.dec 0 l2 = q.den) (hq3 : q.den ≠ 1) (hv1 : q.num.natAbs < M.R ^ k) (hv2 : q.den < M.R ^ k) (hk : k ≤ 900) (hk1 : 1 ≤ k) : Calls Tryz.prog 44 #[.string s] w (Ans w fun w' v => IsQB w.heap.size w' v q k true) := by
  have PR := Bq.new w false none 0 0 none 0 0
  have BB := bl_alloc w (.cells #[.bool false, .slice none 0 0, .slice none 0 0] 26)
  have HC := Lib.hid (scut_yes s hs (w.alloc (.cells #[.bool false, .slice none 0 0, .slice none 0 0] 26)) h hn)
  have hb := bytes_take s h
  have z1 : (s.extract 0 l1.length).size ≤ 1048576 := by rw [← M.bytes_len, hb.1]; have : (M.bytes s).length ≤ 1048576 := by rw [M.bytes_len]; exact hs
                                                         rw [h, List.length_append] at this; omega
  have z2 : (s.extract (l1.length + 1) s.size).size ≤ 1048576 := by rw [← M.bytes_len, hb.2]; have : (M.bytes s).length ≤ 1048576 := by rw [M.bytes_len]; exact hs
                                                                    rw [h, List.length_append, List.length_cons] at this; omega
  have HB2 := Lib.hid hb.2
  have HZ := Lib.hid hz
  have HQ1 := Lib.hid hq1
  have HQ2 := Lib.hid hq2
  have HQ3 := Lib.hid hq3
  have HV1 := Lib.hid hv1
  have HV2 := Lib.hid hv2
  have HD := Lib.hid hd
  clear h hz hq1 hq2 hq3 hv1 hv2 hd hb hn
  generalize s.extract 0 l1.length = s1 at HC HZ HQ1 z1
  generalize s.extract (l1.length + 1) s.size = s2 at HC HB2 z2
  go_enter Tryz.func44, Tryz.ntmps44
  go_wp2_with fail
  refine HC.out.mono ?_
  rintro e w1 ⟨_, rfl, hb1, rfl⟩
  have hs1 := hb1.size
  simp only [hs_alloc] at hs1
  replace PR := PR.below hb1
  replace BB := bl_trans BB hb1
  clear hb1 HC
  go_wp2_with fail
  refine (cParse (N := w.heap.size + 1) (k := k) s1 z1 HZ.out (by rw [HQ1.out]; exact HV1.out) (by omega)).mono ?_
  rw [HQ1.out]
  rintro e w2 ⟨_, rfl, hb2, b2, A2, n2, c2, rfl, Z2⟩
  have hs2 := hb2.size
  have OO : Below w2.heap.size w2 (w2.alloc (.cells #[.bool b2, .slice A2 n2 c2] 24)) := bl_alloc _ _
  replace PR := (PR.below hb2).below OO
  replace BB := bl_trans (bl_trans BB hb2) OO
  replace Z2 := Z2.below OO
  have PN := Bz.new w2 b2 A2 n2 c2
  have hl2 := hs_alloc w2 (.cells #[.bool b2, .slice A2 n2 c2] 24)
  clear hb2 HZ HV1 OO
  go_wp2_with fail
  refine (cParseD (N := w.heap.size + 1) (k := k) s2 z2 (by rw [HB2.out]; exact HD.out) (by rw [HB2.out, HQ2.out]; exact HV2.out) (by omega)).mono ?_
  rw [HB2.out, HQ2.out]
  rintro e w3 ⟨_, rfl, hb3, A3, n3, c3, rfl, O3, l3⟩
  have hs3 := hb3.size
  replace PR := PR.below hb3
  replace BB := bl_trans BB hb3
  replace Z2 := Z2.below hb3
  replace PN := PN.below hb3
  have p0 := PN.c0
  have p1 := PN.c1
  clear hb3
  have OO : Below w3.heap.size w3 (w3.alloc (.cells #[.bool b2, .slice A2 n2 c2, .slice A3 n3 c3] 26)) := bl_alloc _ _
  have PQ := Bq.new w3 b2 A2 n2 c2 A3 n3 c3
  have q9 : IsQ (w.heap.size + 1) w3 (.agg #[.bool b2, .slice A2 n2 c2, .slice A3 n3 c3]) q k := isQ_mk Z2 O3 l3
  replace q9 := q9.below OO
  replace PR := PR.below OO
  replace BB := bl_trans BB OO
  have NO := (OwK.rd O3).below OO
  have hq3' := HQ3.out
  have H1 := Lib.hid (show decide (q.den = 1) = false from decide_eq_false hq3')
  clear Z2 O3 OO hq3'
  go_wp2_with fail
  refine (cIsOne (k := k) (x := q.den) ⟨_, _, _, rfl, ⟨⟨_, NO, M.val_lims _⟩, l3⟩⟩ (by omega)).mono ?_
  rw [H1.out]
  rintro e w4 ⟨_, rfl, hb4, rfl⟩
  replace PR := PR.below hb4
  replace BB := bl_trans BB hb4
  replace q9 := q9.below hb4
  replace PQ := PQ.below hb4
  clear hb4 NO p0 p1 PN
  have x0 := PQ.c0
  have x1 := PQ.c1
  have x2 := PQ.c2
  go_wp2_with fail
  refine (cQRight q9.t hk).mono ?_
  rintro e w5 ⟨_, rfl, hb5, rfl⟩
  clear x0 x1 x2
  replace PR := PR.below hb5
  replace BB := bl_trans BB hb5
  replace q9 := q9.below hb5
  replace PQ := PQ.below hb5
  have x0 := PQ.c0
  have x1 := PQ.c1
  have x2 := PQ.c2
  clear hb5
  have r0 := PR.c0
  have r1 := PR.c1
  have r2 := PR.c2
  have f0 := PR.f 0
  have f1 := PR.f 1
  have f2 := PR.f 2
  go_wp2_with fail
  have PF := PR.set3 (b' := b2) (A' := A2) (n' := n2) (c' := c2) (B' := A3) (m' := n3) (d' := c3)
  obtain ⟨_, e1, fb, fq⟩ := fin_q (g := w.heap.size) q9 BB (by omega) (by omega) (.bool b2) (.slice A2 n2 c2) (.slice A3 n3 c3)
  cases e1
  clear x0 x1 x2 r0 r1 r2 f0 f1 f2
  generalize World.setCell _ ⟨w.heap.size, 2, none⟩ _ = W9 at PF fq fb ⊢
  have z0 := PF.c0
  have z1 := PF.c1
  have z2 := PF.c2
  exact bodyPost_ret (v := .tuple #[.agg #[.bool b2, .slice A2 n2 c2, .slice A3 n3 c3], .bool true]) (by simp [results, Tryz.results44, go_sem, z0, z1, z2]) rfl ⟨_, rfl, fb, _, _, _, _, _, _, _, rfl, fq⟩

set_option maxHeartbeats 4000000 in
theorem cQParseA {w : World} {k : Nat} {l1 l2 : List Nat} (s : ByteArray) (hs : s.size ≤ 1048576) (h : M.bytes s = l1 ++ 47 :: l2) (hn : 47 ∉ l1) (hz : isZ (s.extract 0 l1.length)) (hd : M.Digits l2) (z : Int) (y : Nat) (hq1 : valZ (s.extract 0 l1.length) = z) (hq2 : M.dec 0 l2 = y) (hq3 : y = 1) (hv1 : z.natAbs < M.R ^ k) (hv2 : y < M.R ^ k) (hk : k ≤ 900) (hk1 : 1 ≤ k) : Calls Tryz.prog 44 #[.string s] w (Ans w fun w' v => IsQB w.heap.size w' v 0 1 false) := by
  have PR := Bq.new w false none 0 0 none 0 0
  have BB := bl_alloc w (.cells #[.bool false, .slice none 0 0, .slice none 0 0] 26)
  have HC := Lib.hid (scut_yes s hs (w.alloc (.cells #[.bool false, .slice none 0 0, .slice none 0 0] 26)) h hn)
  have hb := bytes_take s h
  have z1 : (s.extract 0 l1.length).size ≤ 1048576 := by rw [← M.bytes_len, hb.1]; have : (M.bytes s).length ≤ 1048576 := by rw [M.bytes_len]; exact hs
                                                         rw [h, List.length_append] at this; omega
  have z2 : (s.extract (l1.length + 1) s.size).size ≤ 1048576 := by rw [← M.bytes_len, hb.2]; have : (M.bytes s).length ≤ 1048576 := by rw [M.bytes_len]; exact hs
                                                                    rw [h, List.length_append, List.length_cons] at this; omega
  have HB2 := Lib.hid hb.2
  have HZ := Lib.hid hz
  have HQ1 := Lib.hid hq1
  have HQ2 := Lib.hid hq2
  have HQ3 := Lib.hid hq3
  have HV1 := Lib.hid hv1
  have HV2 := Lib.hid hv2
  have HD := Lib.hid hd
  clear h hz hq1 hq2 hq3 hv1 hv2 hd hb hn
  generalize s.extract 0 l1.length = s1 at HC HZ HQ1 z1
  generalize s.extract (l1.length + 1) s.size = s2 at HC HB2 z2
  go_enter Tryz.func44, Tryz.ntmps44
  go_wp2_with fail
  refine HC.out.mono ?_
  rintro e w1 ⟨_, rfl, hb1, rfl⟩
  have hs1 := hb1.size
  simp only [hs_alloc] at hs1
  replace PR := PR.below hb1
  replace BB := bl_trans BB hb1
  clear hb1 HC
  go_wp2_with fail
  refine (cParse (N := w.heap.size + 1) (k := k) s1 z1 HZ.out (by rw [HQ1.out]; exact HV1.out) (by omega)).mono ?_
  rw [HQ1.out]
  rintro e w2 ⟨_, rfl, hb2, b2, A2, n2, c2, rfl, Z2⟩
  have hs2 := hb2.size
  have OO : Below w2.heap.size w2 (w2.alloc (.cells #[.bool b2, .slice A2 n2 c2] 24)) := bl_alloc _ _
  replace PR := (PR.below hb2).below OO
  replace BB := bl_trans (bl_trans BB hb2) OO
  replace Z2 := Z2.below OO
  have PN := Bz.new w2 b2 A2 n2 c2
  have hl2 := hs_alloc w2 (.cells #[.bool b2, .slice A2 n2 c2] 24)
  clear hb2 HZ HV1 OO
  go_wp2_with fail
  refine (cParseD (N := w.heap.size + 1) (k := k) s2 z2 (by rw [HB2.out]; exact HD.out) (by rw [HB2.out, HQ2.out]; exact HV2.out) (by omega)).mono ?_
  rw [HB2.out, HQ2.out]
  rintro e w3 ⟨_, rfl, hb3, A3, n3, c3, rfl, O3, l3⟩
  have hs3 := hb3.size
  replace PR := PR.below hb3
  replace BB := bl_trans BB hb3
  replace Z2 := Z2.below hb3
  replace PN := PN.below hb3
  have p0 := PN.c0
  have p1 := PN.c1
  clear hb3
  have OO : Below w3.heap.size w3 (w3.alloc (.cells #[.bool b2, .slice A2 n2 c2, .slice A3 n3 c3] 26)) := bl_alloc _ _
  have PQ := Bq.new w3 b2 A2 n2 c2 A3 n3 c3
  replace PR := PR.below OO
  replace BB := bl_trans BB OO
  have NO := (OwK.rd O3).below OO
  have hq3' := HQ3.out
  have H1 := Lib.hid (show decide (y = 1) = true from decide_eq_true hq3')
  clear Z2 O3 OO hq3'
  go_wp2_with fail
  refine (cIsOne (k := k) (x := y) ⟨_, _, _, rfl, ⟨⟨_, NO, M.val_lims _⟩, l3⟩⟩ (by omega)).mono ?_
  rw [H1.out]
  rintro e w4 ⟨_, rfl, hb4, rfl⟩
  replace PR := PR.below hb4
  replace BB := bl_trans BB hb4
  clear hb4 NO p0 p1 PN PQ
  have hpl := PR.lt
  go_wp2_with fail
  refine (cQFrom 0 (by omega) (by omega)).mono ?_
  rintro e w9 ⟨_, rfl, hb9, q9⟩
  replace q9 := q9.zero1
  obtain ⟨b9, A9, n9, c9, B9, m9, d9, rfl, yy⟩ := id q9
  clear yy
  replace PR := PR.below hb9
  replace BB := bl_trans BB hb9
  clear hb9
  have r0 := PR.c0
  have r1 := PR.c1
  have r2 := PR.c2
  have f0 := PR.f 0
  have f1 := PR.f 1
  have f2 := PR.f 2
  go_wp2_with fail
  have PF := PR.set3 (b' := b9) (A' := A9) (n' := n9) (c' := c9) (B' := B9) (m' := m9) (d' := d9)
  obtain ⟨_, e1, fb, fq⟩ := fin_q (g := w.heap.size) q9 BB (by omega) (by omega) (.bool b9) (.slice A9 n9 c9) (.slice B9 m9 d9)
  cases e1
  clear r0 r1 r2 f0 f1 f2
  generalize World.setCell _ ⟨w.heap.size, 2, none⟩ _ = W9 at PF fq fb ⊢
  have z0 := PF.c0
  have z1 := PF.c1
  have z2 := PF.c2
  exact bodyPost_ret (v := .tuple #[.agg #[.bool b9, .slice A9 n9 c9, .slice B9 m9 d9], .bool false]) (by simp [results, Tryz.results44, go_sem, z0, z1, z2]) rfl ⟨_, rfl, fb, _, _, _, _, _, _, _, rfl, fq⟩

set_option maxHeartbeats 4000000 in
theorem cQParseB {w : World} {k : Nat} {l1 l2 : List Nat} (s : ByteArray) (hs : s.size ≤ 1048576) (h : M.bytes s = l1 ++ 47 :: l2) (hn : 47 ∉ l1) (hz : isZ (s.extract 0 l1.length)) (hd : M.Digits l2) (z : Int) (y : Nat) (hq1 : valZ (s.extract 0 l1.length) = z) (hq2 : M.dec 0 l2 = y) (hq3 : y ≠ 1) (hq4 : ¬ ((mkRat z (dOf y)).num = z ∧ (mkRat z (dOf y)).den = y)) (hv1 : z.natAbs < M.R ^ k) (hv2 : y < M.R ^ k) (hk : k ≤ 900) (hk1 : 1 ≤ k) : Calls Tryz.prog 44 #[.string s] w (Ans w fun w' v => IsQB w.heap.size w' v 0 1 false) := by
  have PR := Bq.new w false none 0 0 none 0 0
  have BB := bl_alloc w (.cells #[.bool false, .slice none 0 0, .slice none 0 0] 26)
  have HC := Lib.hid (scut_yes s hs (w.alloc (.cells #[.bool false, .slice none 0 0, .slice none 0 0] 26)) h hn)
  have hb := bytes_take s h
  have z1 : (s.extract 0 l1.length).size ≤ 1048576 := by rw [← M.bytes_len, hb.1]; have : (M.bytes s).length ≤ 1048576 := by rw [M.bytes_len]; exact hs
                                                         rw [h, List.length_append] at this; omega
  have z2 : (s.extract (l1.length + 1) s.size).size ≤ 1048576 := by rw [← M.bytes_len, hb.2]; have : (M.bytes s).length ≤ 1048576 := by rw [M.bytes_len]; exact hs
                                                                    rw [h, List.length_append, List.length_cons] at this; omega
  have HB2 := Lib.hid hb.2
  have HZ := Lib.hid hz
  have HQ1 := Lib.hid hq1
  have HQ2 := Lib.hid hq2
  have HQ3 := Lib.hid hq3
  have HQ4 := Lib.hid hq4
  have HV1 := Lib.hid hv1
  have HV2 := Lib.hid hv2
  have HD := Lib.hid hd
  clear h hz hq1 hq2 hq3 hq4 hv1 hv2 hd hb hn
  generalize s.extract 0 l1.length = s1 at HC HZ HQ1 z1
  generalize s.extract (l1.length + 1) s.size = s2 at HC HB2 z2
  go_enter Tryz.func44, Tryz.ntmps44
  go_wp2_with fail
  refine HC.out.mono ?_
  rintro e w1 ⟨_, rfl, hb1, rfl⟩
  have hs1 := hb1.size
  simp only [hs_alloc] at hs1
  replace PR := PR.below hb1
  replace BB := bl_trans BB hb1
  clear hb1 HC
  go_wp2_with fail
  refine (cParse (N := w.heap.size + 1) (k := k) s1 z1 HZ.out (by rw [HQ1.out]; exact HV1.out) (by omega)).mono ?_
  rw [HQ1.out]
  rintro e w2 ⟨_, rfl, hb2, b2, A2, n2, c2, rfl, Z2⟩
  have hs2 := hb2.size
  have OO : Below w2.heap.size w2 (w2.alloc (.cells #[.bool b2, .slice A2 n2 c2] 24)) := bl_alloc _ _
  replace PR := (PR.below hb2).below OO
  replace BB := bl_trans (bl_trans BB hb2) OO
  replace Z2 := Z2.below OO
  have PN := Bz.new w2 b2 A2 n2 c2
  have hl2 := hs_alloc w2 (.cells #[.bool b2, .slice A2 n2 c2] 24)
  clear hb2 HZ HV1 OO
  go_wp2_with fail
  refine (cParseD (N := w.heap.size + 1) (k := k) s2 z2 (by rw [HB2.out]; exact HD.out) (by rw [HB2.out, HQ2.out]; exact HV2.out) (by omega)).mono ?_
  rw [HB2.out, HQ2.out]
  rintro e w3 ⟨_, rfl, hb3, A3, n3, c3, rfl, O3, l3⟩
  have hs3 := hb3.size
  replace PR := PR.below hb3
  replace BB := bl_trans BB hb3
  replace Z2 := Z2.below hb3
  replace PN := PN.below hb3
  have p0 := PN.c0
  have p1 := PN.c1
  clear hb3
  have OO : Below w3.heap.size w3 (w3.alloc (.cells #[.bool b2, .slice A2 n2 c2, .slice A3 n3 c3] 26)) := bl_alloc _ _
  have PQ := Bq.new w3 b2 A2 n2 c2 A3 n3 c3
  have HR := Lib.hid (show (false = true ↔ RightQ b2 (M.lims z.natAbs) (M.lims y) (mkRat (zv b2 (M.val (M.lims z.natAbs))) (dOf (M.val (M.lims y))))) by
    refine ⟨fun h => (by cases h), fun h => ?_⟩
    exfalso
    have ez : zv b2 (M.val (M.lims z.natAbs)) = z := by
      rw [M.val_lims, Z2.neg]
      by_cases hz : z < 0
      · rw [decide_eq_true hz, zv_true]; omega
      · rw [decide_eq_false hz, zv_false]; omega
    unfold RightQ at h
    rw [ez, M.val_lims] at h
    obtain ⟨h1, h2, h3⟩ := h
    rw [M.lims_inj] at h2 h3
    refine HQ4.out ⟨?_, h3.symm⟩
    have h4 := Z2.neg
    rw [h1] at h4
    have h5 : ((mkRat z (dOf y)).num < 0) ↔ (z < 0) := by simpa using h4
    omega)
  have RX := Z2.tm.rd.below OO
  have LX := Z2.le
  replace PR := PR.below OO
  replace BB := bl_trans BB OO
  have NO := (OwK.rd O3).below OO
  have hq3' := HQ3.out
  have H1 := Lib.hid (show decide (y = 1) = false from decide_eq_false hq3')
  clear Z2 O3 OO hq3'
  go_wp2_with fail
  refine (cIsOne (k := k) (x := y) ⟨_, _, _, rfl, ⟨⟨_, NO, M.val_lims _⟩, l3⟩⟩ (by omega)).mono ?_
  rw [H1.out]
  rintro e w4 ⟨_, rfl, hb4, rfl⟩
  replace PR := PR.below hb4
  replace BB := bl_trans BB hb4
  replace PQ := PQ.below hb4
  replace NO := NO.below hb4
  replace RX := RX.below hb4
  clear hb4 p0 p1 PN
  have x0 := PQ.c0
  have x1 := PQ.c1
  have x2 := PQ.c2
  go_wp2_with fail
  refine (cQRightR RX NO (by omega) (by omega) HR.out).mono ?_
  rintro e w5 ⟨_, rfl, hb5, rfl⟩
  clear x0 x1 x2 PQ RX NO
  replace PR := PR.below hb5
  replace BB := bl_trans BB hb5
  clear hb5
  have hpl := PR.lt
  go_wp2_with fail
  refine (cQFrom 0 (by omega) (by omega)).mono ?_
  rintro e w9 ⟨_, rfl, hb9, q9⟩
  replace q9 := q9.zero1
  obtain ⟨b9, A9, n9, c9, B9, m9, d9, rfl, yy⟩ := id q9
  clear yy
  replace PR := PR.below hb9
  replace BB := bl_trans BB hb9
  clear hb9
  have r0 := PR.c0
  have r1 := PR.c1
  have r2 := PR.c2
  have f0 := PR.f 0
  have f1 := PR.f 1
  have f2 := PR.f 2
  go_wp2_with fail
  have PF := PR.set3 (b' := b9) (A' := A9) (n' := n9) (c' := c9) (B' := B9) (m' := m9) (d' := d9)
  obtain ⟨_, e1, fb, fq⟩ := fin_q (g := w.heap.size) q9 BB (by omega) (by omega) (.bool b9) (.slice A9 n9 c9) (.slice B9 m9 d9)
  cases e1
  clear r0 r1 r2 f0 f1 f2
  generalize World.setCell _ ⟨w.heap.size, 2, none⟩ _ = W9 at PF fq fb ⊢
  have z0 := PF.c0
  have z1 := PF.c1
  have z2 := PF.c2
  exact bodyPost_ret (v := .tuple #[.agg #[.bool b9, .slice A9 n9 c9, .slice B9 m9 d9], .bool false]) (by simp [results, Tryz.results44, go_sem, z0, z1, z2]) rfl ⟨_, rfl, fb, _, _, _, _, _, _, _, rfl, fq⟩

end Go.Proofs.YtbhgbilhoonopaaGreat
namespace Go.Proofs.YtbhgbilhoonopaaGreat
set_option linter.unusedVariables false

end Go.Proofs.YtbhgbilhoonopaaGreat
namespace Go.Proofs.YtbhgbilhoonopaaGreat
open Go.RowKit
set_option linter.unusedVariables false
set_option maxRecDepth 100000

theorem ans_intW {w : World} {x y : Int} (h : x = y) (e : Ending) (w' : World) (r : Ans w (fun _ v => v = .int .i64 x) e w') : Ans w (fun _ v => v = .int .i64 y) e w' := by
 rw [← h]
 exact r
/-- A row of just these limbs. -/
def IsX (w : World) (v : Value) (xs : List Nat) : Prop := ∃ A n c, v = .slice A n c ∧ Rd w A n c xs ∧ n ≤ 4
theorem IsX.below {w w' : World} {v : Value} {xs : List Nat} (h : IsX w v xs) (hb : Below w.heap.size w w') : IsX w' v xs := by
 obtain ⟨A, n, c, rfl, h, l⟩ := h
 exact ⟨A, n, c, rfl, h.below hb, l⟩
theorem sX {xs : List Nat} : Stab RBu fun v _ w => IsX w v xs := fun _ _ _ _ _ r _ h => h.below r
theorem wp_bsL1 {a : Act} {w : World} {K : Act → World → Prop} {Q : Exit → Act → World → Prop} {dst : Option Tmp} {ty : TypeId} {pos : String} {af : Array Edge} {gd : Option (Nat × Bool)} {x : Int} (h : K (a.put dst (.slice (some ⟨w.heap.size, 0, none⟩) 1 1)) (w.alloc (.cells #[.int .u32 x] 44))) : Oper.wp Tryz.prog ⟨dst, .buildSlice 22 1 #[(0, .const (.int .u32 x))], ty, pos, af, gd⟩ a w K Q := by
 unfold Oper.wp execOp
 simp only [List.map_toArray, List.map_cons, List.map_nil]
 go_simp
 exact h
theorem wp_bZ {a : Act} {w : World} {K : Act → World → Prop} {Q : Exit → Act → World → Prop} {dst : Option Tmp} {ty : TypeId} {pos : String} {af : Array Edge} {gd : Option (Nat × Bool)} {x y : Operand} {b : Bool} {A : Option Addr} {n c : Nat} (hx : a.eval x = .bool b) (hy : a.eval y = .slice A n c) (h : K (a.put dst (.agg #[.bool b, .slice A n c])) w) : Oper.wp Tryz.prog ⟨dst, .build 24 #[(0, x), (1, y)], ty, pos, af, gd⟩ a w K Q := by
 unfold Oper.wp execOp
 simp only [List.map_toArray, List.map_cons, List.map_nil, hx, hy]
 go_simp
 exact h
theorem litX1 (w : World) (x : Nat) (hx : x < 4294967296) : IsX (w.alloc (.cells #[.int .u32 (x : Int)] 44)) (.slice (some ⟨w.heap.size, 0, none⟩) 1 1) [x] := ⟨_, _, _, rfl, RdK.one (K := kU32) w x hx, by omega⟩
theorem isT_lit {w : World} {b : Bool} {A : Option Addr} {n c : Nat} {xs : List Nat} {z : Int} (h : Rd w A n c xs) (hl : n ≤ 4) (h1 : M.lims z.natAbs = xs) (h2 : b = decide (z < 0)) : IsT w (.agg #[.bool b, .slice A n c]) z 4 := ⟨_, _, _, _, rfl, ⟨by rw [h1]; exact h, hl⟩, h2⟩
theorem ansZ_base {w : World} {z : Int} {k N : Nat} (hN : N ≤ w.heap.size) (e : Ending) (w' : World) (h : Ans w (fun w' v => IsZ w.heap.size w' v z k) e w') : Ans w (fun w' v => IsZ N w' v z k) e w' := by
 obtain ⟨v, rfl, hb, b, A, n, c, rfl, Z⟩ := h
 exact ⟨_, rfl, hb, b, A, n, c, rfl, Z.mono hN⟩
theorem ansB {w : World} {x y : Bool} (h : x = y) (e : Ending) (w' : World) (r : Ans w (fun _ v => v = .bool x) e w') : Ans w (fun _ v => v = .bool y) e w' := by
 rw [← h]
 exact r
theorem cf_law03_of : CallsF 87 := fun args w => by go_simp
theorem eqB {k l : ByteArray} {x y : List Nat} (hk : M.bytes k = x) (hl : M.bytes l = y) (h : x = y) : (k.toList == l.toList) = true := by
 have : k = l := M.bytes_inj (by rw [hk, hl, h])
 rw [this]
 simp
theorem txtQ_frac {q : Rat} {ds es : List Nat} (hn : txtZ q.num = ds) (hd : M.dec 0 es = q.den) (h2 : M.Digits es) (h3 : M.dec 0 es ≠ 1) : txtQ q = ds ++ [47] ++ es := by
 unfold txtQ
 rw [if_neg (by rw [← hd]; exact h3), hn, ← hd, txt_dec h2]
theorem txtQ_whole {q : Rat} {ds : List Nat} (hn : txtZ q.num = ds) (hd : q.den = 1) : txtQ q = ds := by
 unfold txtQ
 rw [if_pos hd, hn]
theorem txtZ_known {z : Int} {ds : List Nat} (h2 : M.Digits ds) (h3 : z = (M.dec 0 ds : Int)) : txtZ z = ds := by
 rw [txtZ_pos (by omega), show z.natAbs = M.dec 0 ds by omega, txt_dec h2]
theorem txtZ_knownN {z : Int} {ds : List Nat} (h2 : M.Digits ds) (h3 : z = -(M.dec 0 ds : Int)) (h4 : M.dec 0 ds ≠ 0) : txtZ z = 45 :: ds := by
 rw [txtZ_neg (by omega), show z.natAbs = M.dec 0 ds by omega, txt_dec h2]

theorem qa_num : (Rat.divInt 6 (-4)).num = -3 := by decide +kernel
theorem qa_den : (Rat.divInt 6 (-4)).den = 2 := by decide +kernel
theorem w_a : txtQ (Rat.divInt 6 (-4)) = [45, 51, 47, 50] := txtQ_frac (ds := [45, 51]) (es := [50]) (by rw [qa_num]; exact txtZ_knownN (ds := [51]) (by decide) (by decide) (by decide)) (by rw [qa_den]; decide) (by decide) (by decide)
theorem qs_num : (((1 : Int) : Rat) / ((2 : Int) : Rat) + ((1 : Int) : Rat) / ((3 : Int) : Rat)).num = 5 := by decide +kernel
theorem qs_den : (((1 : Int) : Rat) / ((2 : Int) : Rat) + ((1 : Int) : Rat) / ((3 : Int) : Rat)).den = 6 := by decide +kernel
theorem w_s : txtQ (((1 : Int) : Rat) / ((2 : Int) : Rat) + ((1 : Int) : Rat) / ((3 : Int) : Rat)) = [53, 47, 54] := txtQ_frac (ds := [53]) (es := [54]) (by rw [qs_num]; exact txtZ_known (by decide) (by decide)) (by rw [qs_den]; decide) (by decide) (by decide)
theorem qm_num : (Rat.divInt 6 (-4) * (((2 : Int) : Rat) / ((3 : Int) : Rat))).num = -1 := by decide +kernel
theorem qm_den : (Rat.divInt 6 (-4) * (((2 : Int) : Rat) / ((3 : Int) : Rat))).den = 1 := by decide +kernel
theorem w_m : txtQ (Rat.divInt 6 (-4) * (((2 : Int) : Rat) / ((3 : Int) : Rat))) = [45, 49] := txtQ_whole (by rw [qm_num]; exact txtZ_knownN (ds := [49]) (by decide) (by decide) (by decide)) qm_den
theorem w_fl : (Rat.divInt 6 (-4)).floor = -2 := by decide +kernel
theorem w_ce : (Rat.divInt 6 (-4)).ceil = -1 := by decide +kernel
theorem w_cm : cmpQ (((1 : Int) : Rat) / ((3 : Int) : Rat)) (mkRat 2 6) = 0 := by decide +kernel
theorem qc_num : (mkRat (-5) 3).num = -5 := by decide +kernel
theorem qc_den : (mkRat (-5) 3).den = 3 := by decide +kernel
theorem w_c : txtQ (mkRat (-5) 3) = [45, 53, 47, 51] := txtQ_frac (ds := [45, 53]) (es := [51]) (by rw [qc_num]; exact txtZ_knownN (ds := [53]) (by decide) (by decide) (by decide)) (by rw [qc_den]; decide) (by decide) (by decide)

set_option maxHeartbeats 8000000 in
theorem cWorks3 (w : World) : Calls Tryz.prog 39 #[] w (Ans w fun _ v => v = .bool true) := by
 have BB : Below w.heap.size w w := Below.refl _ _
 go_enter Tryz.func39, Tryz.ntmps39
 go_wp2_with fail
 refine (cQFrom 6 (by omega) (by omega)).mono ?_
 rintro e w1 ⟨_, rfl, hb1, q1⟩
 obtain ⟨b1, A1, n1, c1, B1, m1, d1, rfl, Z1, _, _⟩ := id q1
 replace BB := bl_trans BB hb1
 clear hb1 q1
 have ZA : IsM w1 (.agg #[.bool b1, .slice A1 n1 c1]) 6 2 := ⟨_, _, _, _, rfl, Z1.zm⟩
 clear Z1
 replace ZA := ZA.below (bl_alloc _ (.cells #[.bool b1, .slice A1 n1 c1, .slice B1 m1 d1] 26))
 replace BB := bl_trans BB (bl_alloc _ (.cells #[.bool b1, .slice A1 n1 c1, .slice B1 m1 d1] 26))
 have P1 := Bq.new w1 b1 A1 n1 c1 B1 m1 d1
 have x0 := P1.c0
 have x1 := P1.c1
 obtain ⟨G4, g4, h4, e4, R4, l4⟩ := litX1 (w1.alloc (.cells #[.bool b1, .slice A1 n1 c1, .slice B1 m1 d1] 26)) 4 (by omega)
 have ZB : IsM ((w1.alloc (.cells #[.bool b1, .slice A1 n1 c1, .slice B1 m1 d1] 26)).alloc (.cells #[.int .u32 4] 44)) (.agg #[.bool true, .slice G4 g4 h4]) (-4) 4 := ⟨_, _, _, _, rfl, ⟨⟨4, ⟨⟨_, R4, rfl⟩, l4⟩, rfl⟩⟩⟩
 cases e4
 clear R4 l4
 simp only [hs_alloc] at ZB
 go_wp2_with fail
 refine (cOfQ (ZA.below (bl_alloc _ (.cells #[.int .u32 4] 44))) ZB (by omega) (by omega) (by omega)).mono ?_
 rintro e w2 ⟨_, rfl, hb2, b2, A2, n2, c2, B2, m2, d2, rfl, q2⟩
 replace BB := bl_trans (bl_trans BB (bl_alloc _ (.cells #[.int .u32 4] 44))) hb2
 clear hb2 ZA ZB P1 x0 x1
 have Q2 := q2.t
 clear q2
 replace Q2 := Q2.below (bl_alloc _ (.cells #[.bool b2, .slice A2 n2 c2, .slice B2 m2 d2] 26))
 replace BB := bl_trans BB (bl_alloc _ (.cells #[.bool b2, .slice A2 n2 c2, .slice B2 m2 d2] 26))
 have P2 := Bq.new w2 b2 A2 n2 c2 B2 m2 d2
 replace Q2 := Q2.mono (show max 2 4 ≤ 4 by omega)
 have R2 : Rd ((w2.alloc (.cells #[.bool b2, .slice A2 n2 c2, .slice B2 m2 d2] 26)).alloc (.cells #[.int .u32 2, .int .u32 0] 44)) (some ⟨(w2.alloc (.cells #[.bool b2, .slice A2 n2 c2, .slice B2 m2 d2] 26)).heap.size, 0, none⟩) 2 2 [2, 0] := (Rd.two (w2.alloc (.cells #[.bool b2, .slice A2 n2 c2, .slice B2 m2 d2] 26)) 2 0 (by decide) (by decide)).rd
 obtain ⟨G6, g6, h6, e6, R6, l6⟩ := litX1 ((w2.alloc (.cells #[.bool b2, .slice A2 n2 c2, .slice B2 m2 d2] 26)).alloc (.cells #[.int .u32 2, .int .u32 0] 44)) 6 (by omega)
 cases e6
 replace R2 := (R2.below (bl_alloc _ (.cells #[.int .u32 6] 44))).below (bl_alloc _ (.cells #[.bool false, .slice (some ⟨w2.heap.size + 1, 0, none⟩) 2 2, .slice (some ⟨w2.heap.size + 1 + 1, 0, none⟩) 1 1] 26))
 replace R6 := R6.below (bl_alloc _ (.cells #[.bool false, .slice (some ⟨w2.heap.size + 1, 0, none⟩) 2 2, .slice (some ⟨w2.heap.size + 1 + 1, 0, none⟩) 1 1] 26))
 simp only [hs_alloc] at R2 R6
 have Q4 : IsQm ((((w2.alloc (.cells #[.bool b2, .slice A2 n2 c2, .slice B2 m2 d2] 26)).alloc (.cells #[.int .u32 2, .int .u32 0] 44)).alloc (.cells #[.int .u32 6] 44)).alloc (.cells #[.bool false, .slice (some ⟨w2.heap.size + 1, 0, none⟩) 2 2, .slice (some ⟨w2.heap.size + 1 + 1, 0, none⟩) 1 1] 26)) (.agg #[.bool false, .slice (some ⟨w2.heap.size + 1, 0, none⟩) 2 2, .slice (some ⟨w2.heap.size + 1 + 1, 0, none⟩) 1 1]) (mkRat 2 6) 4 := ⟨_, _, _, _, _, _, _, rfl, 2, 6, ⟨⟨2, ⟨⟨_, R2, rfl⟩, by omega⟩, rfl⟩⟩, ⟨⟨_, R6, rfl⟩, by omega⟩, by rw [dOf_of (by omega)]⟩
 have P4 : Bq ((((w2.alloc (.cells #[.bool b2, .slice A2 n2 c2, .slice B2 m2 d2] 26)).alloc (.cells #[.int .u32 2, .int .u32 0] 44)).alloc (.cells #[.int .u32 6] 44)).alloc (.cells #[.bool false, .slice (some ⟨w2.heap.size + 1, 0, none⟩) 2 2, .slice (some ⟨w2.heap.size + 1 + 1, 0, none⟩) 1 1] 26)) (w2.heap.size + 1 + 1 + 1) false (some ⟨w2.heap.size + 1, 0, none⟩) 2 2 (some ⟨w2.heap.size + 1 + 1, 0, none⟩) 1 1 := by
  have := Bq.new (((w2.alloc (.cells #[.bool b2, .slice A2 n2 c2, .slice B2 m2 d2] 26)).alloc (.cells #[.int .u32 2, .int .u32 0] 44)).alloc (.cells #[.int .u32 6] 44)) false (some ⟨w2.heap.size + 1, 0, none⟩) 2 2 (some ⟨w2.heap.size + 1 + 1, 0, none⟩) 1 1
  simp only [hs_alloc] at this
  exact this
 clear R2 R6 l6
 replace Q2 := Q2.below (bl_alloc _ (.cells #[.int .u32 2, .int .u32 0] 44))
 replace P2 := P2.below (bl_alloc _ (.cells #[.int .u32 2, .int .u32 0] 44))
 replace BB := bl_trans BB (bl_alloc _ (.cells #[.int .u32 2, .int .u32 0] 44))
 replace Q2 := Q2.below (bl_alloc _ (.cells #[.int .u32 6] 44))
 replace P2 := P2.below (bl_alloc _ (.cells #[.int .u32 6] 44))
 replace BB := bl_trans BB (bl_alloc _ (.cells #[.int .u32 6] 44))
 replace Q2 := Q2.below (bl_alloc _ (.cells #[.bool false, .slice (some ⟨w2.heap.size + 1, 0, none⟩) 2 2, .slice (some ⟨w2.heap.size + 1 + 1, 0, none⟩) 1 1] 26))
 replace P2 := P2.below (bl_alloc _ (.cells #[.bool false, .slice (some ⟨w2.heap.size + 1, 0, none⟩) 2 2, .slice (some ⟨w2.heap.size + 1 + 1, 0, none⟩) 1 1] 26))
 replace BB := bl_trans BB (bl_alloc _ (.cells #[.bool false, .slice (some ⟨w2.heap.size + 1, 0, none⟩) 2 2, .slice (some ⟨w2.heap.size + 1 + 1, 0, none⟩) 1 1] 26))
 go_wp2_with fail
 generalize ((((w2.alloc (.cells #[.bool b2, .slice A2 n2 c2, .slice B2 m2 d2] 26)).alloc (.cells #[.int .u32 2, .int .u32 0] 44)).alloc (.cells #[.int .u32 6] 44)).alloc (.cells #[.bool false, .slice (some ⟨w2.heap.size + 1, 0, none⟩) 2 2, .slice (some ⟨w2.heap.size + 1 + 1, 0, none⟩) 1 1] 26)) = W4 at Q2 P2 Q4 P4 BB ⊢
 refine (cQParseB (k := 1) (l1 := [50]) (l2 := [52]) _ (by decide) (by decide) (by decide) (by decide) (by decide) 2 4 (by decide) (by decide) (by omega) (by decide +kernel) (by decide +kernel) (by decide +kernel) (by omega) (by omega)).mono ?_
 rintro e w4 ⟨_, rfl, hb4, b5, A5, n5, c5, B5, m5, d5, rfl, _⟩
 replace Q2 := Q2.below hb4
 replace P2 := P2.below hb4
 replace Q4 := Q4.below hb4
 replace P4 := P4.below hb4
 replace BB := bl_trans BB hb4
 clear hb4
 replace Q2 := Q2.below (bl_alloc _ (.cells #[.bool b5, .slice A5 n5 c5, .slice B5 m5 d5] 26))
 replace P2 := P2.below (bl_alloc _ (.cells #[.bool b5, .slice A5 n5 c5, .slice B5 m5 d5] 26))
 replace Q4 := Q4.below (bl_alloc _ (.cells #[.bool b5, .slice A5 n5 c5, .slice B5 m5 d5] 26))
 replace P4 := P4.below (bl_alloc _ (.cells #[.bool b5, .slice A5 n5 c5, .slice B5 m5 d5] 26))
 replace BB := bl_trans BB (bl_alloc _ (.cells #[.bool b5, .slice A5 n5 c5, .slice B5 m5 d5] 26))
 go_wp2_with fail
 refine (cQParse2 (k := 1) (l1 := [45, 53]) (l2 := [51]) _ (by decide) (by decide) (by decide) (by decide) (by decide) (mkRat (-5) 3) (by rw [qc_num]; decide) (by rw [qc_den]; decide) (by rw [qc_den]; omega) (by rw [qc_num]; decide +kernel) (by rw [qc_den]; decide +kernel) (by omega) (by omega)).mono ?_
 rintro e w5 ⟨_, rfl, hb5, b7, A7, n7, c7, B7, m7, d7, rfl, q7⟩
 replace Q2 := Q2.below hb5
 replace P2 := P2.below hb5
 replace Q4 := Q4.below hb5
 replace P4 := P4.below hb5
 replace BB := bl_trans BB hb5
 clear hb5
 have Q7 := q7.t
 clear q7
 replace Q2 := Q2.below (bl_alloc _ (.cells #[.bool b7, .slice A7 n7 c7, .slice B7 m7 d7] 26))
 replace P2 := P2.below (bl_alloc _ (.cells #[.bool b7, .slice A7 n7 c7, .slice B7 m7 d7] 26))
 replace Q4 := Q4.below (bl_alloc _ (.cells #[.bool b7, .slice A7 n7 c7, .slice B7 m7 d7] 26))
 replace P4 := P4.below (bl_alloc _ (.cells #[.bool b7, .slice A7 n7 c7, .slice B7 m7 d7] 26))
 replace Q7 := Q7.below (bl_alloc _ (.cells #[.bool b7, .slice A7 n7 c7, .slice B7 m7 d7] 26))
 replace BB := bl_trans BB (bl_alloc _ (.cells #[.bool b7, .slice A7 n7 c7, .slice B7 m7 d7] 26))
 have P7 := Bq.new w5 b7 A7 n7 c7 B7 m7 d7
 go_wp2_with fail
 refine (cQParseA (k := 1) (l1 := [51]) (l2 := [49]) _ (by decide) (by decide) (by decide) (by decide) (by decide) 3 1 (by decide) (by decide) rfl (by decide +kernel) (by decide +kernel) (by omega) (by omega)).mono ?_
 rintro e w6 ⟨_, rfl, hb6, b9, A9, n9, c9, B9, m9, d9, rfl, _⟩
 replace Q2 := Q2.below hb6
 replace P2 := P2.below hb6
 replace Q4 := Q4.below hb6
 replace P4 := P4.below hb6
 replace Q7 := Q7.below hb6
 replace P7 := P7.below hb6
 replace BB := bl_trans BB hb6
 clear hb6
 replace Q2 := Q2.below (bl_alloc _ (.cells #[.bool b9, .slice A9 n9 c9, .slice B9 m9 d9] 26))
 replace P2 := P2.below (bl_alloc _ (.cells #[.bool b9, .slice A9 n9 c9, .slice B9 m9 d9] 26))
 replace Q4 := Q4.below (bl_alloc _ (.cells #[.bool b9, .slice A9 n9 c9, .slice B9 m9 d9] 26))
 replace P4 := P4.below (bl_alloc _ (.cells #[.bool b9, .slice A9 n9 c9, .slice B9 m9 d9] 26))
 replace Q7 := Q7.below (bl_alloc _ (.cells #[.bool b9, .slice A9 n9 c9, .slice B9 m9 d9] 26))
 replace P7 := P7.below (bl_alloc _ (.cells #[.bool b9, .slice A9 n9 c9, .slice B9 m9 d9] 26))
 replace BB := bl_trans BB (bl_alloc _ (.cells #[.bool b9, .slice A9 n9 c9, .slice B9 m9 d9] 26))
 go_wp2_with fail
 generalize (w6.alloc (.cells #[.bool b9, .slice A9 n9 c9, .slice B9 m9 d9] 26)) = W6 at Q2 P2 Q4 P4 Q7 P7 BB ⊢
 refine wp_region_list (Ext := RB) (Rel := RBu) [fun v _ _ => v = .agg #[.bool b2, .slice A2 n2 c2, .slice B2 m2 d2], fun v _ _ => IsS v (txtQ (Rat.divInt 6 (-4))), fun v _ _ => v = .bool true, fun v _ _ => v = .bool true, fun v _ _ => v = .int .i64 0, fun v _ _ => v = .bool true, fun v _ _ => v = .bool true, fun v _ _ => v = .bool true, fun v _ w => IsQ (W6).heap.size w v (((1 : Int) : Rat) / ((2 : Int) : Rat)) 4, fun v _ w => IsQ (W6).heap.size w v (((1 : Int) : Rat) / ((3 : Int) : Rat)) 4, fun v _ w => IsQ (W6).heap.size w v ((((1 : Int) : Rat) / ((2 : Int) : Rat)) + (((1 : Int) : Rat) / ((3 : Int) : Rat))) 9, fun v _ _ => IsS v (txtQ ((((1 : Int) : Rat) / ((2 : Int) : Rat)) + (((1 : Int) : Rat) / ((3 : Int) : Rat)))), fun v _ _ => v = .bool true, fun v _ _ => v = .bool true, fun v _ _ => v = .bool true, fun v _ _ => v = .agg #[.bool b2, .slice A2 n2 c2, .slice B2 m2 d2], fun v _ w => IsQ (W6).heap.size w v (((2 : Int) : Rat) / ((3 : Int) : Rat)) 4, fun v _ w => IsQ (W6).heap.size w v ((Rat.divInt 6 (-4)) * (((2 : Int) : Rat) / ((3 : Int) : Rat))) 8, fun v _ _ => IsS v (txtQ ((Rat.divInt 6 (-4)) * (((2 : Int) : Rat) / ((3 : Int) : Rat)))), fun v _ _ => v = .bool true, fun v _ _ => v = .bool true, fun v _ _ => v = .bool true, fun v _ _ => v = .agg #[.bool b2, .slice A2 n2 c2, .slice B2 m2 d2], fun v _ w => IsZ (W6).heap.size w v ((Rat.divInt 6 (-4)).floor) 5, fun v _ w => IsX w v [2], fun v _ w => IsT w v ((-2)) 4, fun v _ _ => v = .bool true, fun v _ _ => v = .bool true, fun v _ _ => v = .bool true, fun v _ _ => v = .agg #[.bool b2, .slice A2 n2 c2, .slice B2 m2 d2], fun v _ w => IsZ (W6).heap.size w v ((Rat.divInt 6 (-4)).ceil) 5, fun v _ w => IsX w v [1], fun v _ w => IsT w v ((-1)) 4, fun v _ _ => v = .bool true, fun v _ _ => v = .bool true, fun v _ _ => v = .bool true, fun v _ w => IsQ (W6).heap.size w v (((1 : Int) : Rat) / ((3 : Int) : Rat)) 4, fun v _ _ => v = .agg #[.bool false, .slice (some ⟨w2.heap.size + 1, 0, none⟩) 2 2, .slice (some ⟨w2.heap.size + 1 + 1, 0, none⟩) 1 1], fun v _ _ => v = .int .i64 0, fun v _ _ => v = .bool true, fun v _ _ => v = .bool true, fun v _ _ => v = .bool true, fun v _ _ => v = .bool false, fun v _ _ => v = .bool true, fun v _ _ => v = .bool true, fun v _ _ => v = .bool true, fun v _ _ => v = .bool true, fun v _ _ => v = .bool true, fun v _ _ => v = .bool true, fun v _ _ => v = .agg #[.bool b7, .slice A7 n7 c7, .slice B7 m7 d7], fun v _ _ => IsS v (txtQ (mkRat (-5) 3)), fun v _ _ => v = .bool true, fun v _ _ => v = .bool true, fun v _ _ => v = .bool true, fun v _ _ => v = .bool false, fun v _ _ => v = .bool true, fun v _ _ => v = .bool true, fun v _ _ => v = .bool true] (n := 58) (by kernel_rfl) rfl (by kernel_rfl) (by kernel_rfl) (by kernel_rfl) (by kernel_rfl) (by kernel_rfl) rb_refl rb_trans ⟨sC, ⟨sS, ⟨sC, ⟨sC, ⟨sC, ⟨sC, ⟨sC, ⟨sC, ⟨sQ, ⟨sQ, ⟨sQ, ⟨sS, ⟨sC, ⟨sC, ⟨sC, ⟨sC, ⟨sQ, ⟨sQ, ⟨sS, ⟨sC, ⟨sC, ⟨sC, ⟨sC, ⟨sZ, ⟨sX, ⟨sT, ⟨sC, ⟨sC, ⟨sC, ⟨sC, ⟨sZ, ⟨sX, ⟨sT, ⟨sC, ⟨sC, ⟨sC, ⟨sQ, ⟨sC, ⟨sC, ⟨sC, ⟨sC, ⟨sC, ⟨sC, ⟨sC, ⟨sC, ⟨sC, ⟨sC, ⟨sC, ⟨sC, ⟨sC, ⟨sS, ⟨sC, ⟨sC, ⟨sC, ⟨sC, ⟨sC, ⟨sC, ⟨sC, trivial⟩⟩⟩⟩⟩⟩⟩⟩⟩⟩⟩⟩⟩⟩⟩⟩⟩⟩⟩⟩⟩⟩⟩⟩⟩⟩⟩⟩⟩⟩⟩⟩⟩⟩⟩⟩⟩⟩⟩⟩⟩⟩⟩⟩⟩⟩⟩⟩⟩⟩⟩⟩⟩⟩⟩⟩⟩⟩ ?_ ?_
 ·refine ⟨⟨⟨⟨⟨⟨⟨⟨⟨⟨⟨⟨⟨⟨⟨⟨⟨⟨⟨⟨⟨⟨⟨⟨⟨⟨⟨⟨⟨⟨⟨⟨⟨⟨⟨⟨⟨⟨⟨⟨⟨⟨⟨⟨⟨⟨⟨⟨⟨⟨⟨⟨⟨⟨⟨⟨⟨⟨trivial, ?_⟩, ?_⟩, ?_⟩, ?_⟩, ?_⟩, ?_⟩, ?_⟩, ?_⟩, ?_⟩, ?_⟩, ?_⟩, ?_⟩, ?_⟩, ?_⟩, ?_⟩, ?_⟩, ?_⟩, ?_⟩, ?_⟩, ?_⟩, ?_⟩, ?_⟩, ?_⟩, ?_⟩, ?_⟩, ?_⟩, ?_⟩, ?_⟩, ?_⟩, ?_⟩, ?_⟩, ?_⟩, ?_⟩, ?_⟩, ?_⟩, ?_⟩, ?_⟩, ?_⟩, ?_⟩, ?_⟩, ?_⟩, ?_⟩, ?_⟩, ?_⟩, ?_⟩, ?_⟩, ?_⟩, ?_⟩, ?_⟩, ?_⟩, ?_⟩, ?_⟩, ?_⟩, ?_⟩, ?_⟩, ?_⟩, ?_⟩, ?_⟩
  ·refine rs_plain rfl rfl fun a wr S => ?_
   have X := undrew S.ext
   exact wp_qload (ev_of ((S.old 2 (by kernel_rfl)).trans rfl)) (P2.below X) (done (by kernel_rfl) rbu_refl rfl)
  ·refine rs_plain rfl rfl fun a wr S => ?_
   have X := undrew S.ext
   obtain ⟨v0, e0, h0⟩ := S.got 0 (by kernel_rfl)
   exact st_call cf_rat_Text (args1 ((ev_of (e0 36 (by kernel_rfl))).trans h0)) (by kernel_rfl) rb (cQText (show IsQm _ _ _ _ from (Q2.below X).m) (by omega) (by omega)) (fun _ _ _ h => h)
  ·refine rs_plain rfl rfl fun a wr S => ?_
   have X := undrew S.ext
   obtain ⟨v1, e1, h1⟩ := S.got 1 (by kernel_rfl)
   obtain ⟨sx, hsx, bsx⟩ := (show IsS _ _ from h1)
   exact wp_eqS ((ev_of (e1 37 (by kernel_rfl))).trans hsx) rfl (done (by kernel_rfl) rbu_refl (congrArg Value.bool (eqB bsx (by rfl) w_a)))
  ·refine rs_plain rfl rfl fun a wr S => ?_
   have X := undrew S.ext
   obtain ⟨v2, e2, h2⟩ := S.got 2 (by kernel_rfl)
   exact wp_mv ((ev_of (e2 38 (by kernel_rfl))).trans h2) (done (by kernel_rfl) rbu_refl rfl)
  ·refine rs_yes rfl rfl (by kernel_rfl) (by kernel_rfl : _ = some 39) (fun _ _ _ h => h) fun a wr S => ?_
   have X := undrew S.ext
   exact wp_mv (ev_of ((S.old 3 (by kernel_rfl)).trans rfl)) (done (by kernel_rfl) rbu_refl rfl)
  ·refine rs_yes rfl rfl (by kernel_rfl) (by kernel_rfl : _ = some 39) (fun _ _ _ h => h) fun a wr S => ?_
   have X := undrew S.ext
   obtain ⟨v4, e4, h4⟩ := S.got 4 (by kernel_rfl)
   exact wp_eqI ((ev_of (e4 40 (by kernel_rfl))).trans h4) rfl (Or.inr rfl) (done (by kernel_rfl) rbu_refl (congrArg Value.bool (by decide)))
  ·refine rs_plain rfl rfl fun a wr S => ?_
   have X := undrew S.ext
   obtain ⟨v3, e3, h3⟩ := S.got 3 (by kernel_rfl)
   obtain ⟨v5, e5, h5⟩ := S.got 5 (by kernel_rfl)
   exact wp_pickT ((ev_of (e3 39 (by kernel_rfl))).trans h3) ((ev_of (e5 41 (by kernel_rfl))).trans h5) (done (by kernel_rfl) rbu_refl rfl)
  ·refine rs_plain rfl rfl fun a wr S => ?_
   have X := undrew S.ext
   obtain ⟨v6, e6, h6⟩ := S.got 6 (by kernel_rfl)
   exact wp_mv ((ev_of (e6 42 (by kernel_rfl))).trans h6) (done (by kernel_rfl) rbu_refl rfl)
  ·refine rs_yes rfl rfl (by kernel_rfl) (by kernel_rfl : _ = some 43) (fun _ _ _ h => h) fun a wr S => ?_
   have X := undrew S.ext
   exact st_call cf_law03_of (args2 rfl rfl) (by kernel_rfl) rb ((cOf3 1 2 (by omega) (by omega) (by omega) (by omega)).mono (ansQ_base X.size)) (fun _ _ _ h => h)
  ·refine rs_yes rfl rfl (by kernel_rfl) (by kernel_rfl : _ = some 43) (fun _ _ _ h => h) fun a wr S => ?_
   have X := undrew S.ext
   exact st_call cf_law03_of (args2 rfl rfl) (by kernel_rfl) rb ((cOf3 1 3 (by omega) (by omega) (by omega) (by omega)).mono (ansQ_base X.size)) (fun _ _ _ h => h)
  ·refine rs_yes rfl rfl (by kernel_rfl) (by kernel_rfl : _ = some 43) (fun _ _ _ h => h) fun a wr S => ?_
   have X := undrew S.ext
   obtain ⟨v8, e8, h8⟩ := S.got 8 (by kernel_rfl)
   obtain ⟨v9, e9, h9⟩ := S.got 9 (by kernel_rfl)
   exact st_call cf_rat_Add (args2 (ev_of (e8 44 (by kernel_rfl))) (ev_of (e9 45 (by kernel_rfl)))) (by kernel_rfl) rb ((cQAdd (show IsQm _ _ _ _ from h8.m) (show IsQm _ _ _ _ from h9.m) (by omega) (by omega) (by omega) (by omega)).mono (ansQ_base X.size)) (fun _ _ _ h => h)
  ·refine rs_yes rfl rfl (by kernel_rfl) (by kernel_rfl : _ = some 43) (fun _ _ _ h => h) fun a wr S => ?_
   have X := undrew S.ext
   obtain ⟨v10, e10, h10⟩ := S.got 10 (by kernel_rfl)
   exact st_call cf_rat_Text (args1 (ev_of (e10 46 (by kernel_rfl)))) (by kernel_rfl) rb (cQText (show IsQm _ _ _ _ from h10.m) (by omega) (by omega)) (fun _ _ _ h => h)
  ·refine rs_yes rfl rfl (by kernel_rfl) (by kernel_rfl : _ = some 43) (fun _ _ _ h => h) fun a wr S => ?_
   have X := undrew S.ext
   obtain ⟨v11, e11, h11⟩ := S.got 11 (by kernel_rfl)
   obtain ⟨sx, hsx, bsx⟩ := (show IsS _ _ from h11)
   exact wp_eqS ((ev_of (e11 47 (by kernel_rfl))).trans hsx) rfl (done (by kernel_rfl) rbu_refl (congrArg Value.bool (eqB bsx (by rfl) w_s)))
  ·refine rs_plain rfl rfl fun a wr S => ?_
   have X := undrew S.ext
   obtain ⟨v7, e7, h7⟩ := S.got 7 (by kernel_rfl)
   obtain ⟨v12, e12, h12⟩ := S.got 12 (by kernel_rfl)
   exact wp_pickT ((ev_of (e7 43 (by kernel_rfl))).trans h7) ((ev_of (e12 48 (by kernel_rfl))).trans h12) (done (by kernel_rfl) rbu_refl rfl)
  ·refine rs_plain rfl rfl fun a wr S => ?_
   have X := undrew S.ext
   obtain ⟨v13, e13, h13⟩ := S.got 13 (by kernel_rfl)
   exact wp_mv ((ev_of (e13 49 (by kernel_rfl))).trans h13) (done (by kernel_rfl) rbu_refl rfl)
  ·refine rs_yes rfl rfl (by kernel_rfl) (by kernel_rfl : _ = some 50) (fun _ _ _ h => h) fun a wr S => ?_
   have X := undrew S.ext
   exact wp_qload (ev_of ((S.old 2 (by kernel_rfl)).trans rfl)) (P2.below X) (done (by kernel_rfl) rbu_refl rfl)
  ·refine rs_yes rfl rfl (by kernel_rfl) (by kernel_rfl : _ = some 50) (fun _ _ _ h => h) fun a wr S => ?_
   have X := undrew S.ext
   exact st_call cf_law03_of (args2 rfl rfl) (by kernel_rfl) rb ((cOf3 2 3 (by omega) (by omega) (by omega) (by omega)).mono (ansQ_base X.size)) (fun _ _ _ h => h)
  ·refine rs_yes rfl rfl (by kernel_rfl) (by kernel_rfl : _ = some 50) (fun _ _ _ h => h) fun a wr S => ?_
   have X := undrew S.ext
   obtain ⟨v15, e15, h15⟩ := S.got 15 (by kernel_rfl)
   obtain ⟨v16, e16, h16⟩ := S.got 16 (by kernel_rfl)
   exact st_call cf_rat_Mul (args2 ((ev_of (e15 51 (by kernel_rfl))).trans h15) (ev_of (e16 52 (by kernel_rfl)))) (by kernel_rfl) rb ((cQMul (show IsQm _ _ _ _ from (Q2.below X).m) (show IsQm _ _ _ _ from h16.m) (by omega) (by omega) (by omega) (by omega)).mono (ansQ_base X.size)) (fun _ _ _ h => h)
  ·refine rs_yes rfl rfl (by kernel_rfl) (by kernel_rfl : _ = some 50) (fun _ _ _ h => h) fun a wr S => ?_
   have X := undrew S.ext
   obtain ⟨v17, e17, h17⟩ := S.got 17 (by kernel_rfl)
   exact st_call cf_rat_Text (args1 (ev_of (e17 53 (by kernel_rfl)))) (by kernel_rfl) rb (cQText (show IsQm _ _ _ _ from h17.m) (by omega) (by omega)) (fun _ _ _ h => h)
  ·refine rs_yes rfl rfl (by kernel_rfl) (by kernel_rfl : _ = some 50) (fun _ _ _ h => h) fun a wr S => ?_
   have X := undrew S.ext
   obtain ⟨v18, e18, h18⟩ := S.got 18 (by kernel_rfl)
   obtain ⟨sx, hsx, bsx⟩ := (show IsS _ _ from h18)
   exact wp_eqS ((ev_of (e18 54 (by kernel_rfl))).trans hsx) rfl (done (by kernel_rfl) rbu_refl (congrArg Value.bool (eqB bsx (by rfl) w_m)))
  ·refine rs_plain rfl rfl fun a wr S => ?_
   have X := undrew S.ext
   obtain ⟨v14, e14, h14⟩ := S.got 14 (by kernel_rfl)
   obtain ⟨v19, e19, h19⟩ := S.got 19 (by kernel_rfl)
   exact wp_pickT ((ev_of (e14 50 (by kernel_rfl))).trans h14) ((ev_of (e19 55 (by kernel_rfl))).trans h19) (done (by kernel_rfl) rbu_refl rfl)
  ·refine rs_plain rfl rfl fun a wr S => ?_
   have X := undrew S.ext
   obtain ⟨v20, e20, h20⟩ := S.got 20 (by kernel_rfl)
   exact wp_mv ((ev_of (e20 56 (by kernel_rfl))).trans h20) (done (by kernel_rfl) rbu_refl rfl)
  ·refine rs_yes rfl rfl (by kernel_rfl) (by kernel_rfl : _ = some 57) (fun _ _ _ h => h) fun a wr S => ?_
   have X := undrew S.ext
   exact wp_qload (ev_of ((S.old 2 (by kernel_rfl)).trans rfl)) (P2.below X) (done (by kernel_rfl) rbu_refl rfl)
  ·refine rs_yes rfl rfl (by kernel_rfl) (by kernel_rfl : _ = some 57) (fun _ _ _ h => h) fun a wr S => ?_
   have X := undrew S.ext
   obtain ⟨v22, e22, h22⟩ := S.got 22 (by kernel_rfl)
   exact st_call cf_rat_Floor (args1 ((ev_of (e22 58 (by kernel_rfl))).trans h22)) (by kernel_rfl) rb ((cQFloor (show IsQm _ _ _ _ from (Q2.below X).m) (by omega) (by omega)).mono (ansZ_base X.size)) (fun _ _ _ h => h)
  ·refine rs_yes rfl rfl (by kernel_rfl) (by kernel_rfl : _ = some 57) (fun _ _ _ h => h) fun a wr S => ?_
   have X := undrew S.ext
   exact wp_bsL1 (done' (by kernel_rfl) (rb _ _ _ (bl_alloc _ _)) (litX1 wr 2 (by omega)))
  ·refine rs_yes rfl rfl (by kernel_rfl) (by kernel_rfl : _ = some 57) (fun _ _ _ h => h) fun a wr S => ?_
   have X := undrew S.ext
   obtain ⟨v24, e24, h24⟩ := S.got 24 (by kernel_rfl)
   obtain ⟨AA, nn, cc, hvv, RR, ll⟩ := (show IsX wr _ [2] from h24)
   exact wp_bZ rfl ((ev_of (e24 60 (by kernel_rfl))).trans hvv) (done (by kernel_rfl) rbu_refl (isT_lit RR ll (by decide +kernel) (by decide)))
  ·refine rs_yes rfl rfl (by kernel_rfl) (by kernel_rfl : _ = some 57) (fun _ _ _ h => h) fun a wr S => ?_
   have X := undrew S.ext
   obtain ⟨v23, e23, h23⟩ := S.got 23 (by kernel_rfl)
   obtain ⟨v25, e25, h25⟩ := S.got 25 (by kernel_rfl)
   exact st_call cf_ref03_SameInt (args2 (ev_of (e23 59 (by kernel_rfl))) (ev_of (e25 61 (by kernel_rfl)))) (by kernel_rfl) rb ((cSameInt h23.t h25 (by omega) (by omega)).mono (ansB (decide_eq_true w_fl))) (fun _ _ _ h => h)
  ·refine rs_plain rfl rfl fun a wr S => ?_
   have X := undrew S.ext
   obtain ⟨v21, e21, h21⟩ := S.got 21 (by kernel_rfl)
   obtain ⟨v26, e26, h26⟩ := S.got 26 (by kernel_rfl)
   exact wp_pickT ((ev_of (e21 57 (by kernel_rfl))).trans h21) ((ev_of (e26 62 (by kernel_rfl))).trans h26) (done (by kernel_rfl) rbu_refl rfl)
  ·refine rs_plain rfl rfl fun a wr S => ?_
   have X := undrew S.ext
   obtain ⟨v27, e27, h27⟩ := S.got 27 (by kernel_rfl)
   exact wp_mv ((ev_of (e27 63 (by kernel_rfl))).trans h27) (done (by kernel_rfl) rbu_refl rfl)
  ·refine rs_yes rfl rfl (by kernel_rfl) (by kernel_rfl : _ = some 64) (fun _ _ _ h => h) fun a wr S => ?_
   have X := undrew S.ext
   exact wp_qload (ev_of ((S.old 2 (by kernel_rfl)).trans rfl)) (P2.below X) (done (by kernel_rfl) rbu_refl rfl)
  ·refine rs_yes rfl rfl (by kernel_rfl) (by kernel_rfl : _ = some 64) (fun _ _ _ h => h) fun a wr S => ?_
   have X := undrew S.ext
   obtain ⟨v29, e29, h29⟩ := S.got 29 (by kernel_rfl)
   exact st_call cf_rat_Ceil (args1 ((ev_of (e29 65 (by kernel_rfl))).trans h29)) (by kernel_rfl) rb ((cQCeil (show IsQm _ _ _ _ from (Q2.below X).m) (by omega) (by omega)).mono (ansZ_base X.size)) (fun _ _ _ h => h)
  ·refine rs_yes rfl rfl (by kernel_rfl) (by kernel_rfl : _ = some 64) (fun _ _ _ h => h) fun a wr S => ?_
   have X := undrew S.ext
   exact wp_bsL1 (done' (by kernel_rfl) (rb _ _ _ (bl_alloc _ _)) (litX1 wr 1 (by omega)))
  ·refine rs_yes rfl rfl (by kernel_rfl) (by kernel_rfl : _ = some 64) (fun _ _ _ h => h) fun a wr S => ?_
   have X := undrew S.ext
   obtain ⟨v31, e31, h31⟩ := S.got 31 (by kernel_rfl)
   obtain ⟨AA, nn, cc, hvv, RR, ll⟩ := (show IsX wr _ [1] from h31)
   exact wp_bZ rfl ((ev_of (e31 67 (by kernel_rfl))).trans hvv) (done (by kernel_rfl) rbu_refl (isT_lit RR ll (by decide +kernel) (by decide)))
  ·refine rs_yes rfl rfl (by kernel_rfl) (by kernel_rfl : _ = some 64) (fun _ _ _ h => h) fun a wr S => ?_
   have X := undrew S.ext
   obtain ⟨v30, e30, h30⟩ := S.got 30 (by kernel_rfl)
   obtain ⟨v32, e32, h32⟩ := S.got 32 (by kernel_rfl)
   exact st_call cf_ref03_SameInt (args2 (ev_of (e30 66 (by kernel_rfl))) (ev_of (e32 68 (by kernel_rfl)))) (by kernel_rfl) rb ((cSameInt h30.t h32 (by omega) (by omega)).mono (ansB (decide_eq_true w_ce))) (fun _ _ _ h => h)
  ·refine rs_plain rfl rfl fun a wr S => ?_
   have X := undrew S.ext
   obtain ⟨v28, e28, h28⟩ := S.got 28 (by kernel_rfl)
   obtain ⟨v33, e33, h33⟩ := S.got 33 (by kernel_rfl)
   exact wp_pickT ((ev_of (e28 64 (by kernel_rfl))).trans h28) ((ev_of (e33 69 (by kernel_rfl))).trans h33) (done (by kernel_rfl) rbu_refl rfl)
  ·refine rs_plain rfl rfl fun a wr S => ?_
   have X := undrew S.ext
   obtain ⟨v34, e34, h34⟩ := S.got 34 (by kernel_rfl)
   exact wp_mv ((ev_of (e34 70 (by kernel_rfl))).trans h34) (done (by kernel_rfl) rbu_refl rfl)
  ·refine rs_yes rfl rfl (by kernel_rfl) (by kernel_rfl : _ = some 71) (fun _ _ _ h => h) fun a wr S => ?_
   have X := undrew S.ext
   exact st_call cf_law03_of (args2 rfl rfl) (by kernel_rfl) rb ((cOf3 1 3 (by omega) (by omega) (by omega) (by omega)).mono (ansQ_base X.size)) (fun _ _ _ h => h)
  ·refine rs_yes rfl rfl (by kernel_rfl) (by kernel_rfl : _ = some 71) (fun _ _ _ h => h) fun a wr S => ?_
   have X := undrew S.ext
   exact wp_qload (ev_of ((S.old 4 (by kernel_rfl)).trans rfl)) (P4.below X) (done (by kernel_rfl) rbu_refl rfl)
  ·refine rs_yes rfl rfl (by kernel_rfl) (by kernel_rfl : _ = some 71) (fun _ _ _ h => h) fun a wr S => ?_
   have X := undrew S.ext
   obtain ⟨v36, e36, h36⟩ := S.got 36 (by kernel_rfl)
   obtain ⟨v37, e37, h37⟩ := S.got 37 (by kernel_rfl)
   exact st_call cf_rat_Cmp (args2 (ev_of (e36 72 (by kernel_rfl))) ((ev_of (e37 73 (by kernel_rfl))).trans h37)) (by kernel_rfl) rb ((cQCmp (show IsQm _ _ _ _ from h36.m) (show IsQm _ _ _ _ from (Q4.below X)) (by omega) (by omega) (by omega) (by omega)).mono (ans_intW w_cm)) (fun _ _ _ h => h)
  ·refine rs_yes rfl rfl (by kernel_rfl) (by kernel_rfl : _ = some 71) (fun _ _ _ h => h) fun a wr S => ?_
   have X := undrew S.ext
   obtain ⟨v38, e38, h38⟩ := S.got 38 (by kernel_rfl)
   exact wp_eqI ((ev_of (e38 74 (by kernel_rfl))).trans h38) rfl (Or.inl rfl) (done (by kernel_rfl) rbu_refl (congrArg Value.bool (by decide)))
  ·refine rs_plain rfl rfl fun a wr S => ?_
   have X := undrew S.ext
   obtain ⟨v35, e35, h35⟩ := S.got 35 (by kernel_rfl)
   obtain ⟨v39, e39, h39⟩ := S.got 39 (by kernel_rfl)
   exact wp_pickT ((ev_of (e35 71 (by kernel_rfl))).trans h35) ((ev_of (e39 75 (by kernel_rfl))).trans h39) (done (by kernel_rfl) rbu_refl rfl)
  ·refine rs_plain rfl rfl fun a wr S => ?_
   have X := undrew S.ext
   obtain ⟨v40, e40, h40⟩ := S.got 40 (by kernel_rfl)
   exact wp_mv ((ev_of (e40 76 (by kernel_rfl))).trans h40) (done (by kernel_rfl) rbu_refl rfl)
  ·refine rs_yes rfl rfl (by kernel_rfl) (by kernel_rfl : _ = some 77) (fun _ _ _ h => h) fun a wr S => ?_
   have X := undrew S.ext
   exact wp_mv (ev_of ((S.old 6 (by kernel_rfl)).trans rfl)) (done (by kernel_rfl) rbu_refl rfl)
  ·refine rs_yes rfl rfl (by kernel_rfl) (by kernel_rfl : _ = some 77) (fun _ _ _ h => h) fun a wr S => ?_
   have X := undrew S.ext
   obtain ⟨v42, e42, h42⟩ := S.got 42 (by kernel_rfl)
   exact wp_not ((ev_of (e42 78 (by kernel_rfl))).trans h42) (done (by kernel_rfl) rbu_refl rfl)
  ·refine rs_plain rfl rfl fun a wr S => ?_
   have X := undrew S.ext
   obtain ⟨v41, e41, h41⟩ := S.got 41 (by kernel_rfl)
   obtain ⟨v43, e43, h43⟩ := S.got 43 (by kernel_rfl)
   exact wp_pickT ((ev_of (e41 77 (by kernel_rfl))).trans h41) ((ev_of (e43 79 (by kernel_rfl))).trans h43) (done (by kernel_rfl) rbu_refl rfl)
  ·refine rs_plain rfl rfl fun a wr S => ?_
   have X := undrew S.ext
   obtain ⟨v44, e44, h44⟩ := S.got 44 (by kernel_rfl)
   exact wp_mv ((ev_of (e44 80 (by kernel_rfl))).trans h44) (done (by kernel_rfl) rbu_refl rfl)
  ·refine rs_yes rfl rfl (by kernel_rfl) (by kernel_rfl : _ = some 81) (fun _ _ _ h => h) fun a wr S => ?_
   have X := undrew S.ext
   exact wp_mv (ev_of ((S.old 8 (by kernel_rfl)).trans rfl)) (done (by kernel_rfl) rbu_refl rfl)
  ·refine rs_plain rfl rfl fun a wr S => ?_
   have X := undrew S.ext
   obtain ⟨v45, e45, h45⟩ := S.got 45 (by kernel_rfl)
   obtain ⟨v46, e46, h46⟩ := S.got 46 (by kernel_rfl)
   exact wp_pickT ((ev_of (e45 81 (by kernel_rfl))).trans h45) ((ev_of (e46 82 (by kernel_rfl))).trans h46) (done (by kernel_rfl) rbu_refl rfl)
  ·refine rs_plain rfl rfl fun a wr S => ?_
   have X := undrew S.ext
   obtain ⟨v47, e47, h47⟩ := S.got 47 (by kernel_rfl)
   exact wp_mv ((ev_of (e47 83 (by kernel_rfl))).trans h47) (done (by kernel_rfl) rbu_refl rfl)
  ·refine rs_yes rfl rfl (by kernel_rfl) (by kernel_rfl : _ = some 84) (fun _ _ _ h => h) fun a wr S => ?_
   have X := undrew S.ext
   exact wp_qload (ev_of ((S.old 7 (by kernel_rfl)).trans rfl)) (P7.below X) (done (by kernel_rfl) rbu_refl rfl)
  ·refine rs_yes rfl rfl (by kernel_rfl) (by kernel_rfl : _ = some 84) (fun _ _ _ h => h) fun a wr S => ?_
   have X := undrew S.ext
   obtain ⟨v49, e49, h49⟩ := S.got 49 (by kernel_rfl)
   exact st_call cf_rat_Text (args1 ((ev_of (e49 85 (by kernel_rfl))).trans h49)) (by kernel_rfl) rb (cQText (show IsQm _ _ _ _ from (Q7.below X).m) (by omega) (by omega)) (fun _ _ _ h => h)
  ·refine rs_yes rfl rfl (by kernel_rfl) (by kernel_rfl : _ = some 84) (fun _ _ _ h => h) fun a wr S => ?_
   have X := undrew S.ext
   obtain ⟨v50, e50, h50⟩ := S.got 50 (by kernel_rfl)
   obtain ⟨sx, hsx, bsx⟩ := (show IsS _ _ from h50)
   exact wp_eqS ((ev_of (e50 86 (by kernel_rfl))).trans hsx) rfl (done (by kernel_rfl) rbu_refl (congrArg Value.bool (eqB bsx (by rfl) w_c)))
  ·refine rs_plain rfl rfl fun a wr S => ?_
   have X := undrew S.ext
   obtain ⟨v48, e48, h48⟩ := S.got 48 (by kernel_rfl)
   obtain ⟨v51, e51, h51⟩ := S.got 51 (by kernel_rfl)
   exact wp_pickT ((ev_of (e48 84 (by kernel_rfl))).trans h48) ((ev_of (e51 87 (by kernel_rfl))).trans h51) (done (by kernel_rfl) rbu_refl rfl)
  ·refine rs_plain rfl rfl fun a wr S => ?_
   have X := undrew S.ext
   obtain ⟨v52, e52, h52⟩ := S.got 52 (by kernel_rfl)
   exact wp_mv ((ev_of (e52 88 (by kernel_rfl))).trans h52) (done (by kernel_rfl) rbu_refl rfl)
  ·refine rs_yes rfl rfl (by kernel_rfl) (by kernel_rfl : _ = some 89) (fun _ _ _ h => h) fun a wr S => ?_
   have X := undrew S.ext
   exact wp_mv (ev_of ((S.old 10 (by kernel_rfl)).trans rfl)) (done (by kernel_rfl) rbu_refl rfl)
  ·refine rs_yes rfl rfl (by kernel_rfl) (by kernel_rfl : _ = some 89) (fun _ _ _ h => h) fun a wr S => ?_
   have X := undrew S.ext
   obtain ⟨v54, e54, h54⟩ := S.got 54 (by kernel_rfl)
   exact wp_not ((ev_of (e54 90 (by kernel_rfl))).trans h54) (done (by kernel_rfl) rbu_refl rfl)
  ·refine rs_plain rfl rfl fun a wr S => ?_
   have X := undrew S.ext
   obtain ⟨v53, e53, h53⟩ := S.got 53 (by kernel_rfl)
   obtain ⟨v55, e55, h55⟩ := S.got 55 (by kernel_rfl)
   exact wp_pickT ((ev_of (e53 89 (by kernel_rfl))).trans h53) ((ev_of (e55 91 (by kernel_rfl))).trans h55) (done (by kernel_rfl) rbu_refl rfl)
  ·refine rs_plain rfl rfl fun a wr S => ?_
   have X := undrew S.ext
   obtain ⟨v56, e56, h56⟩ := S.got 56 (by kernel_rfl)
   exact wp_as ((ev_of (e56 92 (by kernel_rfl))).trans h56) (done (by kernel_rfl) rbu_refl rfl)
 ·intro fa w7 hR hv
  replace hR := undrew hR
  have f0 : fa 0 = .agg #[.bool b2, .slice A2 n2 c2, .slice B2 m2 d2] := (hvc (hv 0 (by omega))).elim fun _ h => h
  have f2 : fa 2 = .bool true := (hvc (hv 2 (by omega))).elim fun _ h => h
  have f3 : fa 3 = .bool true := (hvc (hv 3 (by omega))).elim fun _ h => h
  have f4 : fa 4 = .int .i64 0 := (hvc (hv 4 (by omega))).elim fun _ h => h
  have f5 : fa 5 = .bool true := (hvc (hv 5 (by omega))).elim fun _ h => h
  have f6 : fa 6 = .bool true := (hvc (hv 6 (by omega))).elim fun _ h => h
  have f7 : fa 7 = .bool true := (hvc (hv 7 (by omega))).elim fun _ h => h
  have f12 : fa 12 = .bool true := (hvc (hv 12 (by omega))).elim fun _ h => h
  have f13 : fa 13 = .bool true := (hvc (hv 13 (by omega))).elim fun _ h => h
  have f14 : fa 14 = .bool true := (hvc (hv 14 (by omega))).elim fun _ h => h
  have f15 : fa 15 = .agg #[.bool b2, .slice A2 n2 c2, .slice B2 m2 d2] := (hvc (hv 15 (by omega))).elim fun _ h => h
  have f19 : fa 19 = .bool true := (hvc (hv 19 (by omega))).elim fun _ h => h
  have f20 : fa 20 = .bool true := (hvc (hv 20 (by omega))).elim fun _ h => h
  have f21 : fa 21 = .bool true := (hvc (hv 21 (by omega))).elim fun _ h => h
  have f22 : fa 22 = .agg #[.bool b2, .slice A2 n2 c2, .slice B2 m2 d2] := (hvc (hv 22 (by omega))).elim fun _ h => h
  have f26 : fa 26 = .bool true := (hvc (hv 26 (by omega))).elim fun _ h => h
  have f27 : fa 27 = .bool true := (hvc (hv 27 (by omega))).elim fun _ h => h
  have f28 : fa 28 = .bool true := (hvc (hv 28 (by omega))).elim fun _ h => h
  have f29 : fa 29 = .agg #[.bool b2, .slice A2 n2 c2, .slice B2 m2 d2] := (hvc (hv 29 (by omega))).elim fun _ h => h
  have f33 : fa 33 = .bool true := (hvc (hv 33 (by omega))).elim fun _ h => h
  have f34 : fa 34 = .bool true := (hvc (hv 34 (by omega))).elim fun _ h => h
  have f35 : fa 35 = .bool true := (hvc (hv 35 (by omega))).elim fun _ h => h
  have f37 : fa 37 = .agg #[.bool false, .slice (some ⟨w2.heap.size + 1, 0, none⟩) 2 2, .slice (some ⟨w2.heap.size + 1 + 1, 0, none⟩) 1 1] := (hvc (hv 37 (by omega))).elim fun _ h => h
  have f38 : fa 38 = .int .i64 0 := (hvc (hv 38 (by omega))).elim fun _ h => h
  have f39 : fa 39 = .bool true := (hvc (hv 39 (by omega))).elim fun _ h => h
  have f40 : fa 40 = .bool true := (hvc (hv 40 (by omega))).elim fun _ h => h
  have f41 : fa 41 = .bool true := (hvc (hv 41 (by omega))).elim fun _ h => h
  have f42 : fa 42 = .bool false := (hvc (hv 42 (by omega))).elim fun _ h => h
  have f43 : fa 43 = .bool true := (hvc (hv 43 (by omega))).elim fun _ h => h
  have f44 : fa 44 = .bool true := (hvc (hv 44 (by omega))).elim fun _ h => h
  have f45 : fa 45 = .bool true := (hvc (hv 45 (by omega))).elim fun _ h => h
  have f46 : fa 46 = .bool true := (hvc (hv 46 (by omega))).elim fun _ h => h
  have f47 : fa 47 = .bool true := (hvc (hv 47 (by omega))).elim fun _ h => h
  have f48 : fa 48 = .bool true := (hvc (hv 48 (by omega))).elim fun _ h => h
  have f49 : fa 49 = .agg #[.bool b7, .slice A7 n7 c7, .slice B7 m7 d7] := (hvc (hv 49 (by omega))).elim fun _ h => h
  have f51 : fa 51 = .bool true := (hvc (hv 51 (by omega))).elim fun _ h => h
  have f52 : fa 52 = .bool true := (hvc (hv 52 (by omega))).elim fun _ h => h
  have f53 : fa 53 = .bool true := (hvc (hv 53 (by omega))).elim fun _ h => h
  have f54 : fa 54 = .bool false := (hvc (hv 54 (by omega))).elim fun _ h => h
  have f55 : fa 55 = .bool true := (hvc (hv 55 (by omega))).elim fun _ h => h
  have f56 : fa 56 = .bool true := (hvc (hv 56 (by omega))).elim fun _ h => h
  have f57 : fa 57 = .bool true := (hvc (hv 57 (by omega))).elim fun _ h => h
  simp only [putFn, Act.put, List.setIfInBounds_toArray, List.set_cons_zero, List.set_cons_succ, f0, f2, f3, f4, f5, f6, f7, f12, f13, f14, f15, f19, f20, f21, f22, f26, f27, f28, f29, f33, f34, f35, f37, f38, f39, f40, f41, f42, f43, f44, f45, f46, f47, f48, f49, f51, f52, f53, f54, f55, f56, f57]
  replace BB := bl_trans BB hR
  clear hR hv
  go_wp2_with fail
  go_ret
  exact ⟨_, rfl, BB, rfl⟩

end Go.Proofs.YtbhgbilhoonopaaGreat
namespace Go.Proofs.YtbhgbilhoonopaaGreat
open Go.RowKit
set_option linter.unusedVariables false

section
variable {P : Program} {ops pre : Array Oper} {Q : Exit → Act → World → Prop}

theorem wpList_seq {Ext : World → World → Prop} {Rel : Value → World → World → Prop} {sp : Nat → Value → Value → World → Prop} {a0 : Act} {W0 : World} {tail : List Oper} (hp : ∀ j, j < pre.size → ops[j]? = pre[j]?) (hG : guardsIn pre = true)
  (hA : dstsApart pre = true) (hI : dstsIn pre a0.tmps.size = true) (hE : edgesBack pre = true)
  (htr : ∀ u a b c, Ext a b → Rel u b c → Ext a c) (hX : auxKept pre = true) (hY : auxApart pre = true) (hst : ∀ i v u u' w w', Rel u' w w' → (u' ≠ undef → u' ≠ u) → sp i v u w → sp i v u w')
  (hstep : ∀ i, i < pre.size → RStep P Ext Rel pre Q sp a0 W0 i)
  (hfin : ∀ vs w, vs.length = pre.size → Ext W0 w → (∀ i v, vs[i]? = some v → (∀ d, dstOf pre i = some d → (putAll pre.toList vs a0).tmps[d]? = some v) ∧ sp i v (auxV pre i (putAll pre.toList vs a0)) w) → (∀ i j di dj, i ≠ j → i < pre.size → j < pre.size → isAlloc pre i = true → isAlloc pre j = true → dstOf pre i = some di → dstOf pre j = some dj → (putAll pre.toList vs a0).tmps[di]? ≠ (putAll pre.toList vs a0).tmps[dj]?) → wpList P ops Q tail (putAll pre.toList vs a0) w) :
  ∀ (r k : Nat) (listed : Array Bool) (a : Act) (w : World), k + r = pre.size → Upto pre listed k → RInv Ext Rel pre sp a0 W0 listed a w → wpList P ops Q (pre.toList.drop k ++ tail) a w := by
 intro r
 induction r with
 | zero =>
  intro k listed a w hk hu h
  have hall : ∀ i, i < pre.size → listed.getD i false = true := fun i hi => by rw [hu.at_ i hi, decide_eq_true_eq]; omega
  have hr : Region.ready .any pre listed = [] := by
   apply List.eq_nil_iff_forall_not_mem.2
   intro i hi
   obtain ⟨hun, o, ho, _⟩ := mem_ready.1 hi
   have hil : i < pre.size := (Array.getElem?_eq_some_iff.1 ho).1
   rw [getD_any (by rw [hu.size]; exact hil) true, hall i hil] at hun
   cases hun
  obtain ⟨vs, hl, rfl, hv⟩ := h.fin hA hI hE hr
  rw [List.drop_of_length_le (by simp; omega), List.nil_append]
  exact hfin vs w hl h.ext hv fun i j di dj hij hi hj hai haj hdi hdj => h.apart i j di dj hij (hall i hi) (hall j hj) hai haj hdi hdj
 | succ r ih =>
  intro k listed a w hk hu h
  have hkl : k < pre.size := by omega
  have hk0 : pre[k]? = some pre[k] := Array.getElem?_eq_getElem hkl
  have hrd : k ∈ Region.ready .any pre listed := by
   refine mem_ready.2 ⟨?_, pre[k], hk0, fun e he hb => ?_⟩
   ·rw [getD_any (by rw [hu.size]; exact hkl) true, hu.at_ k hkl, decide_eq_false_iff_not]
    omega
   ·have := edgesBack_lt hE hk0 he hb
    rw [hu.at_ e.on (by omega), decide_eq_true_eq]
    exact this
  have h1 := wpOp_pre hp hG hkl (wpOp_mono (fun a' w' hl => ih (k + 1) _ a' w' (by omega) (hu.step hkl) (h.step hA hI hE htr hX hY hst hrd hl)) (hstep k hkl a w (h.sees hrd)))
  rw [List.drop_eq_getElem_cons (by simpa using hkl), List.cons_append]
  unfold wpOp at h1
  rw [hp k hkl, hk0] at h1
  exact h1

theorem wp_seq {id : Nat} {a : Act} {w : World} (m : Nat) (h : ops.toList = ops.toList.take m ++ ops.toList.drop m → wpList P ops Q (ops.toList.take m ++ ops.toList.drop m) a w) : (Code.region id ops false).wp P Q a w := by
 have h1 := h (List.take_append_drop m _).symm
 rw [List.take_append_drop] at h1
 exact Go.wp_region_list h1

theorem wp_seq_list {Ext : World → World → Prop} {Rel : Value → World → World → Prop} {front tail : List Oper} (l : List (Value → Value → World → Prop)) {n : Nat} {a0 : Act} {w0 : World} (hn : front.length = n) (hG : guardsIn front.toArray = true) (hA : dstsApart front.toArray = true) (hI : dstsIn front.toArray a0.tmps.size = true) (hE : edgesBack front.toArray = true) (hX : auxKept front.toArray = true) (hY : auxApart front.toArray = true)
  (hrf : ∀ a, Ext a a) (htr : ∀ u a b c, Ext a b → Rel u b c → Ext a c) (hst : StabL Rel l)
  (hstep : allBelow n (RStep P Ext Rel front.toArray Q (spOf l) a0 w0))
  (hfin : ∀ (f : Nat → Value) w, Ext w0 w → (∀ i, i < n → ∃ u, spOf l i (f i) u w ∧ ∀ j, auxIdx front.toArray i = some j → u = f j) → (∀ i j di dj, i ≠ j → i < n → j < n → isAlloc front.toArray i = true → isAlloc front.toArray j = true → dstOf front.toArray i = some di → dstOf front.toArray j = some dj → f i ≠ f j) → wpList P ops Q tail (putFn front f 0 a0) w) : ops.toList = front ++ tail → wpList P ops Q (front ++ tail) a0 w0 := by
 intro hops
 subst hn
 have hsz : front.toArray.size = front.length := by simp
 have hp : ∀ j, j < front.toArray.size → ops[j]? = front.toArray[j]? := by
  intro j hj
  rw [← Array.getElem?_toList, hops, List.getElem?_append_left (by simpa using hj)]
  simp
 have main := wpList_seq (P := P) (Q := Q) (ops := ops) (pre := front.toArray) (sp := spOf l) (a0 := a0) (W0 := w0) (tail := tail) hp hG hA hI hE htr hX hY (stab_of hst) (fun i hi => allBelow_lt hstep i (by simpa using hi)) (by
  intro vs w hl hR hv hap
  have e := putFn_eq front [] vs a0 (by simpa using hl)
  simp only [List.nil_append, List.length_nil] at e
  have := hfin (fun i => vs.getD i undef) w hR (fun i hi => by
   have hvi : vs[i]? = some (vs[i]'(by rw [hl, hsz]; exact hi)) := List.getElem?_eq_getElem _
   have h1 := hv i _ hvi
   refine ⟨auxV front.toArray i (putAll front vs a0), ?_, fun j hj => ?_⟩
   ·simp only [List.getD_eq_getElem?_getD, hvi, Option.getD_some]
    exact h1.2
   ·unfold auxIdx at hj
    cases ha : auxOf front.toArray i with
    | none => rw [ha] at hj; cases hj
    | some p =>
     rw [ha] at hj
     have hj' := List.find?_some hj
     have hjm := List.mem_of_find?_eq_some hj
     have hjl := List.mem_range.1 hjm
     have hd : dstOf front.toArray j = some p := by simpa using hj'
     have hvj : vs[j]? = some (vs[j]'(by rw [hl]; exact hjl)) := List.getElem?_eq_getElem _
     have h2 := (hv j _ hvj).1 p hd
     unfold auxV
     rw [ha]
     simp only [Array.getD_eq_getD_getElem?, List.getD_eq_getElem?_getD, hvj, Option.getD_some]
     have h3 : (putAll front vs a0).tmps[p]? = some (vs[j]'(by rw [hl]; exact hjl)) := h2
     rw [h3]
     rfl) (fun i j di dj hij hi hj hai haj hdi hdj hf => by
   have hvi : vs[i]? = some (vs[i]'(by rw [hl, hsz]; exact hi)) := List.getElem?_eq_getElem _
   have hvj : vs[j]? = some (vs[j]'(by rw [hl, hsz]; exact hj)) := List.getElem?_eq_getElem _
   refine hap i j di dj hij (by rw [hsz]; exact hi) (by rw [hsz]; exact hj) hai haj hdi hdj ?_
   rw [(hv i _ hvi).1 di hdi, (hv j _ hvj).1 dj hdj]
   simp only [List.getD_eq_getElem?_getD, hvi, hvj, Option.getD_some] at hf
   rw [hf])
  rw [e] at this
  exact this)
 exact main front.length 0 (Array.replicate front.length false) a0 w0 (by simp) ⟨by simp, fun i hi => by simp [show i < front.length by simpa using hi]⟩ ⟨hrf _, rfl, rfl, by simp, fun j o _ h => absurd h (no_one _ _), fun _ _ => rfl, fun i h => absurd h (no_one _ _), fun i j di dj _ h => absurd h (no_one _ _)⟩
end
theorem rbX {w w' : World} (h : RB w w') : Below w.heap.size w w' := h
end Go.Proofs.YtbhgbilhoonopaaGreat
namespace Go.Proofs.YtbhgbilhoonopaaGreat
open Go.RowKit
set_option linter.unusedVariables false
set_option maxRecDepth 100000

def IsPQ (N : Nat) (w : World) (v : Value) : Prop := ∃ g, v = .pointer (some ⟨g, 0, none⟩) ∧ N ≤ g ∧ Bq w g false none 0 0 none 0 0
theorem IsPQ.below {N : Nat} {w w' : World} {v : Value} (h : IsPQ N w v) (hb : Below w.heap.size w w') : IsPQ N w' v := by
 obtain ⟨g, rfl, hg, P⟩ := h
 exact ⟨g, rfl, hg, P.below hb⟩
theorem sPQ {N : Nat} : Stab RBu fun v _ w => IsPQ N w v := fun _ _ _ _ _ r _ h => h.below r
theorem IsPQ.lt {N : Nat} {w : World} {v : Value} (h : IsPQ N w v) : ∃ g, v = .pointer (some ⟨g, 0, none⟩) ∧ g < w.heap.size := by
 obtain ⟨g, rfl, hg, P⟩ := h
 exact ⟨g, rfl, P.lt⟩
section
variable {a : Act} {w : World} {Q : Exit → Act → World → Prop} {K : Act → World → Prop} {dst : Option Tmp} {ty : TypeId} {pos : String} {af : Array Edge} {gd : Option (Nat × Bool)} {ops : Array Oper} {sp : Nat → Value → Value → World → Prop} {i N : Nat}
theorem wp_allocQ (h : K (a.put dst (.pointer (some ⟨w.heap.size, 0, none⟩))) (w.alloc (.cells #[.bool false, .slice none 0 0, .slice none 0 0] 26))) : Oper.wp Tryz.prog ⟨dst, .alloc 26, ty, pos, af, gd⟩ a w K Q := by
 unfold Oper.wp execOp
 go_simp
 exact h
theorem st_allocQ (hN : N ≤ w.heap.size) (hsp : ∀ v u w, IsPQ N w v → sp i v u w) (hall : ∀ j vj u, isAlloc ops j = true → sp j vj u w → ∃ g, vj = .pointer (some ⟨g, 0, none⟩) ∧ g < w.heap.size) : Oper.wp Tryz.prog ⟨dst, .alloc 26, ty, pos, af, gd⟩ a w (Done RBu ops sp i a dst w) Q := by
 refine wp_allocQ (doneA (bl_alloc _ _) (hsp _ _ _ ⟨_, rfl, hN, Bq.new w false none 0 0 none 0 0⟩) fun j vj u hj hs e => ?_)
 obtain ⟨g, rfl, hlt⟩ := hall j vj u hj hs
 injection e with e
 injection e with e
 injection e with e
 omega
end
/-! Stores into a variable of type Rat leave fractions as they are: their limbs lie elsewhere. -/
section
variable {w : World} {g : Nat} {b b' : Bool} {A B A' B' : Option Addr} {n c m d n' c' m' d' : Nat}
theorem Bq.set0 (h : Bq w g b A n c B m d) : Bq (w.setCell ⟨g, 0, none⟩ (.bool b')) g b' A n c B m d := ⟨heap_setCell_same w g 0 #[.bool b, .slice A n c, .slice B m d] 26 (.bool b') h.row⟩
theorem Bq.set1 (h : Bq w g b A n c B m d) : Bq (w.setCell ⟨g, 1, none⟩ (.slice A' n' c')) g b A' n' c' B m d := ⟨heap_setCell_same w g 1 #[.bool b, .slice A n c, .slice B m d] 26 (.slice A' n' c') h.row⟩
theorem RdK.storedQ {X : Option Addr} {k l : Nat} {xs : List Nat} (h : Rd w X k l xs) (P : Bq w g b A n c B m d) (i : Nat) (u : Value) : Rd (w.setCell ⟨g, i, none⟩ u) X k l xs := by
 refine h.keep fun p hp hn => ?_
 obtain ⟨e, o, x, hA, hx, _, hc⟩ := h.at32 (i := 0) hn
 rw [hp] at hA
 injection hA with hA
 subst hA
 refine heap_setCell_other w ⟨g, i, none⟩ e u fun he => ?_
 dsimp only at he
 subst he
 rw [cell_of_row _ _ _ _ _ _ P.row] at hc
 rcases o with _ | _ | _ | o <;> simp at hc
theorem RdK.put3 {X : Option Addr} {k l : Nat} {xs : List Nat} (h : Rd w X k l xs) (P : Bq w g b A n c B m d) : Rd (((w.setCell ⟨g, 0, none⟩ (.bool b')).setCell ⟨g, 1, none⟩ (.slice A' n' c')).setCell ⟨g, 2, none⟩ (.slice B' m' d')) X k l xs :=
 ((h.storedQ P 0 _).storedQ (P.set0 (b' := b')) 1 _).storedQ ((P.set0 (b' := b')).set1 (A' := A') (n' := n') (c' := c')) 2 _
theorem Bq.put3 {g' : Nat} {t t' : Bool} {X Y : Option Addr} {e f r s : Nat} (h : Bq w g' t X e f Y r s) (hne : g' ≠ g) : Bq (((w.setCell ⟨g, 0, none⟩ (.bool b')).setCell ⟨g, 1, none⟩ (.slice A' n' c')).setCell ⟨g, 2, none⟩ (.slice B' m' d')) g' t X e f Y r s := ((h.other hne).other hne).other hne
theorem Below.put3 {w0 : World} {N : Nat} (h : Below N w0 w) (hg : N ≤ g) : Below N w0 (((w.setCell ⟨g, 0, none⟩ (.bool b')).setCell ⟨g, 1, none⟩ (.slice A' n' c')).setCell ⟨g, 2, none⟩ (.slice B' m' d')) := ((h.setCell (p := ⟨g, 0, none⟩) hg _).setCell (p := ⟨g, 1, none⟩) hg _).setCell (p := ⟨g, 2, none⟩) hg _
end
end Go.Proofs.YtbhgbilhoonopaaGreat
namespace Go.Proofs.YtbhgbilhoonopaaGreat
open Go.RowKit
set_option linter.unusedVariables false
set_option maxRecDepth 100000

section
variable {w : World}
set_option maxHeartbeats 4000000
end

end Go.Proofs.YtbhgbilhoonopaaGreat

/- litmuslaw02.works: the chapter's examples. -/
namespace Go.Proofs.YtbhgbilhoonopaaGreat
open Go.RowKit
set_option linter.unusedVariables false
set_option maxRecDepth 100000

end Go.Proofs.YtbhgbilhoonopaaGreat
namespace Go.Proofs.YtbhgbilhoonopaaGreat
open Go.RowKit
set_option linter.unusedVariables false
set_option maxRecDepth 100000

end Go.Proofs.YtbhgbilhoonopaaGreat
namespace Go.Proofs.YtbhgbilhoonopaaGreat
open Go.RowKit
set_option linter.unusedVariables false
set_option maxRecDepth 100000

section
variable {a : Act} {w : World} {K : Act → World → Prop} {Q : Exit → Act → World → Prop} {dst : Option Tmp} {ty : TypeId} {pos : String} {af : Array Edge} {gd : Option (Nat × Bool)} {x y : Operand} {k l : ByteArray} {p q : Int}
end

end Go.Proofs.YtbhgbilhoonopaaGreat
namespace Go.Proofs.YtbhgbilhoonopaaGreat
open Go.RowKit
set_option linter.unusedVariables false
set_option maxRecDepth 100000

/-- A fraction of just these limbs. -/
def IsR (w : World) (v : Value) (b : Bool) (xs ys : List Nat) (k : Nat) : Prop := ∃ A n c B m d, v = .agg #[.bool b, .slice A n c, .slice B m d] ∧ (Rd w A n c xs ∧ n ≤ k) ∧ (Rd w B m d ys ∧ m ≤ k)
section
variable {w w' : World} {v v' : Value} {p q : Rat} {z u : Int} {k j N : Nat} {b2 b3 : Bool} {xs ys xs' ys' : List Nat}
set_option maxHeartbeats 2000000
theorem IsR.below (h : IsR w v b2 xs ys k) (hb : Below w.heap.size w w') : IsR w' v b2 xs ys k := by
 obtain ⟨A, n, c, B, m, d, rfl, ⟨h1, h2⟩, h3, h4⟩ := h
 exact ⟨A, n, c, B, m, d, rfl, ⟨h1.below hb, h2⟩, h3.below hb, h4⟩
theorem IsR.m (h : IsR w v b2 xs ys k) : IsQm w v (mkRat (zv b2 (M.val xs)) (dOf (M.val ys))) k := by
 obtain ⟨A, n, c, B, m, d, rfl, ⟨h1, h2⟩, h3, h4⟩ := h
 exact ⟨_, _, _, _, _, _, _, rfl, _, _, ⟨⟨_, ⟨⟨_, h1, rfl⟩, h2⟩, rfl⟩⟩, ⟨⟨_, h3, rfl⟩, h4⟩, rfl⟩
theorem cSameR0 {r : Bool} (h : IsR w v b2 xs ys k) (g : IsR w v' b3 xs' ys' j) (hk : k ≤ 1000) (hj : j ≤ 1000) (hr : r = true ↔ b2 = b3 ∧ xs = xs' ∧ ys = ys') : Calls Tryz.prog 51 #[v, v'] w (Ans w fun _ v => v = .bool r) := by
 obtain ⟨A2, n2, c2, B2, m2, d2, rfl, ⟨Tn, l1⟩, Td, l2⟩ := h
 obtain ⟨A3, n3, c3, B3, m3, d3, rfl, ⟨Sn, l3⟩, Sd, l4⟩ := g
 have BB := bl_trans (bl_alloc w (.cells #[.bool b2, .slice A2 n2 c2, .slice B2 m2 d2] 26)) (bl_alloc _ (.cells #[.bool b3, .slice A3 n3 c3, .slice B3 m3 d3] 26))
 have HN := Lib.hid (Tn.below BB)
 have HD := Lib.hid (Td.below BB)
 have HN' := Lib.hid (Sn.below BB)
 have HD' := Lib.hid (Sd.below BB)
 clear Tn Td Sn Sd
 have PA := (Bq.new w b2 A2 n2 c2 B2 m2 d2).alloc (.cells #[.bool b3, .slice A3 n3 c3, .slice B3 m3 d3] 26)
 have PB := Bq.new2 w (.cells #[.bool b2, .slice A2 n2 c2, .slice B2 m2 d2] 26) b3 A3 n3 c3 B3 m3 d3
 by_cases hst : b2 = b3
 ·have e1 := PA.c1
  have e2 := PA.c2
  have g1 := PB.c1
  have g2 := PB.c2
  have e0 := PA.c0
  have g0 := PB.c0
  by_cases hn : xs = xs'
  ·have HE := Lib.hid (show decide (xs = xs') = true from decide_eq_true hn)
   have HF := Lib.hid (show decide (ys = ys') = r by
    rw [Bool.eq_iff_iff, decide_eq_true_eq, hr]
    exact ⟨fun h => ⟨hst, hn, h⟩, fun h => h.2.2⟩)
   clear hr
   subst hst
   clear hn
   cases b2
   all_goals
    go_enter Tryz.func51, Tryz.ntmps51
    go_wp2_with fail
    refine (Same_any _ _ _ _ _ _ _ _ _ HN.out HN'.out (by omega) (by omega)).mono ?_
    rw [HE.out]
    rintro e w1 ⟨rfl, hb1⟩
    replace BB := bl_trans BB hb1
    replace HD := Lib.hid (HD.out.below hb1)
    replace HD' := Lib.hid (HD'.out.below hb1)
    replace PA := PA.below hb1
    replace PB := PB.below hb1
    clear e0 e1 e2 g0 g1 g2
    have e2 := PA.c2
    have g2 := PB.c2
    clear hb1 HN HN'
    go_wp2_with fail
    refine (Same_any _ _ _ _ _ _ _ _ _ HD.out HD'.out (by omega) (by omega)).mono ?_
    rw [HF.out]
    rintro e w2 ⟨rfl, hb2⟩
    replace BB := bl_trans BB hb2
    clear hb2 HD HD' PA PB e2 g2
    go_wp2_with fail
    go_ret
    exact ⟨_, rfl, BB, rfl⟩
  ·have HE := Lib.hid (show decide (xs = xs') = false from decide_eq_false hn)
   obtain rfl : r = false := Bool.eq_false_iff.2 fun h => hn (hr.1 h).2.1
   subst hst
   clear hn hr
   cases b2
   all_goals
    go_enter Tryz.func51, Tryz.ntmps51
    go_wp2_with fail
    refine (Same_any _ _ _ _ _ _ _ _ _ HN.out HN'.out (by omega) (by omega)).mono ?_
    rw [HE.out]
    rintro e w1 ⟨rfl, hb1⟩
    replace BB := bl_trans BB hb1
    clear hb1 HN HN' HD HD' e0 e1 e2 g0 g1 g2 PA PB
    go_wp2_with fail
    go_ret
    exact ⟨_, rfl, BB, rfl⟩
 ·obtain rfl : r = false := Bool.eq_false_iff.2 fun h => hst (hr.1 h).1
  have e0 := PA.c0
  have g0 := PB.c0
  clear hr HN HN' HD HD'
  cases b2 <;> cases b3
  ·exact absurd rfl hst
  ·clear hst
   go_enter Tryz.func51, Tryz.ntmps51
   go_wp2_with fail
   go_ret
   exact ⟨_, rfl, BB, rfl⟩
  ·clear hst
   go_enter Tryz.func51, Tryz.ntmps51
   go_wp2_with fail
   go_ret
   exact ⟨_, rfl, BB, rfl⟩
  ·exact absurd rfl hst

theorem cSameR (h : IsR w v b2 xs ys k) (g : IsR w v' b3 xs' ys' j) (hk : k ≤ 1000) (hj : j ≤ 1000) {r : Bool} (hr : r = true ↔ b2 = b3 ∧ xs = xs' ∧ ys = ys') : Calls Tryz.prog 15 #[v, v'] w (Ans w fun _ v => v = .bool r) := by
 obtain ⟨A2, n2, c2, B2, m2, d2, rfl, y1⟩ := id h
 obtain ⟨A3, n3, c3, B3, m3, d3, rfl, y2⟩ := id g
 clear y1 y2
 have BB := bl_trans (bl_alloc w (.cells #[.bool b2, .slice A2 n2 c2, .slice B2 m2 d2] 26)) (bl_alloc _ (.cells #[.bool b3, .slice A3 n3 c3, .slice B3 m3 d3] 26))
 have PA := (Bq.new w b2 A2 n2 c2 B2 m2 d2).alloc (.cells #[.bool b3, .slice A3 n3 c3, .slice B3 m3 d3] 26)
 have PB := Bq.new2 w (.cells #[.bool b2, .slice A2 n2 c2, .slice B2 m2 d2] 26) b3 A3 n3 c3 B3 m3 d3
 have HA := Lib.hid (h.below BB)
 have HB := Lib.hid (g.below BB)
 have HR := Lib.hid hr
 have e0 := PA.c0
 have e1 := PA.c1
 have e2 := PA.c2
 have g0 := PB.c0
 have g1 := PB.c1
 have g2 := PB.c2
 clear h g hr
 go_enter Tryz.func15, Tryz.ntmps15
 go_wp2_with fail
 refine (cSameR0 HA.out HB.out hk hj HR.out).mono ?_
 rintro e w1 ⟨_, rfl, hb1, rfl⟩
 replace BB := bl_trans BB hb1
 clear hb1 HA HB PA PB e0 e1 e2 g0 g1 g2
 go_wp2_with fail
 go_ret
 exact ⟨_, rfl, BB, rfl⟩

end

theorem wp_bA6Q {a : Act} {w : World} {K : Act → World → Prop} {Q : Exit → Act → World → Prop} {dst : Option Tmp} {ty : TypeId} {pos : String} {af : Array Edge} {gd : Option (Nat × Bool)} {x0 x1 x2 x3 x4 x5 : Operand} {b0 : Bool} {A0 : Option Addr} {n0 c0 : Nat} {B0 : Option Addr} {m0 d0 : Nat} {b1 : Bool} {A1 : Option Addr} {n1 c1 : Nat} {B1 : Option Addr} {m1 d1 : Nat} {b2 : Bool} {A2 : Option Addr} {n2 c2 : Nat} {B2 : Option Addr} {m2 d2 : Nat} {b3 : Bool} {A3 : Option Addr} {n3 c3 : Nat} {B3 : Option Addr} {m3 d3 : Nat} {b4 : Bool} {A4 : Option Addr} {n4 c4 : Nat} {B4 : Option Addr} {m4 d4 : Nat} {b5 : Bool} {A5 : Option Addr} {n5 c5 : Nat} {B5 : Option Addr} {m5 d5 : Nat} (h0 : a.eval x0 = .agg #[.bool b0, .slice A0 n0 c0, .slice B0 m0 d0]) (h1 : a.eval x1 = .agg #[.bool b1, .slice A1 n1 c1, .slice B1 m1 d1]) (h2 : a.eval x2 = .agg #[.bool b2, .slice A2 n2 c2, .slice B2 m2 d2]) (h3 : a.eval x3 = .agg #[.bool b3, .slice A3 n3 c3, .slice B3 m3 d3]) (h4 : a.eval x4 = .agg #[.bool b4, .slice A4 n4 c4, .slice B4 m4 d4]) (h5 : a.eval x5 = .agg #[.bool b5, .slice A5 n5 c5, .slice B5 m5 d5]) (h : K (a.put dst (.agg #[.bool b0, .slice A0 n0 c0, .slice B0 m0 d0, .bool b1, .slice A1 n1 c1, .slice B1 m1 d1, .bool b2, .slice A2 n2 c2, .slice B2 m2 d2, .bool b3, .slice A3 n3 c3, .slice B3 m3 d3, .bool b4, .slice A4 n4 c4, .slice B4 m4 d4, .bool b5, .slice A5 n5 c5, .slice B5 m5 d5])) w) : Oper.wp Tryz.prog ⟨dst, .build 56 #[(0, x0), (1, x1), (2, x2), (3, x3), (4, x4), (5, x5)], ty, pos, af, gd⟩ a w K Q := by
 unfold Oper.wp execOp
 simp only [List.map_toArray, List.map_cons, List.map_nil, h0, h1, h2, h3, h4, h5]
 go_simp
 exact h
theorem index_a6 (w : World) (b0 : Bool) (A0 : Option Addr) (n0 c0 : Nat) (B0 : Option Addr) (m0 d0 : Nat) (b1 : Bool) (A1 : Option Addr) (n1 c1 : Nat) (B1 : Option Addr) (m1 d1 : Nat) (b2 : Bool) (A2 : Option Addr) (n2 c2 : Nat) (B2 : Option Addr) (m2 d2 : Nat) (b3 : Bool) (A3 : Option Addr) (n3 c3 : Nat) (B3 : Option Addr) (m3 d3 : Nat) (b4 : Bool) (A4 : Option Addr) (n4 c4 : Nat) (B4 : Option Addr) (m4 d4 : Nat) (b5 : Bool) (A5 : Option Addr) (n5 c5 : Nat) (B5 : Option Addr) (m5 d5 : Nat) : (Instr.index 56 (.agg #[.bool b0, .slice A0 n0 c0, .slice B0 m0 d0, .bool b1, .slice A1 n1 c1, .slice B1 m1 d1, .bool b2, .slice A2 n2 c2, .slice B2 m2 d2, .bool b3, .slice A3 n3 c3, .slice B3 m3 d3, .bool b4, .slice A4 n4 c4, .slice B4 m4 d4, .bool b5, .slice A5 n5 c5, .slice B5 m5 d5]) (.int .i64 0)).run Tryz.prog w = .ok (.agg #[.bool b0, .slice A0 n0 c0, .slice B0 m0 d0]) w ∧ (Instr.index 56 (.agg #[.bool b0, .slice A0 n0 c0, .slice B0 m0 d0, .bool b1, .slice A1 n1 c1, .slice B1 m1 d1, .bool b2, .slice A2 n2 c2, .slice B2 m2 d2, .bool b3, .slice A3 n3 c3, .slice B3 m3 d3, .bool b4, .slice A4 n4 c4, .slice B4 m4 d4, .bool b5, .slice A5 n5 c5, .slice B5 m5 d5]) (.int .i64 1)).run Tryz.prog w = .ok (.agg #[.bool b1, .slice A1 n1 c1, .slice B1 m1 d1]) w ∧ (Instr.index 56 (.agg #[.bool b0, .slice A0 n0 c0, .slice B0 m0 d0, .bool b1, .slice A1 n1 c1, .slice B1 m1 d1, .bool b2, .slice A2 n2 c2, .slice B2 m2 d2, .bool b3, .slice A3 n3 c3, .slice B3 m3 d3, .bool b4, .slice A4 n4 c4, .slice B4 m4 d4, .bool b5, .slice A5 n5 c5, .slice B5 m5 d5]) (.int .i64 2)).run Tryz.prog w = .ok (.agg #[.bool b2, .slice A2 n2 c2, .slice B2 m2 d2]) w ∧ (Instr.index 56 (.agg #[.bool b0, .slice A0 n0 c0, .slice B0 m0 d0, .bool b1, .slice A1 n1 c1, .slice B1 m1 d1, .bool b2, .slice A2 n2 c2, .slice B2 m2 d2, .bool b3, .slice A3 n3 c3, .slice B3 m3 d3, .bool b4, .slice A4 n4 c4, .slice B4 m4 d4, .bool b5, .slice A5 n5 c5, .slice B5 m5 d5]) (.int .i64 3)).run Tryz.prog w = .ok (.agg #[.bool b3, .slice A3 n3 c3, .slice B3 m3 d3]) w ∧ (Instr.index 56 (.agg #[.bool b0, .slice A0 n0 c0, .slice B0 m0 d0, .bool b1, .slice A1 n1 c1, .slice B1 m1 d1, .bool b2, .slice A2 n2 c2, .slice B2 m2 d2, .bool b3, .slice A3 n3 c3, .slice B3 m3 d3, .bool b4, .slice A4 n4 c4, .slice B4 m4 d4, .bool b5, .slice A5 n5 c5, .slice B5 m5 d5]) (.int .i64 4)).run Tryz.prog w = .ok (.agg #[.bool b4, .slice A4 n4 c4, .slice B4 m4 d4]) w ∧ (Instr.index 56 (.agg #[.bool b0, .slice A0 n0 c0, .slice B0 m0 d0, .bool b1, .slice A1 n1 c1, .slice B1 m1 d1, .bool b2, .slice A2 n2 c2, .slice B2 m2 d2, .bool b3, .slice A3 n3 c3, .slice B3 m3 d3, .bool b4, .slice A4 n4 c4, .slice B4 m4 d4, .bool b5, .slice A5 n5 c5, .slice B5 m5 d5]) (.int .i64 5)).run Tryz.prog w = .ok (.agg #[.bool b5, .slice A5 n5 c5, .slice B5 m5 d5]) w := by
 refine ⟨?_, ?_, ?_, ?_, ?_, ?_⟩ <;> simp [Instr.index, run_underlying Tryz.underlying56, asIntOf, go_sem]
end Go.Proofs.YtbhgbilhoonopaaGreat
namespace Go.Proofs.YtbhgbilhoonopaaGreat
namespace M
set_option linter.unusedVariables false

end M
end Go.Proofs.YtbhgbilhoonopaaGreat

/- litmusref01: rows of bits: trim, at, Bits, Limbs. -/
namespace Go.Proofs.YtbhgbilhoonopaaGreat
open Go.RowKit
set_option linter.unusedVariables false

section
variable {w w' : World} {A : Option Addr} {n c base : Nat} {bs : List Bool}
end

end Go.Proofs.YtbhgbilhoonopaaGreat

/- litmusref01.Limbs: limbs of bits. -/
namespace Go.Proofs.YtbhgbilhoonopaaGreat
open Go.RowKit
set_option linter.unusedVariables false

namespace M
end M

end Go.Proofs.YtbhgbilhoonopaaGreat
namespace Go.Proofs.YtbhgbilhoonopaaGreat
open Go.RowKit
set_option linter.unusedVariables false

namespace M
end M

end Go.Proofs.YtbhgbilhoonopaaGreat

/- litmusref01.div and Gcd: long division of rows of bits. -/
namespace Go.Proofs.YtbhgbilhoonopaaGreat
open Go.RowKit
set_option linter.unusedVariables false

namespace M
end M

end Go.Proofs.YtbhgbilhoonopaaGreat

/- litmusref01 in numbers alone. -/
namespace Go.Proofs.YtbhgbilhoonopaaGreat
open Go.RowKit
set_option linter.unusedVariables false

section
variable {w w' : World} {A B : Option Addr} {n c m d v x y k j : Nat}
end

end Go.Proofs.YtbhgbilhoonopaaGreat
namespace Go.Proofs.YtbhgbilhoonopaaGreat
open Go.RowKit
set_option linter.unusedVariables false

end Go.Proofs.YtbhgbilhoonopaaGreat

/- litmusref01.mul: rows of bits are multiplied: how many pairs meet at each place, and what is carried. -/
namespace Go.Proofs.YtbhgbilhoonopaaGreat
open Go.RowKit
set_option linter.unusedVariables false

namespace M
end M

end Go.Proofs.YtbhgbilhoonopaaGreat
namespace Go.Proofs.YtbhgbilhoonopaaGreat
open Go.RowKit
set_option linter.unusedVariables false

section
variable {w w' : World} {A B : Option Addr} {n c m d v x y k j : Nat}
end

section
variable {w : World} {A B : Option Addr} {n c m d x y k j : Nat}
set_option maxHeartbeats 1000000
end

end Go.Proofs.YtbhgbilhoonopaaGreat

/- litmusref01's Cmp, Sub, Div over rows of limbs; in numbers alone. -/
namespace Go.Proofs.YtbhgbilhoonopaaGreat
open Go.RowKit
set_option linter.unusedVariables false

section
variable {w : World} {A B : Option Addr} {n c m d x y k j : Nat}
set_option maxHeartbeats 2000000
end

end Go.Proofs.YtbhgbilhoonopaaGreat
namespace Go.Proofs.YtbhgbilhoonopaaGreat
open Go.RowKit
set_option linter.unusedVariables false

namespace M
end M

end Go.Proofs.YtbhgbilhoonopaaGreat
namespace Go.Proofs.YtbhgbilhoonopaaGreat
open Go.RowKit
set_option linter.unusedVariables false
set_option maxRecDepth 100000

/-- All rows of limbs stay. -/
def KeepR (w w' : World) : Prop := ∀ A n c xs, Rd w A n c xs → Rd w' A n c xs
section
variable {w w' : World} {g g' : Nat} {b b' t : Bool} {A B A' B' X Y : Option Addr} {n c m d n' c' m' d' k l x e f r s : Nat} {v : Value} {z : Int} {q : Rat} {xs ys : List Nat}
theorem IsR.kr (h : IsR w v b xs ys k) (r : KeepR w w') : IsR w' v b xs ys k := by
 obtain ⟨A, n, c, B, m, d, rfl, ⟨h1, h2⟩, h3, h4⟩ := h
 exact ⟨A, n, c, B, m, d, rfl, ⟨r _ _ _ _ h1, h2⟩, r _ _ _ _ h3, h4⟩
theorem kr_put3 (P : Bq w g b A n c B m d) : KeepR w (((w.setCell ⟨g, 0, none⟩ (.bool b')).setCell ⟨g, 1, none⟩ (.slice A' n' c')).setCell ⟨g, 2, none⟩ (.slice B' m' d')) := fun _ _ _ _ h => h.put3 P
end

section
variable {w w' : World} {v v' : Value} {x y k j : Nat} {z u : Int} {e : Ending}
set_option maxHeartbeats 2000000
theorem lims_pos (x : Nat) : (0 < (M.lims x).length) ↔ 0 < x := by
 have := M.lims_length_le (n := x) (k := 0)
 rw [Nat.pow_zero] at this
 omega
end
end Go.Proofs.YtbhgbilhoonopaaGreat
namespace Go.Proofs.YtbhgbilhoonopaaGreat
open Go.RowKit
set_option linter.unusedVariables false
set_option maxRecDepth 100000

end Go.Proofs.YtbhgbilhoonopaaGreat
namespace Go.Proofs.YtbhgbilhoonopaaGreat
open Go.RowKit
set_option linter.unusedVariables false
set_option maxRecDepth 100000

section
variable {w w' : World} {A B C : Option Addr} {n c m d p q x y z k j i : Nat}
end

namespace M
end M

end Go.Proofs.YtbhgbilhoonopaaGreat
namespace Go.Proofs.YtbhgbilhoonopaaGreat
open Go.RowKit
set_option linter.unusedVariables false
set_option maxRecDepth 100000

def Ow (w : World) (base : Nat) (A : Option Addr) (n c : Nat) : Prop := ∃ xs, Own w base A n c xs
/-- w' is w and more. -/
def Sz (w w' : World) : Prop := Below w.heap.size w w'

section
variable {w w' : World} {A B : Option Addr} {n c m d base : Nat} {xs ys l : List Nat}
theorem Ow.below (h : Ow w base A n c) (hb : Below w.heap.size w w') : Ow w' base A n c := by
 obtain ⟨xs, h⟩ := h
 exact ⟨xs, OwK.below h hb⟩
theorem Ow.lt (h : Ow w base A n c) {p : Addr} (hp : A = some p) : base ≤ p.block ∧ p.block < w.heap.size := by
 obtain ⟨xs, h⟩ := h
 exact OwK.lt h hp
theorem Ow.le (h : Ow w base A n c) : n ≤ maxLen := by
 obtain ⟨xs, h⟩ := h
 rcases h.cases with ⟨_, h0, _⟩ | ⟨g, cur, _, _, _, h1, h2, _⟩
 ·omega
 ·omega
theorem Sz.below {a : World} (h : Sz a w) (hb : Below w.heap.size w w') : Sz a w' := bl_trans h hb
theorem Sz.size {a : World} (h : Sz a w) : a.heap.size ≤ w.heap.size := Below.size h

end

structure R3 where
 A : Option Addr
 n : Nat
 c : Nat
end Go.Proofs.YtbhgbilhoonopaaGreat
namespace Go.Proofs.YtbhgbilhoonopaaGreat
open Go.RowKit
set_option linter.unusedVariables false
set_option maxRecDepth 100000

section
variable {w : World} {A B : Option Addr} {n c m d N g i k : Nat} {xs ys : List Nat} {u v : Value} {b : Bool}
theorem own_low (h : Own w N A n c xs) (hg : g < N) : Own (w.setCell ⟨g, i, none⟩ u) N A n c xs :=
 h.grown (grownBy_setCell w ⟨g, i, none⟩ u) fun p hp e => by
  have := (Ow.lt ⟨_, h⟩ hp).1
  injection e with e
  dsimp only at e
  omega
set_option maxHeartbeats 2000000 in
theorem cCopied (h : IsR w v b xs ys k) (hk : k ≤ 1000) : Calls Tryz.prog 47 #[v] w (Ans w fun w' v => IsR w' v b xs ys k) := by
 obtain ⟨A, n, c, B, m, d, rfl, ⟨hx, hn⟩, hy, hm⟩ := h
 have P1 := (Bq.new w b A n c B m d).alloc (.cells #[.bool false, .slice none 0 0, .slice none 0 0] 26)
 have P2 := Bq.new2 w (.cells #[.bool b, .slice A n c, .slice B m d] 26) false none 0 0 none 0 0
 have BB := bl_trans (bl_alloc w (.cells #[.bool b, .slice A n c, .slice B m d] 26)) (bl_alloc _ (.cells #[.bool false, .slice none 0 0, .slice none 0 0] 26))
 have HX := Lib.hid (hx.below BB)
 have HY := Lib.hid hy
 have HN := Lib.hid hn
 have HM := Lib.hid hm
 have hn1 : n ≤ 1000 := by omega
 have hm1 : m ≤ 1000 := by omega
 clear hx hy hn hm
 go_enter Tryz.func47, Tryz.ntmps47
 go_upto_region 1 with (fail)
 generalize (w.alloc (.cells #[.bool b, .slice A n c, .slice B m d] 26)).alloc (.cells #[.bool false, .slice none 0 0, .slice none 0 0] 26) = w0 at P1 P2 BB HX ⊢
 have hg := P2.lt
 have r1 := (P1.alloc (.cells #[] 44)).c1
 go_upto_region 2 with (at_builtin; refine app_own kU32 _ rfl _ _ rfl w0.heap.size _ 0 0 [] rfl (OwK.lit0 (Nat.le_refl _)) A n c xs rfl (HX.out.alloc _) (by omega) (by simp) ?_; intro A1 c1 w1 ho1 hg1; rw [Nat.zero_add] at ho1 ⊢; rw [List.nil_append] at ho1; have OO : Below w0.heap.size w0 w1 := ((Below.refl _ _).alloc (Nat.le_refl _) _).grown hg1 (by simp) (fun k hk => by cases hk; exact Nat.le_refl _); replace P1 := P1.below OO; have q1 := P1.c1; have t1 := P1.f 1)
 clear r1 q1 t1 hg1
 replace P2 := (P2.below OO).other (g' := w.heap.size) (i := 1) (v := .slice A1 n c1) (by omega)
 replace P1 := P1.set1 (A' := A1) (n' := n) (c' := c1)
 replace BB := (bl_trans BB OO).setCell (p := ⟨w.heap.size, 1, none⟩) (Nat.le_refl _) (.slice A1 n c1)
 replace ho1 := own_low (g := w.heap.size) (i := 1) (u := .slice A1 n c1) ho1 (by omega)
 clear OO HX
 generalize World.setCell w1 _ _ = wz at P1 P2 BB ho1 ⊢
 have HB := Lib.hid (HY.out.below BB)
 have HO := Lib.hid ho1
 have hg' := P2.lt
 clear ho1 HY
 have r2 := (P1.alloc (.cells #[] 44)).c2
 go_upto_region 3 with (at_builtin; refine app_own kU32 _ rfl _ _ rfl wz.heap.size _ 0 0 [] rfl (OwK.lit0 (Nat.le_refl _)) B m d ys rfl (HB.out.alloc _) (by omega) (by simp) ?_; intro A2 c2 w2 ho2 hg2; rw [Nat.zero_add] at ho2 ⊢; rw [List.nil_append] at ho2; have OO : Below wz.heap.size wz w2 := ((Below.refl _ _).alloc (Nat.le_refl _) _).grown hg2 (by simp) (fun k hk => by cases hk; exact Nat.le_refl _); replace P1 := P1.below OO; have q2 := P1.c2; have t2 := P1.f 2)
 clear r2 q2 t2 hg2
 replace P2 := (P2.below OO).other (g' := w.heap.size) (i := 2) (v := .slice A2 m c2) (by omega)
 replace P1 := P1.setD A2 m c2
 replace BB := (bl_trans BB OO).setCell (p := ⟨w.heap.size, 2, none⟩) (Nat.le_refl _) (.slice A2 m c2)
 replace ho2 := own_low (g := w.heap.size) (i := 2) (u := .slice A2 m c2) ho2 (by omega)
 replace HO := Lib.hid (own_low (g := w.heap.size) (i := 2) (u := .slice A2 m c2) (HO.out.below OO) (by omega))
 clear OO HB
 generalize World.setCell _ ⟨w.heap.size, 2, none⟩ _ = w3 at P1 P2 BB ho2 HO ⊢
 have HO2 := Lib.hid ho2
 clear ho2
 have x0 := P1.c0
 have x1 := P1.c1
 have x2 := P1.c2
 have y0 := P2.c0
 have y1 := P2.c1
 have y2 := P2.c2
 have f0 := P2.f 0
 have f1 := P2.f 1
 have f2 := P2.f 2
 go_wp2_with fail
 replace P2 := P2.set3 (b' := b) (A' := A1) (n' := n) (c' := c1) (B' := A2) (m' := m) (d' := c2)
 replace BB := Below.put3 (g := w.heap.size + 1) (b' := b) (A' := A1) (n' := n) (c' := c1) (B' := A2) (m' := m) (d' := c2) BB (by omega)
 have R1 := own_low (g := w.heap.size + 1) (i := 2) (u := .slice A2 m c2) (own_low (g := w.heap.size + 1) (i := 1) (u := .slice A1 n c1) (own_low (g := w.heap.size + 1) (i := 0) (u := .bool b) HO.out (by omega)) (by omega)) (by omega)
 have R2 := own_low (g := w.heap.size + 1) (i := 2) (u := .slice A2 m c2) (own_low (g := w.heap.size + 1) (i := 1) (u := .slice A1 n c1) (own_low (g := w.heap.size + 1) (i := 0) (u := .bool b) HO2.out (by omega)) (by omega)) (by omega)
 clear x0 x1 x2 y0 y1 y2 f0 f1 f2
 have rc0 := P2.c0
 have rc1 := P2.c1
 have rc2 := P2.c2
 exact bodyPost_ret (v := .agg #[.bool b, .slice A1 n c1, .slice A2 m c2]) (by simp [results, Tryz.results47, go_sem, rc0, rc1, rc2]) rfl ⟨_, rfl, BB, A1, n, c1, A2, m, c2, rfl, ⟨R1.rd, HN.out⟩, R2.rd, HM.out⟩
end
theorem cf_law03_copied : CallsF 47 := fun args w => by go_simp
theorem sIR {b : Bool} {xs ys : List Nat} {k : Nat} : Stab RBu fun v _ w => IsR w v b xs ys k := fun _ _ _ _ _ r _ h => h.below r

theorem wp_bQ1s {a : Act} {w : World} {K : Act → World → Prop} {Q : Exit → Act → World → Prop} {dst : Option Tmp} {ty : TypeId} {pos : String} {af : Array Edge} {gd : Option (Nat × Bool)} {x : Operand} {b : Bool} {A : Option Addr} {n c : Nat} (hx : a.eval x = .agg #[.bool b, .slice A n c]) (h : K (a.put dst (.agg #[.bool b, .slice A n c, .slice none 0 0])) w) : Oper.wp Tryz.prog ⟨dst, .build 26 #[(0, x)], ty, pos, af, gd⟩ a w K Q := by
 unfold Oper.wp execOp
 simp only [List.map_toArray, List.map_cons, List.map_nil, hx]
 go_simp
 exact h
/-- A fraction whose limbs are the call's own, whatever they are. -/
def IsW (N : Nat) (w : World) (v : Value) : Prop := ∃ b A n c B m d, v = .agg #[.bool b, .slice A n c, .slice B m d] ∧ Ow w N A n c ∧ Ow w N B m d
theorem IsW.below {N : Nat} {w w' : World} {v : Value} (h : IsW N w v) (hb : Below w.heap.size w w') : IsW N w' v := by
 obtain ⟨b, A, n, c, B, m, d, rfl, h1, h2⟩ := h
 exact ⟨b, A, n, c, B, m, d, rfl, h1.below hb, h2.below hb⟩
theorem sW {N : Nat} : Stab RBu fun v _ w => IsW N w v := fun _ _ _ _ _ r _ h => h.below r
theorem IsQ.w {N M : Nat} {w : World} {v : Value} {q : Rat} {k : Nat} (h : IsQ N w v q k) (hM : M ≤ N) : IsW M w v := by
 obtain ⟨b, A, n, c, B, m, d, rfl, Z, O, _⟩ := h
 exact ⟨b, A, n, c, B, m, d, rfl, ⟨_, Z.own.mono hM⟩, ⟨_, O.mono hM⟩⟩
theorem IsZ.w1 {N M : Nat} {w : World} {b : Bool} {A : Option Addr} {n c : Nat} {z : Int} {k : Nat} (h : Zt w N b A n c z k) (hM : M ≤ N) : IsW M w (.agg #[.bool b, .slice A n c, .slice none 0 0]) := ⟨b, A, n, c, none, 0, 0, rfl, ⟨_, h.own.mono hM⟩, ⟨_, OwK.nil_ w M⟩⟩

/-- wr is w4, but for what was made since, among it rows rs, which lie below h3. -/
structure Spl (w4 wr : World) (N h3 : Nat) (rs : List R3) : Prop where
 bel : Below N w4 wr
 size : h3 ≤ wr.heap.size
 own : ∀ s ∈ rs, Ow wr N s.A s.n s.c
 lt : ∀ s ∈ rs, ∀ p, s.A = some p → p.block < h3
theorem Spl.alloc {w4 wr : World} {N h3 : Nat} {rs : List R3} (h : Spl w4 wr N h3 rs) (hN : N ≤ h3) (o : Obj) : Spl w4 (wr.alloc o) N h3 rs := by
 have hs := h.size
 refine ⟨h.bel.alloc (by omega) o, ?_, fun s hs => (h.own s hs).below (bl_alloc wr o), h.lt⟩
 have := (bl_alloc wr o).size
 omega
theorem Spl.step {w4 wr : World} {N h3 g k z n c : Nat} {rs : List R3} (h : Spl w4 wr N h3 rs) (hs : (⟨some ⟨g, 0, none⟩, n, c⟩ : R3) ∈ rs) (hz : z < M.R) : Spl w4 (wr.setCell ⟨g, k, none⟩ (.int .u32 (z : Int))).drew N h3 rs := by
 have hg2 := ((h.own _ hs).lt (p := ⟨g, 0, none⟩) rfl).1
 dsimp only at hg2
 refine ⟨Below.drew (h.bel.setCell (p := ⟨g, k, none⟩) hg2 _), ?_, fun t ht => ?_, h.lt⟩
 ·show h3 ≤ (wr.setCell ⟨g, k, none⟩ _).heap.size
  simp [World.setCell]
  exact h.size
 ·obtain ⟨xs, ho⟩ := h.own t ht
  rcases ho.cases with ⟨hA, _⟩ | ⟨g', cur, hA, _⟩
  ·exact ⟨xs, (ho.grown (grownBy_setCell wr ⟨g, k, none⟩ (.int .u32 (z : Int))) (fun p hp => by rw [hA] at hp; cases hp)).drew⟩
  ·by_cases e : g' = g
   ·subst e
    obtain ⟨tA, tn, tc⟩ := t
    dsimp only at hA ho ⊢
    subst hA
    exact ⟨_, (ho.set_ k z hz).1.drew⟩
   ·exact ⟨xs, (ho.grown (grownBy_setCell wr ⟨g, k, none⟩ (.int .u32 (z : Int))) (fun p hp e' => by rw [hA] at hp; cases hp; injection e' with e'; exact e e')).drew⟩

/-- Six fractions side by side, all of the call's own. -/
def IsA6W (N : Nat) (w : World) (v : Value) : Prop := ∃ b0 A0 n0 c0 B0 m0 d0 b1 A1 n1 c1 B1 m1 d1 b2 A2 n2 c2 B2 m2 d2 b3 A3 n3 c3 B3 m3 d3 b4 A4 n4 c4 B4 m4 d4 b5 A5 n5 c5 B5 m5 d5, v = .agg #[.bool b0, .slice A0 n0 c0, .slice B0 m0 d0, .bool b1, .slice A1 n1 c1, .slice B1 m1 d1, .bool b2, .slice A2 n2 c2, .slice B2 m2 d2, .bool b3, .slice A3 n3 c3, .slice B3 m3 d3, .bool b4, .slice A4 n4 c4, .slice B4 m4 d4, .bool b5, .slice A5 n5 c5, .slice B5 m5 d5] ∧ (Ow w N A0 n0 c0 ∧ Ow w N B0 m0 d0) ∧ (Ow w N A1 n1 c1 ∧ Ow w N B1 m1 d1) ∧ (Ow w N A2 n2 c2 ∧ Ow w N B2 m2 d2) ∧ (Ow w N A3 n3 c3 ∧ Ow w N B3 m3 d3) ∧ (Ow w N A4 n4 c4 ∧ Ow w N B4 m4 d4) ∧ (Ow w N A5 n5 c5 ∧ Ow w N B5 m5 d5)
theorem IsA6W.below {N : Nat} {w w' : World} {v : Value} (h : IsA6W N w v) (hb : Below w.heap.size w w') : IsA6W N w' v := by
 obtain ⟨b0, A0, n0, c0, B0, m0, d0, b1, A1, n1, c1, B1, m1, d1, b2, A2, n2, c2, B2, m2, d2, b3, A3, n3, c3, B3, m3, d3, b4, A4, n4, c4, B4, m4, d4, b5, A5, n5, c5, B5, m5, d5, rfl, h0, h1, h2, h3, h4, h5⟩ := h
 exact ⟨b0, A0, n0, c0, B0, m0, d0, b1, A1, n1, c1, B1, m1, d1, b2, A2, n2, c2, B2, m2, d2, b3, A3, n3, c3, B3, m3, d3, b4, A4, n4, c4, B4, m4, d4, b5, A5, n5, c5, B5, m5, d5, rfl, ⟨h0.1.below hb, h0.2.below hb⟩, ⟨h1.1.below hb, h1.2.below hb⟩, ⟨h2.1.below hb, h2.2.below hb⟩, ⟨h3.1.below hb, h3.2.below hb⟩, ⟨h4.1.below hb, h4.2.below hb⟩, ⟨h5.1.below hb, h5.2.below hb⟩⟩
theorem sA6W {N : Nat} : Stab RBu fun v _ w => IsA6W N w v := fun _ _ _ _ _ r _ h => h.below r
theorem index6 {b0 b1 b2 b3 b4 b5 : Bool} {A0 : Option Addr} {n0 c0 : Nat} {B0 : Option Addr} {m0 d0 : Nat} {A1 : Option Addr} {n1 c1 : Nat} {B1 : Option Addr} {m1 d1 : Nat} {A2 : Option Addr} {n2 c2 : Nat} {B2 : Option Addr} {m2 d2 : Nat} {A3 : Option Addr} {n3 c3 : Nat} {B3 : Option Addr} {m3 d3 : Nat} {A4 : Option Addr} {n4 c4 : Nat} {B4 : Option Addr} {m4 d4 : Nat} {A5 : Option Addr} {n5 c5 : Nat} {B5 : Option Addr} {m5 d5 : Nat} (w : World) (i : Nat) (hi : i < 6) (P : Bool → Option Addr → Nat → Nat → Option Addr → Nat → Nat → Prop) (h0 : P b0 A0 n0 c0 B0 m0 d0) (h1 : P b1 A1 n1 c1 B1 m1 d1) (h2 : P b2 A2 n2 c2 B2 m2 d2) (h3 : P b3 A3 n3 c3 B3 m3 d3) (h4 : P b4 A4 n4 c4 B4 m4 d4) (h5 : P b5 A5 n5 c5 B5 m5 d5) : ∃ b A n c B m d, (Instr.index 56 (.agg #[.bool b0, .slice A0 n0 c0, .slice B0 m0 d0, .bool b1, .slice A1 n1 c1, .slice B1 m1 d1, .bool b2, .slice A2 n2 c2, .slice B2 m2 d2, .bool b3, .slice A3 n3 c3, .slice B3 m3 d3, .bool b4, .slice A4 n4 c4, .slice B4 m4 d4, .bool b5, .slice A5 n5 c5, .slice B5 m5 d5]) (.int .i64 (i : Int))).run Tryz.prog w = .ok (.agg #[.bool b, .slice A n c, .slice B m d]) w ∧ P b A n c B m d := by
 rcases (show i = 0 ∨ i = 1 ∨ i = 2 ∨ i = 3 ∨ i = 4 ∨ i = 5 by omega) with rfl | rfl | rfl | rfl | rfl | rfl
 ·exact ⟨_, _, _, _, _, _, _, (index_a6 w b0 A0 n0 c0 B0 m0 d0 b1 A1 n1 c1 B1 m1 d1 b2 A2 n2 c2 B2 m2 d2 b3 A3 n3 c3 B3 m3 d3 b4 A4 n4 c4 B4 m4 d4 b5 A5 n5 c5 B5 m5 d5).1, h0⟩
 ·exact ⟨_, _, _, _, _, _, _, (index_a6 w b0 A0 n0 c0 B0 m0 d0 b1 A1 n1 c1 B1 m1 d1 b2 A2 n2 c2 B2 m2 d2 b3 A3 n3 c3 B3 m3 d3 b4 A4 n4 c4 B4 m4 d4 b5 A5 n5 c5 B5 m5 d5).2.1, h1⟩
 ·exact ⟨_, _, _, _, _, _, _, (index_a6 w b0 A0 n0 c0 B0 m0 d0 b1 A1 n1 c1 B1 m1 d1 b2 A2 n2 c2 B2 m2 d2 b3 A3 n3 c3 B3 m3 d3 b4 A4 n4 c4 B4 m4 d4 b5 A5 n5 c5 B5 m5 d5).2.2.1, h2⟩
 ·exact ⟨_, _, _, _, _, _, _, (index_a6 w b0 A0 n0 c0 B0 m0 d0 b1 A1 n1 c1 B1 m1 d1 b2 A2 n2 c2 B2 m2 d2 b3 A3 n3 c3 B3 m3 d3 b4 A4 n4 c4 B4 m4 d4 b5 A5 n5 c5 B5 m5 d5).2.2.2.1, h3⟩
 ·exact ⟨_, _, _, _, _, _, _, (index_a6 w b0 A0 n0 c0 B0 m0 d0 b1 A1 n1 c1 B1 m1 d1 b2 A2 n2 c2 B2 m2 d2 b3 A3 n3 c3 B3 m3 d3 b4 A4 n4 c4 B4 m4 d4 b5 A5 n5 c5 B5 m5 d5).2.2.2.2.1, h4⟩
 ·exact ⟨_, _, _, _, _, _, _, (index_a6 w b0 A0 n0 c0 B0 m0 d0 b1 A1 n1 c1 B1 m1 d1 b2 A2 n2 c2 B2 m2 d2 b3 A3 n3 c3 B3 m3 d3 b4 A4 n4 c4 B4 m4 d4 b5 A5 n5 c5 B5 m5 d5).2.2.2.2.2, h5⟩
end Go.Proofs.YtbhgbilhoonopaaGreat
