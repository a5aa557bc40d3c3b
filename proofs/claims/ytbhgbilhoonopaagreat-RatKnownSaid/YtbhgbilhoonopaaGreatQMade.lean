/- rat.made: what is told of the right fraction that one counts as. -/
import Derived.Test.YtbhgbilhoonopaaGreatQLow
namespace Go.Proofs.YtbhgbilhoonopaaGreat
open Go.RowKit
set_option linter.unusedVariables false
set_option maxRecDepth 100000

theorem fin_zz {w w2 : World} {v : Value} {z : Int} {k N g : Nat} (h : IsZ N w2 v z k) (hb : Below w.heap.size w w2) (hg : w.heap.size ≤ g) (hgb : g < N) (x y : Value) :
    Ans w (fun w' v => IsZ w.heap.size w' v z k) (.returned v) ((w2.setCell ⟨g, 0, none⟩ x).setCell ⟨g, 1, none⟩ y) := by
  obtain ⟨b, A, n, c, rfl, Z⟩ := h
  exact ⟨_, rfl, (hb.setCell (p := ⟨g, 0, none⟩) hg x).setCell (p := ⟨g, 1, none⟩) hg y, b, A, n, c, rfl, ((Z.stored hgb 0 x).stored hgb 1 y).mono (by omega)⟩

set_option maxHeartbeats 2000000 in
theorem madeR_rat_Neg__1 {w : World} {v : Value} {q : Rat} {k : Nat} {q' : Rat} {k' : Nat} (h : IsQm w v q k) (hk : k ≤ 900) (hk1 : 1 ≤ k) (hf : ∀ W u, Below w.heap.size w W → w.heap.size + 2 ≤ W.heap.size → IsQ (w.heap.size + 2) W u q k → Calls Tryz.prog 58 #[u] W (Ans W fun w' v => IsQ (w.heap.size + 2) w' v q' k')) : Calls Tryz.prog 57 #[v, .func (Fn.func 58) #[] #[]] w (Ans w fun w' v => IsQ w.heap.size w' v q' k') := by
  obtain ⟨b, A, n, c, B, m, d, rfl, z, y, hz, hy, rfl⟩ := h
  have PA := (Bq.new w b A n c B m d).alloc (.cells #[.bool false, .slice none 0 0, .slice none 0 0] 26)
  have PR := Bq.new2 w (.cells #[.bool b, .slice A n c, .slice B m d] 26) false none 0 0 none 0 0
  have BB := bl_trans (bl_alloc w (.cells #[.bool b, .slice A n c, .slice B m d] 26)) (bl_alloc _ (.cells #[.bool false, .slice none 0 0, .slice none 0 0] 26))
  have HF := Lib.hid hf
  have ZA := hz.below BB
  have NY := hy.below BB
  have HZ := Lib.hid hz
  clear hf hz hy
  have p2 := PA.c2
  go_enter Tryz.func57, Tryz.ntmps57
  go_wp2_with fail
  refine (cmpN NY (nilN _) (by omega) (Nat.zero_le _)).mono ?_
  rintro e w1 ⟨rfl, hb1⟩
  have hs1 := hb1.size
  simp only [hs_alloc] at hs1
  replace PA := PA.below hb1
  replace ZA := ZA.below hb1
  replace NY := NY.below hb1
  replace PR := PR.below hb1
  replace BB := bl_trans BB hb1
  clear hb1 p2
  by_cases hy0 : y = 0
  · subst hy0
    rw [cmpV_eq]
    have p1 := PA.c2
    have g2 := PA.f 2
    go_wp2_with fail
    refine (cFromD (N := w.heap.size + 2) 1 (by omega) (by omega)).mono ?_
    rintro e w2 ⟨_, rfl, hb2, D1, n1, c1, rfl, o1, l1⟩
    have hs2 := hb2.size
    replace PA := PA.below hb2
    replace PR := PR.below hb2
    replace ZA := ZA.below hb2
    replace BB := bl_trans BB hb2
    clear hb2 p1 g2 NY
    have p0 := PA.c0
    have p1 := PA.c1
    have p2 := PA.c2
    have g2 := PA.f 2
    go_wp2_with fail
    clear p0 p1 p2 g2
    replace PA := PA.setD D1 n1 c1
    replace PR := PR.other (g' := w.heap.size) (i := 2) (v := .slice D1 n1 c1) (by omega)
    replace BB := BB.setCell (p := ⟨w.heap.size, 2, none⟩) (Nat.le_refl _) (.slice D1 n1 c1)
    replace ZA := HZ.out.below BB
    have ND : Nm (w2.setCell ⟨w.heap.size, 2, none⟩ (.slice D1 n1 c1)) D1 n1 c1 1 1 := ⟨⟨_, (OwK.rd (o1.grown (grownBy_setCell w2 ⟨w.heap.size, 2, none⟩ (.slice D1 n1 c1)) (fun p hp e => by injection e with e; have := (OwK.lt o1 hp).1; dsimp only at e; omega))), M.val_lims 1⟩, l1⟩
    have hs4 : w.heap.size + 2 ≤ (w2.setCell ⟨w.heap.size, 2, none⟩ (.slice D1 n1 c1)).heap.size := by simp [World.setCell]; omega
    generalize w2.setCell ⟨w.heap.size, 2, none⟩ (.slice D1 n1 c1) = W2 at PA PR BB ZA ND hs4 ⊢
    clear o1 l1
    refine (cLowest ⟨_, _, _, _, rfl, ZA⟩ ⟨_, _, _, rfl, ND⟩ (by omega) (by omega) (by omega)).mono ?_
    rintro e w3 ⟨u, rfl, hb3, q3⟩
    have hs3 := hb3.size
    have q3' := (q3.mono (show max k 1 ≤ k by omega)).base (N' := w.heap.size + 2) (by omega)
    replace PR := PR.below hb3
    replace BB := bl_trans BB hb3
    clear hb3 q3  PA ZA ND
    go_wp2_with fail
    refine (HF.out _ _ BB (by omega) (by rw [dOf_zero]; exact q3')).mono ?_
    rintro e w4 ⟨r, rfl, hb4, q4⟩
    obtain ⟨b4, A4, n4, c4, B4, m4, d4, rfl, q4'⟩ := id q4
    replace PR := PR.below hb4
    have r0 := PR.c0
    have f0 := PR.f 0
    have r1 := PR.c1
    have f1 := PR.f 1
    have r2 := PR.c2
    have f2 := PR.f 2
    replace BB := bl_trans BB hb4
    clear hb4 q3' HF
    clear q4'
    go_wp2_with fail
    exact bodyPost_ret (v := .agg #[.bool b4, .slice A4 n4 c4, .slice B4 m4 d4]) (by simp [results, Tryz.results57, go_sem, *]) rfl (fin_q q4 BB (by omega) (by omega) _ _ _)
  · have HY := Lib.hid hy0
    have hc : (cmpV y 0 == 0) = false := by rw [cmpV_gt (by omega)]; rfl
    rw [cmpV_gt (show 0 < y by omega)]
    clear hc hy0
    have p0 := PA.c0
    have p1 := PA.c1
    have p2 := PA.c2
    go_wp2_with fail
    refine (cLowest ⟨_, _, _, _, rfl, ZA⟩ ⟨_, _, _, rfl, NY⟩ (by omega) (by omega) HY.out).mono ?_
    rintro e w3 ⟨u, rfl, hb3, q3⟩
    have hs3 := hb3.size
    have q3' := (q3.mono (show max k k ≤ k by omega)).base (N' := w.heap.size + 2) (by omega)
    replace PR := PR.below hb3
    replace BB := bl_trans BB hb3
    clear hb3 q3 p0 p1 p2 PA ZA NY
    go_wp2_with fail
    refine (HF.out _ _ BB (by omega) (by rw [dOf_of HY.out]; exact q3')).mono ?_
    rintro e w4 ⟨r, rfl, hb4, q4⟩
    obtain ⟨b4, A4, n4, c4, B4, m4, d4, rfl, q4'⟩ := id q4
    replace PR := PR.below hb4
    have r0 := PR.c0
    have f0 := PR.f 0
    have r1 := PR.c1
    have f1 := PR.f 1
    have r2 := PR.c2
    have f2 := PR.f 2
    replace BB := bl_trans BB hb4
    clear hb4 q3' HF
    clear q4'
    go_wp2_with fail
    exact bodyPost_ret (v := .agg #[.bool b4, .slice A4 n4 c4, .slice B4 m4 d4]) (by simp [results, Tryz.results57, go_sem, *]) rfl (fin_q q4 BB (by omega) (by omega) _ _ _)

set_option maxHeartbeats 2000000 in
theorem madeR_ofTwoR1 {w : World} {v : Value} {q : Rat} {k : Nat} {cap0 cap1 : Value} {q' : Rat} {k' : Nat} (h : IsQm w v q k) (hk : k ≤ 900) (hk1 : 1 ≤ k) (hf : ∀ W u, Below w.heap.size w W → w.heap.size + 2 ≤ W.heap.size → IsQ (w.heap.size + 2) W u q k → Calls Tryz.prog 97 #[u, cap0, cap1] W (Ans W fun w' v => IsQ (w.heap.size + 2) w' v q' k')) : Calls Tryz.prog 57 #[v, .func (Fn.func 97) #[] #[cap0, cap1]] w (Ans w fun w' v => IsQ w.heap.size w' v q' k') := by
  obtain ⟨b, A, n, c, B, m, d, rfl, z, y, hz, hy, rfl⟩ := h
  have PA := (Bq.new w b A n c B m d).alloc (.cells #[.bool false, .slice none 0 0, .slice none 0 0] 26)
  have PR := Bq.new2 w (.cells #[.bool b, .slice A n c, .slice B m d] 26) false none 0 0 none 0 0
  have BB := bl_trans (bl_alloc w (.cells #[.bool b, .slice A n c, .slice B m d] 26)) (bl_alloc _ (.cells #[.bool false, .slice none 0 0, .slice none 0 0] 26))
  have HF := Lib.hid hf
  have ZA := hz.below BB
  have NY := hy.below BB
  have HZ := Lib.hid hz
  clear hf hz hy
  have p2 := PA.c2
  go_enter Tryz.func57, Tryz.ntmps57
  go_wp2_with fail
  refine (cmpN NY (nilN _) (by omega) (Nat.zero_le _)).mono ?_
  rintro e w1 ⟨rfl, hb1⟩
  have hs1 := hb1.size
  simp only [hs_alloc] at hs1
  replace PA := PA.below hb1
  replace ZA := ZA.below hb1
  replace NY := NY.below hb1
  replace PR := PR.below hb1
  replace BB := bl_trans BB hb1
  clear hb1 p2
  by_cases hy0 : y = 0
  · subst hy0
    rw [cmpV_eq]
    have p1 := PA.c2
    have g2 := PA.f 2
    go_wp2_with fail
    refine (cFromD (N := w.heap.size + 2) 1 (by omega) (by omega)).mono ?_
    rintro e w2 ⟨_, rfl, hb2, D1, n1, c1, rfl, o1, l1⟩
    have hs2 := hb2.size
    replace PA := PA.below hb2
    replace PR := PR.below hb2
    replace ZA := ZA.below hb2
    replace BB := bl_trans BB hb2
    clear hb2 p1 g2 NY
    have p0 := PA.c0
    have p1 := PA.c1
    have p2 := PA.c2
    have g2 := PA.f 2
    go_wp2_with fail
    clear p0 p1 p2 g2
    replace PA := PA.setD D1 n1 c1
    replace PR := PR.other (g' := w.heap.size) (i := 2) (v := .slice D1 n1 c1) (by omega)
    replace BB := BB.setCell (p := ⟨w.heap.size, 2, none⟩) (Nat.le_refl _) (.slice D1 n1 c1)
    replace ZA := HZ.out.below BB
    have ND : Nm (w2.setCell ⟨w.heap.size, 2, none⟩ (.slice D1 n1 c1)) D1 n1 c1 1 1 := ⟨⟨_, (OwK.rd (o1.grown (grownBy_setCell w2 ⟨w.heap.size, 2, none⟩ (.slice D1 n1 c1)) (fun p hp e => by injection e with e; have := (OwK.lt o1 hp).1; dsimp only at e; omega))), M.val_lims 1⟩, l1⟩
    have hs4 : w.heap.size + 2 ≤ (w2.setCell ⟨w.heap.size, 2, none⟩ (.slice D1 n1 c1)).heap.size := by simp [World.setCell]; omega
    generalize w2.setCell ⟨w.heap.size, 2, none⟩ (.slice D1 n1 c1) = W2 at PA PR BB ZA ND hs4 ⊢
    clear o1 l1
    refine (cLowest ⟨_, _, _, _, rfl, ZA⟩ ⟨_, _, _, rfl, ND⟩ (by omega) (by omega) (by omega)).mono ?_
    rintro e w3 ⟨u, rfl, hb3, q3⟩
    have hs3 := hb3.size
    have q3' := (q3.mono (show max k 1 ≤ k by omega)).base (N' := w.heap.size + 2) (by omega)
    replace PR := PR.below hb3
    replace BB := bl_trans BB hb3
    clear hb3 q3  PA ZA ND
    go_wp2_with fail
    refine (HF.out _ _ BB (by omega) (by rw [dOf_zero]; exact q3')).mono ?_
    rintro e w4 ⟨r, rfl, hb4, q4⟩
    obtain ⟨b4, A4, n4, c4, B4, m4, d4, rfl, q4'⟩ := id q4
    replace PR := PR.below hb4
    have r0 := PR.c0
    have f0 := PR.f 0
    have r1 := PR.c1
    have f1 := PR.f 1
    have r2 := PR.c2
    have f2 := PR.f 2
    replace BB := bl_trans BB hb4
    clear hb4 q3' HF
    clear q4'
    go_wp2_with fail
    exact bodyPost_ret (v := .agg #[.bool b4, .slice A4 n4 c4, .slice B4 m4 d4]) (by simp [results, Tryz.results57, go_sem, *]) rfl (fin_q q4 BB (by omega) (by omega) _ _ _)
  · have HY := Lib.hid hy0
    have hc : (cmpV y 0 == 0) = false := by rw [cmpV_gt (by omega)]; rfl
    rw [cmpV_gt (show 0 < y by omega)]
    clear hc hy0
    have p0 := PA.c0
    have p1 := PA.c1
    have p2 := PA.c2
    go_wp2_with fail
    refine (cLowest ⟨_, _, _, _, rfl, ZA⟩ ⟨_, _, _, rfl, NY⟩ (by omega) (by omega) HY.out).mono ?_
    rintro e w3 ⟨u, rfl, hb3, q3⟩
    have hs3 := hb3.size
    have q3' := (q3.mono (show max k k ≤ k by omega)).base (N' := w.heap.size + 2) (by omega)
    replace PR := PR.below hb3
    replace BB := bl_trans BB hb3
    clear hb3 q3 p0 p1 p2 PA ZA NY
    go_wp2_with fail
    refine (HF.out _ _ BB (by omega) (by rw [dOf_of HY.out]; exact q3')).mono ?_
    rintro e w4 ⟨r, rfl, hb4, q4⟩
    obtain ⟨b4, A4, n4, c4, B4, m4, d4, rfl, q4'⟩ := id q4
    replace PR := PR.below hb4
    have r0 := PR.c0
    have f0 := PR.f 0
    have r1 := PR.c1
    have f1 := PR.f 1
    have r2 := PR.c2
    have f2 := PR.f 2
    replace BB := bl_trans BB hb4
    clear hb4 q3' HF
    clear q4'
    go_wp2_with fail
    exact bodyPost_ret (v := .agg #[.bool b4, .slice A4 n4 c4, .slice B4 m4 d4]) (by simp [results, Tryz.results57, go_sem, *]) rfl (fin_q q4 BB (by omega) (by omega) _ _ _)

set_option maxHeartbeats 2000000 in
theorem madeR_ofTwoR2 {w : World} {v : Value} {q : Rat} {k : Nat} {cap0 cap1 : Value} {q' : Rat} {k' : Nat} (h : IsQm w v q k) (hk : k ≤ 900) (hk1 : 1 ≤ k) (hf : ∀ W u, Below w.heap.size w W → w.heap.size + 2 ≤ W.heap.size → IsQ (w.heap.size + 2) W u q k → Calls Tryz.prog 98 #[u, cap0, cap1] W (Ans W fun w' v => IsQ (w.heap.size + 2) w' v q' k')) : Calls Tryz.prog 57 #[v, .func (Fn.func 98) #[] #[cap0, cap1]] w (Ans w fun w' v => IsQ w.heap.size w' v q' k') := by
  obtain ⟨b, A, n, c, B, m, d, rfl, z, y, hz, hy, rfl⟩ := h
  have PA := (Bq.new w b A n c B m d).alloc (.cells #[.bool false, .slice none 0 0, .slice none 0 0] 26)
  have PR := Bq.new2 w (.cells #[.bool b, .slice A n c, .slice B m d] 26) false none 0 0 none 0 0
  have BB := bl_trans (bl_alloc w (.cells #[.bool b, .slice A n c, .slice B m d] 26)) (bl_alloc _ (.cells #[.bool false, .slice none 0 0, .slice none 0 0] 26))
  have HF := Lib.hid hf
  have ZA := hz.below BB
  have NY := hy.below BB
  have HZ := Lib.hid hz
  clear hf hz hy
  have p2 := PA.c2
  go_enter Tryz.func57, Tryz.ntmps57
  go_wp2_with fail
  refine (cmpN NY (nilN _) (by omega) (Nat.zero_le _)).mono ?_
  rintro e w1 ⟨rfl, hb1⟩
  have hs1 := hb1.size
  simp only [hs_alloc] at hs1
  replace PA := PA.below hb1
  replace ZA := ZA.below hb1
  replace NY := NY.below hb1
  replace PR := PR.below hb1
  replace BB := bl_trans BB hb1
  clear hb1 p2
  by_cases hy0 : y = 0
  · subst hy0
    rw [cmpV_eq]
    have p1 := PA.c2
    have g2 := PA.f 2
    go_wp2_with fail
    refine (cFromD (N := w.heap.size + 2) 1 (by omega) (by omega)).mono ?_
    rintro e w2 ⟨_, rfl, hb2, D1, n1, c1, rfl, o1, l1⟩
    have hs2 := hb2.size
    replace PA := PA.below hb2
    replace PR := PR.below hb2
    replace ZA := ZA.below hb2
    replace BB := bl_trans BB hb2
    clear hb2 p1 g2 NY
    have p0 := PA.c0
    have p1 := PA.c1
    have p2 := PA.c2
    have g2 := PA.f 2
    go_wp2_with fail
    clear p0 p1 p2 g2
    replace PA := PA.setD D1 n1 c1
    replace PR := PR.other (g' := w.heap.size) (i := 2) (v := .slice D1 n1 c1) (by omega)
    replace BB := BB.setCell (p := ⟨w.heap.size, 2, none⟩) (Nat.le_refl _) (.slice D1 n1 c1)
    replace ZA := HZ.out.below BB
    have ND : Nm (w2.setCell ⟨w.heap.size, 2, none⟩ (.slice D1 n1 c1)) D1 n1 c1 1 1 := ⟨⟨_, (OwK.rd (o1.grown (grownBy_setCell w2 ⟨w.heap.size, 2, none⟩ (.slice D1 n1 c1)) (fun p hp e => by injection e with e; have := (OwK.lt o1 hp).1; dsimp only at e; omega))), M.val_lims 1⟩, l1⟩
    have hs4 : w.heap.size + 2 ≤ (w2.setCell ⟨w.heap.size, 2, none⟩ (.slice D1 n1 c1)).heap.size := by simp [World.setCell]; omega
    generalize w2.setCell ⟨w.heap.size, 2, none⟩ (.slice D1 n1 c1) = W2 at PA PR BB ZA ND hs4 ⊢
    clear o1 l1
    refine (cLowest ⟨_, _, _, _, rfl, ZA⟩ ⟨_, _, _, rfl, ND⟩ (by omega) (by omega) (by omega)).mono ?_
    rintro e w3 ⟨u, rfl, hb3, q3⟩
    have hs3 := hb3.size
    have q3' := (q3.mono (show max k 1 ≤ k by omega)).base (N' := w.heap.size + 2) (by omega)
    replace PR := PR.below hb3
    replace BB := bl_trans BB hb3
    clear hb3 q3  PA ZA ND
    go_wp2_with fail
    refine (HF.out _ _ BB (by omega) (by rw [dOf_zero]; exact q3')).mono ?_
    rintro e w4 ⟨r, rfl, hb4, q4⟩
    obtain ⟨b4, A4, n4, c4, B4, m4, d4, rfl, q4'⟩ := id q4
    replace PR := PR.below hb4
    have r0 := PR.c0
    have f0 := PR.f 0
    have r1 := PR.c1
    have f1 := PR.f 1
    have r2 := PR.c2
    have f2 := PR.f 2
    replace BB := bl_trans BB hb4
    clear hb4 q3' HF
    clear q4'
    go_wp2_with fail
    exact bodyPost_ret (v := .agg #[.bool b4, .slice A4 n4 c4, .slice B4 m4 d4]) (by simp [results, Tryz.results57, go_sem, *]) rfl (fin_q q4 BB (by omega) (by omega) _ _ _)
  · have HY := Lib.hid hy0
    have hc : (cmpV y 0 == 0) = false := by rw [cmpV_gt (by omega)]; rfl
    rw [cmpV_gt (show 0 < y by omega)]
    clear hc hy0
    have p0 := PA.c0
    have p1 := PA.c1
    have p2 := PA.c2
    go_wp2_with fail
    refine (cLowest ⟨_, _, _, _, rfl, ZA⟩ ⟨_, _, _, rfl, NY⟩ (by omega) (by omega) HY.out).mono ?_
    rintro e w3 ⟨u, rfl, hb3, q3⟩
    have hs3 := hb3.size
    have q3' := (q3.mono (show max k k ≤ k by omega)).base (N' := w.heap.size + 2) (by omega)
    replace PR := PR.below hb3
    replace BB := bl_trans BB hb3
    clear hb3 q3 p0 p1 p2 PA ZA NY
    go_wp2_with fail
    refine (HF.out _ _ BB (by omega) (by rw [dOf_of HY.out]; exact q3')).mono ?_
    rintro e w4 ⟨r, rfl, hb4, q4⟩
    obtain ⟨b4, A4, n4, c4, B4, m4, d4, rfl, q4'⟩ := id q4
    replace PR := PR.below hb4
    have r0 := PR.c0
    have f0 := PR.f 0
    have r1 := PR.c1
    have f1 := PR.f 1
    have r2 := PR.c2
    have f2 := PR.f 2
    replace BB := bl_trans BB hb4
    clear hb4 q3' HF
    clear q4'
    go_wp2_with fail
    exact bodyPost_ret (v := .agg #[.bool b4, .slice A4 n4 c4, .slice B4 m4 d4]) (by simp [results, Tryz.results57, go_sem, *]) rfl (fin_q q4 BB (by omega) (by omega) _ _ _)

set_option maxHeartbeats 2000000 in
theorem madeI_ofTwoI1 {w : World} {v : Value} {q : Rat} {k : Nat} {cap0 cap1 : Value} {Post : Value → Prop} (h : IsQm w v q k) (hk : k ≤ 900) (hk1 : 1 ≤ k) (hf : ∀ W u, Below w.heap.size w W → w.heap.size + 1 ≤ W.heap.size → IsQ (w.heap.size + 1) W u q k → Calls Tryz.prog 113 #[u, cap0, cap1] W (Ans W fun _ v => Post v)) : Calls Tryz.prog 112 #[v, .func (Fn.func 113) #[] #[cap0, cap1]] w (Ans w fun _ v => Post v) := by
  obtain ⟨b, A, n, c, B, m, d, rfl, z, y, hz, hy, rfl⟩ := h
  have PA := Bq.new w b A n c B m d
  have BB := bl_alloc w (.cells #[.bool b, .slice A n c, .slice B m d] 26)
  have HF := Lib.hid hf
  have ZA := hz.below BB
  have NY := hy.below BB
  have HZ := Lib.hid hz
  clear hf hz hy
  have p2 := PA.c2
  go_enter Tryz.func112, Tryz.ntmps112
  go_wp2_with fail
  refine (cmpN NY (nilN _) (by omega) (Nat.zero_le _)).mono ?_
  rintro e w1 ⟨rfl, hb1⟩
  have hs1 := hb1.size
  simp only [hs_alloc] at hs1
  replace PA := PA.below hb1
  replace ZA := ZA.below hb1
  replace NY := NY.below hb1
  replace BB := bl_trans BB hb1
  clear hb1 p2
  by_cases hy0 : y = 0
  · subst hy0
    rw [cmpV_eq]
    have p1 := PA.c2
    have g2 := PA.f 2
    go_wp2_with fail
    refine (cFromD (N := w.heap.size + 1) 1 (by omega) (by omega)).mono ?_
    rintro e w2 ⟨_, rfl, hb2, D1, n1, c1, rfl, o1, l1⟩
    have hs2 := hb2.size
    replace PA := PA.below hb2
    replace ZA := ZA.below hb2
    replace BB := bl_trans BB hb2
    clear hb2 p1 g2 NY
    have p0 := PA.c0
    have p1 := PA.c1
    have p2 := PA.c2
    have g2 := PA.f 2
    go_wp2_with fail
    clear p0 p1 p2 g2
    replace PA := PA.setD D1 n1 c1
    replace BB := BB.setCell (p := ⟨w.heap.size, 2, none⟩) (Nat.le_refl _) (.slice D1 n1 c1)
    replace ZA := HZ.out.below BB
    have ND : Nm (w2.setCell ⟨w.heap.size, 2, none⟩ (.slice D1 n1 c1)) D1 n1 c1 1 1 := ⟨⟨_, (OwK.rd (o1.grown (grownBy_setCell w2 ⟨w.heap.size, 2, none⟩ (.slice D1 n1 c1)) (fun p hp e => by injection e with e; have := (OwK.lt o1 hp).1; dsimp only at e; omega))), M.val_lims 1⟩, l1⟩
    have hs4 : w.heap.size + 1 ≤ (w2.setCell ⟨w.heap.size, 2, none⟩ (.slice D1 n1 c1)).heap.size := by simp [World.setCell]; omega
    generalize w2.setCell ⟨w.heap.size, 2, none⟩ (.slice D1 n1 c1) = W2 at PA  BB ZA ND hs4 ⊢
    clear o1 l1
    refine (cLowest ⟨_, _, _, _, rfl, ZA⟩ ⟨_, _, _, rfl, ND⟩ (by omega) (by omega) (by omega)).mono ?_
    rintro e w3 ⟨u, rfl, hb3, q3⟩
    have hs3 := hb3.size
    have q3' := (q3.mono (show max k 1 ≤ k by omega)).base (N' := w.heap.size + 1) (by omega)
    replace BB := bl_trans BB hb3
    clear hb3 q3  PA ZA ND
    go_wp2_with fail
    refine (HF.out _ _ BB (by omega) (by rw [dOf_zero]; exact q3')).mono ?_
    rintro e w4 ⟨r, rfl, hb4, q4⟩
    replace BB := bl_trans BB hb4
    clear hb4 q3' HF
    go_wp2_with fail
    go_ret
    exact ⟨r, rfl, BB, q4⟩
  · have HY := Lib.hid hy0
    have hc : (cmpV y 0 == 0) = false := by rw [cmpV_gt (by omega)]; rfl
    rw [cmpV_gt (show 0 < y by omega)]
    clear hc hy0
    have p0 := PA.c0
    have p1 := PA.c1
    have p2 := PA.c2
    go_wp2_with fail
    refine (cLowest ⟨_, _, _, _, rfl, ZA⟩ ⟨_, _, _, rfl, NY⟩ (by omega) (by omega) HY.out).mono ?_
    rintro e w3 ⟨u, rfl, hb3, q3⟩
    have hs3 := hb3.size
    have q3' := (q3.mono (show max k k ≤ k by omega)).base (N' := w.heap.size + 1) (by omega)
    replace BB := bl_trans BB hb3
    clear hb3 q3 p0 p1 p2 PA ZA NY
    go_wp2_with fail
    refine (HF.out _ _ BB (by omega) (by rw [dOf_of HY.out]; exact q3')).mono ?_
    rintro e w4 ⟨r, rfl, hb4, q4⟩
    replace BB := bl_trans BB hb4
    clear hb4 q3' HF
    go_wp2_with fail
    go_ret
    exact ⟨r, rfl, BB, q4⟩

set_option maxHeartbeats 2000000 in
theorem madeI_ofTwoI2 {w : World} {v : Value} {q : Rat} {k : Nat} {cap0 cap1 : Value} {Post : Value → Prop} (h : IsQm w v q k) (hk : k ≤ 900) (hk1 : 1 ≤ k) (hf : ∀ W u, Below w.heap.size w W → w.heap.size + 1 ≤ W.heap.size → IsQ (w.heap.size + 1) W u q k → Calls Tryz.prog 114 #[u, cap0, cap1] W (Ans W fun _ v => Post v)) : Calls Tryz.prog 112 #[v, .func (Fn.func 114) #[] #[cap0, cap1]] w (Ans w fun _ v => Post v) := by
  obtain ⟨b, A, n, c, B, m, d, rfl, z, y, hz, hy, rfl⟩ := h
  have PA := Bq.new w b A n c B m d
  have BB := bl_alloc w (.cells #[.bool b, .slice A n c, .slice B m d] 26)
  have HF := Lib.hid hf
  have ZA := hz.below BB
  have NY := hy.below BB
  have HZ := Lib.hid hz
  clear hf hz hy
  have p2 := PA.c2
  go_enter Tryz.func112, Tryz.ntmps112
  go_wp2_with fail
  refine (cmpN NY (nilN _) (by omega) (Nat.zero_le _)).mono ?_
  rintro e w1 ⟨rfl, hb1⟩
  have hs1 := hb1.size
  simp only [hs_alloc] at hs1
  replace PA := PA.below hb1
  replace ZA := ZA.below hb1
  replace NY := NY.below hb1
  replace BB := bl_trans BB hb1
  clear hb1 p2
  by_cases hy0 : y = 0
  · subst hy0
    rw [cmpV_eq]
    have p1 := PA.c2
    have g2 := PA.f 2
    go_wp2_with fail
    refine (cFromD (N := w.heap.size + 1) 1 (by omega) (by omega)).mono ?_
    rintro e w2 ⟨_, rfl, hb2, D1, n1, c1, rfl, o1, l1⟩
    have hs2 := hb2.size
    replace PA := PA.below hb2
    replace ZA := ZA.below hb2
    replace BB := bl_trans BB hb2
    clear hb2 p1 g2 NY
    have p0 := PA.c0
    have p1 := PA.c1
    have p2 := PA.c2
    have g2 := PA.f 2
    go_wp2_with fail
    clear p0 p1 p2 g2
    replace PA := PA.setD D1 n1 c1
    replace BB := BB.setCell (p := ⟨w.heap.size, 2, none⟩) (Nat.le_refl _) (.slice D1 n1 c1)
    replace ZA := HZ.out.below BB
    have ND : Nm (w2.setCell ⟨w.heap.size, 2, none⟩ (.slice D1 n1 c1)) D1 n1 c1 1 1 := ⟨⟨_, (OwK.rd (o1.grown (grownBy_setCell w2 ⟨w.heap.size, 2, none⟩ (.slice D1 n1 c1)) (fun p hp e => by injection e with e; have := (OwK.lt o1 hp).1; dsimp only at e; omega))), M.val_lims 1⟩, l1⟩
    have hs4 : w.heap.size + 1 ≤ (w2.setCell ⟨w.heap.size, 2, none⟩ (.slice D1 n1 c1)).heap.size := by simp [World.setCell]; omega
    generalize w2.setCell ⟨w.heap.size, 2, none⟩ (.slice D1 n1 c1) = W2 at PA  BB ZA ND hs4 ⊢
    clear o1 l1
    refine (cLowest ⟨_, _, _, _, rfl, ZA⟩ ⟨_, _, _, rfl, ND⟩ (by omega) (by omega) (by omega)).mono ?_
    rintro e w3 ⟨u, rfl, hb3, q3⟩
    have hs3 := hb3.size
    have q3' := (q3.mono (show max k 1 ≤ k by omega)).base (N' := w.heap.size + 1) (by omega)
    replace BB := bl_trans BB hb3
    clear hb3 q3  PA ZA ND
    go_wp2_with fail
    refine (HF.out _ _ BB (by omega) (by rw [dOf_zero]; exact q3')).mono ?_
    rintro e w4 ⟨r, rfl, hb4, q4⟩
    replace BB := bl_trans BB hb4
    clear hb4 q3' HF
    go_wp2_with fail
    go_ret
    exact ⟨r, rfl, BB, q4⟩
  · have HY := Lib.hid hy0
    have hc : (cmpV y 0 == 0) = false := by rw [cmpV_gt (by omega)]; rfl
    rw [cmpV_gt (show 0 < y by omega)]
    clear hc hy0
    have p0 := PA.c0
    have p1 := PA.c1
    have p2 := PA.c2
    go_wp2_with fail
    refine (cLowest ⟨_, _, _, _, rfl, ZA⟩ ⟨_, _, _, rfl, NY⟩ (by omega) (by omega) HY.out).mono ?_
    rintro e w3 ⟨u, rfl, hb3, q3⟩
    have hs3 := hb3.size
    have q3' := (q3.mono (show max k k ≤ k by omega)).base (N' := w.heap.size + 1) (by omega)
    replace BB := bl_trans BB hb3
    clear hb3 q3 p0 p1 p2 PA ZA NY
    go_wp2_with fail
    refine (HF.out _ _ BB (by omega) (by rw [dOf_of HY.out]; exact q3')).mono ?_
    rintro e w4 ⟨r, rfl, hb4, q4⟩
    replace BB := bl_trans BB hb4
    clear hb4 q3' HF
    go_wp2_with fail
    go_ret
    exact ⟨r, rfl, BB, q4⟩

set_option maxHeartbeats 2000000 in
theorem madeZ_rat_Floor__1 {w : World} {v : Value} {q : Rat} {k : Nat} {z' : Int} {k' : Nat} (h : IsQm w v q k) (hk : k ≤ 900) (hk1 : 1 ≤ k) (hf : ∀ W u, Below w.heap.size w W → w.heap.size + 2 ≤ W.heap.size → IsQ (w.heap.size + 2) W u q k → Calls Tryz.prog 75 #[u] W (Ans W fun w' v => IsZ (w.heap.size + 2) w' v z' k')) : Calls Tryz.prog 74 #[v, .func (Fn.func 75) #[] #[]] w (Ans w fun w' v => IsZ w.heap.size w' v z' k') := by
  obtain ⟨b, A, n, c, B, m, d, rfl, z, y, hz, hy, rfl⟩ := h
  have PA := (Bq.new w b A n c B m d).alloc (.cells #[.bool false, .slice none 0 0] 24)
  have PR := Bz.new2 w (.cells #[.bool b, .slice A n c, .slice B m d] 26) false none 0 0
  have BB := bl_trans (bl_alloc w (.cells #[.bool b, .slice A n c, .slice B m d] 26)) (bl_alloc _ (.cells #[.bool false, .slice none 0 0] 24))
  have HF := Lib.hid hf
  have ZA := hz.below BB
  have NY := hy.below BB
  have HZ := Lib.hid hz
  clear hf hz hy
  have p2 := PA.c2
  go_enter Tryz.func74, Tryz.ntmps74
  go_wp2_with fail
  refine (cmpN NY (nilN _) (by omega) (Nat.zero_le _)).mono ?_
  rintro e w1 ⟨rfl, hb1⟩
  have hs1 := hb1.size
  simp only [hs_alloc] at hs1
  replace PA := PA.below hb1
  replace ZA := ZA.below hb1
  replace NY := NY.below hb1
  replace PR := PR.below hb1
  replace BB := bl_trans BB hb1
  clear hb1 p2
  by_cases hy0 : y = 0
  · subst hy0
    rw [cmpV_eq]
    have p1 := PA.c2
    have g2 := PA.f 2
    go_wp2_with fail
    refine (cFromD (N := w.heap.size + 2) 1 (by omega) (by omega)).mono ?_
    rintro e w2 ⟨_, rfl, hb2, D1, n1, c1, rfl, o1, l1⟩
    have hs2 := hb2.size
    replace PA := PA.below hb2
    replace PR := PR.below hb2
    replace ZA := ZA.below hb2
    replace BB := bl_trans BB hb2
    clear hb2 p1 g2 NY
    have p0 := PA.c0
    have p1 := PA.c1
    have p2 := PA.c2
    have g2 := PA.f 2
    go_wp2_with fail
    clear p0 p1 p2 g2
    replace PA := PA.setD D1 n1 c1
    replace PR := PR.other (g' := w.heap.size) (i := 2) (v := .slice D1 n1 c1) (by omega)
    replace BB := BB.setCell (p := ⟨w.heap.size, 2, none⟩) (Nat.le_refl _) (.slice D1 n1 c1)
    replace ZA := HZ.out.below BB
    have ND : Nm (w2.setCell ⟨w.heap.size, 2, none⟩ (.slice D1 n1 c1)) D1 n1 c1 1 1 := ⟨⟨_, (OwK.rd (o1.grown (grownBy_setCell w2 ⟨w.heap.size, 2, none⟩ (.slice D1 n1 c1)) (fun p hp e => by injection e with e; have := (OwK.lt o1 hp).1; dsimp only at e; omega))), M.val_lims 1⟩, l1⟩
    have hs4 : w.heap.size + 2 ≤ (w2.setCell ⟨w.heap.size, 2, none⟩ (.slice D1 n1 c1)).heap.size := by simp [World.setCell]; omega
    generalize w2.setCell ⟨w.heap.size, 2, none⟩ (.slice D1 n1 c1) = W2 at PA PR BB ZA ND hs4 ⊢
    clear o1 l1
    refine (cLowest ⟨_, _, _, _, rfl, ZA⟩ ⟨_, _, _, rfl, ND⟩ (by omega) (by omega) (by omega)).mono ?_
    rintro e w3 ⟨u, rfl, hb3, q3⟩
    have hs3 := hb3.size
    have q3' := (q3.mono (show max k 1 ≤ k by omega)).base (N' := w.heap.size + 2) (by omega)
    replace PR := PR.below hb3
    replace BB := bl_trans BB hb3
    clear hb3 q3  PA ZA ND
    go_wp2_with fail
    refine (HF.out _ _ BB (by omega) (by rw [dOf_zero]; exact q3')).mono ?_
    rintro e w4 ⟨r, rfl, hb4, q4⟩
    obtain ⟨b4, A4, n4, c4, rfl, q4'⟩ := id q4
    replace PR := PR.below hb4
    have r0 := PR.c0
    have f0 := PR.f 0
    have r1 := PR.c1
    have f1 := PR.f 1
    replace BB := bl_trans BB hb4
    clear hb4 q3' HF
    clear q4'
    go_wp2_with fail
    exact bodyPost_ret (v := .agg #[.bool b4, .slice A4 n4 c4]) (by simp [results, Tryz.results74, go_sem, *]) rfl (fin_zz q4 BB (by omega) (by omega) _ _)
  · have HY := Lib.hid hy0
    have hc : (cmpV y 0 == 0) = false := by rw [cmpV_gt (by omega)]; rfl
    rw [cmpV_gt (show 0 < y by omega)]
    clear hc hy0
    have p0 := PA.c0
    have p1 := PA.c1
    have p2 := PA.c2
    go_wp2_with fail
    refine (cLowest ⟨_, _, _, _, rfl, ZA⟩ ⟨_, _, _, rfl, NY⟩ (by omega) (by omega) HY.out).mono ?_
    rintro e w3 ⟨u, rfl, hb3, q3⟩
    have hs3 := hb3.size
    have q3' := (q3.mono (show max k k ≤ k by omega)).base (N' := w.heap.size + 2) (by omega)
    replace PR := PR.below hb3
    replace BB := bl_trans BB hb3
    clear hb3 q3 p0 p1 p2 PA ZA NY
    go_wp2_with fail
    refine (HF.out _ _ BB (by omega) (by rw [dOf_of HY.out]; exact q3')).mono ?_
    rintro e w4 ⟨r, rfl, hb4, q4⟩
    obtain ⟨b4, A4, n4, c4, rfl, q4'⟩ := id q4
    replace PR := PR.below hb4
    have r0 := PR.c0
    have f0 := PR.f 0
    have r1 := PR.c1
    have f1 := PR.f 1
    replace BB := bl_trans BB hb4
    clear hb4 q3' HF
    clear q4'
    go_wp2_with fail
    exact bodyPost_ret (v := .agg #[.bool b4, .slice A4 n4 c4]) (by simp [results, Tryz.results74, go_sem, *]) rfl (fin_zz q4 BB (by omega) (by omega) _ _)

set_option maxHeartbeats 2000000 in
theorem madeB_rat_Whole__1 {w : World} {v : Value} {q : Rat} {k : Nat} {Post : Value → Prop} (h : IsQm w v q k) (hk : k ≤ 900) (hk1 : 1 ≤ k) (hf : ∀ W u, Below w.heap.size w W → w.heap.size + 1 ≤ W.heap.size → IsQ (w.heap.size + 1) W u q k → Calls Tryz.prog 96 #[u] W (Ans W fun _ v => Post v)) : Calls Tryz.prog 54 #[v, .func (Fn.func 96) #[] #[]] w (Ans w fun _ v => Post v) := by
  obtain ⟨b, A, n, c, B, m, d, rfl, z, y, hz, hy, rfl⟩ := h
  have PA := Bq.new w b A n c B m d
  have BB := bl_alloc w (.cells #[.bool b, .slice A n c, .slice B m d] 26)
  have HF := Lib.hid hf
  have ZA := hz.below BB
  have NY := hy.below BB
  have HZ := Lib.hid hz
  clear hf hz hy
  have p2 := PA.c2
  go_enter Tryz.func54, Tryz.ntmps54
  go_wp2_with fail
  refine (cmpN NY (nilN _) (by omega) (Nat.zero_le _)).mono ?_
  rintro e w1 ⟨rfl, hb1⟩
  have hs1 := hb1.size
  simp only [hs_alloc] at hs1
  replace PA := PA.below hb1
  replace ZA := ZA.below hb1
  replace NY := NY.below hb1
  replace BB := bl_trans BB hb1
  clear hb1 p2
  by_cases hy0 : y = 0
  · subst hy0
    rw [cmpV_eq]
    have p1 := PA.c2
    have g2 := PA.f 2
    go_wp2_with fail
    refine (cFromD (N := w.heap.size + 1) 1 (by omega) (by omega)).mono ?_
    rintro e w2 ⟨_, rfl, hb2, D1, n1, c1, rfl, o1, l1⟩
    have hs2 := hb2.size
    replace PA := PA.below hb2
    replace ZA := ZA.below hb2
    replace BB := bl_trans BB hb2
    clear hb2 p1 g2 NY
    have p0 := PA.c0
    have p1 := PA.c1
    have p2 := PA.c2
    have g2 := PA.f 2
    go_wp2_with fail
    clear p0 p1 p2 g2
    replace PA := PA.setD D1 n1 c1
    replace BB := BB.setCell (p := ⟨w.heap.size, 2, none⟩) (Nat.le_refl _) (.slice D1 n1 c1)
    replace ZA := HZ.out.below BB
    have ND : Nm (w2.setCell ⟨w.heap.size, 2, none⟩ (.slice D1 n1 c1)) D1 n1 c1 1 1 := ⟨⟨_, (OwK.rd (o1.grown (grownBy_setCell w2 ⟨w.heap.size, 2, none⟩ (.slice D1 n1 c1)) (fun p hp e => by injection e with e; have := (OwK.lt o1 hp).1; dsimp only at e; omega))), M.val_lims 1⟩, l1⟩
    have hs4 : w.heap.size + 1 ≤ (w2.setCell ⟨w.heap.size, 2, none⟩ (.slice D1 n1 c1)).heap.size := by simp [World.setCell]; omega
    generalize w2.setCell ⟨w.heap.size, 2, none⟩ (.slice D1 n1 c1) = W2 at PA  BB ZA ND hs4 ⊢
    clear o1 l1
    refine (cLowest ⟨_, _, _, _, rfl, ZA⟩ ⟨_, _, _, rfl, ND⟩ (by omega) (by omega) (by omega)).mono ?_
    rintro e w3 ⟨u, rfl, hb3, q3⟩
    have hs3 := hb3.size
    have q3' := (q3.mono (show max k 1 ≤ k by omega)).base (N' := w.heap.size + 1) (by omega)
    replace BB := bl_trans BB hb3
    clear hb3 q3  PA ZA ND
    go_wp2_with fail
    refine (HF.out _ _ BB (by omega) (by rw [dOf_zero]; exact q3')).mono ?_
    rintro e w4 ⟨r, rfl, hb4, q4⟩
    replace BB := bl_trans BB hb4
    clear hb4 q3' HF
    go_wp2_with fail
    go_ret
    exact ⟨r, rfl, BB, q4⟩
  · have HY := Lib.hid hy0
    have hc : (cmpV y 0 == 0) = false := by rw [cmpV_gt (by omega)]; rfl
    rw [cmpV_gt (show 0 < y by omega)]
    clear hc hy0
    have p0 := PA.c0
    have p1 := PA.c1
    have p2 := PA.c2
    go_wp2_with fail
    refine (cLowest ⟨_, _, _, _, rfl, ZA⟩ ⟨_, _, _, rfl, NY⟩ (by omega) (by omega) HY.out).mono ?_
    rintro e w3 ⟨u, rfl, hb3, q3⟩
    have hs3 := hb3.size
    have q3' := (q3.mono (show max k k ≤ k by omega)).base (N' := w.heap.size + 1) (by omega)
    replace BB := bl_trans BB hb3
    clear hb3 q3 p0 p1 p2 PA ZA NY
    go_wp2_with fail
    refine (HF.out _ _ BB (by omega) (by rw [dOf_of HY.out]; exact q3')).mono ?_
    rintro e w4 ⟨r, rfl, hb4, q4⟩
    replace BB := bl_trans BB hb4
    clear hb4 q3' HF
    go_wp2_with fail
    go_ret
    exact ⟨r, rfl, BB, q4⟩

set_option maxHeartbeats 2000000 in
theorem madeB_rat_Right__1 {w : World} {v : Value} {q : Rat} {k : Nat} {cap0 : Value} {Post : Value → Prop} (h : IsQm w v q k) (hk : k ≤ 900) (hk1 : 1 ≤ k) (hf : ∀ W u, Below w.heap.size w W → w.heap.size + 1 ≤ W.heap.size → IsQ (w.heap.size + 1) W u q k → Calls Tryz.prog 55 #[u, cap0] W (Ans W fun _ v => Post v)) : Calls Tryz.prog 54 #[v, .func (Fn.func 55) #[] #[cap0]] w (Ans w fun _ v => Post v) := by
  obtain ⟨b, A, n, c, B, m, d, rfl, z, y, hz, hy, rfl⟩ := h
  have PA := Bq.new w b A n c B m d
  have BB := bl_alloc w (.cells #[.bool b, .slice A n c, .slice B m d] 26)
  have HF := Lib.hid hf
  have ZA := hz.below BB
  have NY := hy.below BB
  have HZ := Lib.hid hz
  clear hf hz hy
  have p2 := PA.c2
  go_enter Tryz.func54, Tryz.ntmps54
  go_wp2_with fail
  refine (cmpN NY (nilN _) (by omega) (Nat.zero_le _)).mono ?_
  rintro e w1 ⟨rfl, hb1⟩
  have hs1 := hb1.size
  simp only [hs_alloc] at hs1
  replace PA := PA.below hb1
  replace ZA := ZA.below hb1
  replace NY := NY.below hb1
  replace BB := bl_trans BB hb1
  clear hb1 p2
  by_cases hy0 : y = 0
  · subst hy0
    rw [cmpV_eq]
    have p1 := PA.c2
    have g2 := PA.f 2
    go_wp2_with fail
    refine (cFromD (N := w.heap.size + 1) 1 (by omega) (by omega)).mono ?_
    rintro e w2 ⟨_, rfl, hb2, D1, n1, c1, rfl, o1, l1⟩
    have hs2 := hb2.size
    replace PA := PA.below hb2
    replace ZA := ZA.below hb2
    replace BB := bl_trans BB hb2
    clear hb2 p1 g2 NY
    have p0 := PA.c0
    have p1 := PA.c1
    have p2 := PA.c2
    have g2 := PA.f 2
    go_wp2_with fail
    clear p0 p1 p2 g2
    replace PA := PA.setD D1 n1 c1
    replace BB := BB.setCell (p := ⟨w.heap.size, 2, none⟩) (Nat.le_refl _) (.slice D1 n1 c1)
    replace ZA := HZ.out.below BB
    have ND : Nm (w2.setCell ⟨w.heap.size, 2, none⟩ (.slice D1 n1 c1)) D1 n1 c1 1 1 := ⟨⟨_, (OwK.rd (o1.grown (grownBy_setCell w2 ⟨w.heap.size, 2, none⟩ (.slice D1 n1 c1)) (fun p hp e => by injection e with e; have := (OwK.lt o1 hp).1; dsimp only at e; omega))), M.val_lims 1⟩, l1⟩
    have hs4 : w.heap.size + 1 ≤ (w2.setCell ⟨w.heap.size, 2, none⟩ (.slice D1 n1 c1)).heap.size := by simp [World.setCell]; omega
    generalize w2.setCell ⟨w.heap.size, 2, none⟩ (.slice D1 n1 c1) = W2 at PA  BB ZA ND hs4 ⊢
    clear o1 l1
    refine (cLowest ⟨_, _, _, _, rfl, ZA⟩ ⟨_, _, _, rfl, ND⟩ (by omega) (by omega) (by omega)).mono ?_
    rintro e w3 ⟨u, rfl, hb3, q3⟩
    have hs3 := hb3.size
    have q3' := (q3.mono (show max k 1 ≤ k by omega)).base (N' := w.heap.size + 1) (by omega)
    replace BB := bl_trans BB hb3
    clear hb3 q3  PA ZA ND
    go_wp2_with fail
    refine (HF.out _ _ BB (by omega) (by rw [dOf_zero]; exact q3')).mono ?_
    rintro e w4 ⟨r, rfl, hb4, q4⟩
    replace BB := bl_trans BB hb4
    clear hb4 q3' HF
    go_wp2_with fail
    go_ret
    exact ⟨r, rfl, BB, q4⟩
  · have HY := Lib.hid hy0
    have hc : (cmpV y 0 == 0) = false := by rw [cmpV_gt (by omega)]; rfl
    rw [cmpV_gt (show 0 < y by omega)]
    clear hc hy0
    have p0 := PA.c0
    have p1 := PA.c1
    have p2 := PA.c2
    go_wp2_with fail
    refine (cLowest ⟨_, _, _, _, rfl, ZA⟩ ⟨_, _, _, rfl, NY⟩ (by omega) (by omega) HY.out).mono ?_
    rintro e w3 ⟨u, rfl, hb3, q3⟩
    have hs3 := hb3.size
    have q3' := (q3.mono (show max k k ≤ k by omega)).base (N' := w.heap.size + 1) (by omega)
    replace BB := bl_trans BB hb3
    clear hb3 q3 p0 p1 p2 PA ZA NY
    go_wp2_with fail
    refine (HF.out _ _ BB (by omega) (by rw [dOf_of HY.out]; exact q3')).mono ?_
    rintro e w4 ⟨r, rfl, hb4, q4⟩
    replace BB := bl_trans BB hb4
    clear hb4 q3' HF
    go_wp2_with fail
    go_ret
    exact ⟨r, rfl, BB, q4⟩

set_option maxHeartbeats 2000000 in
theorem madeS_rat_Text__1 {w : World} {v : Value} {q : Rat} {k : Nat} {Post : Value → Prop} (h : IsQm w v q k) (hk : k ≤ 900) (hk1 : 1 ≤ k) (hf : ∀ W u, Below w.heap.size w W → w.heap.size + 1 ≤ W.heap.size → IsQ (w.heap.size + 1) W u q k → Calls Tryz.prog 82 #[u] W (Ans W fun _ v => Post v)) : Calls Tryz.prog 81 #[v, .func (Fn.func 82) #[] #[]] w (Ans w fun _ v => Post v) := by
  obtain ⟨b, A, n, c, B, m, d, rfl, z, y, hz, hy, rfl⟩ := h
  have PA := Bq.new w b A n c B m d
  have BB := bl_alloc w (.cells #[.bool b, .slice A n c, .slice B m d] 26)
  have HF := Lib.hid hf
  have ZA := hz.below BB
  have NY := hy.below BB
  have HZ := Lib.hid hz
  clear hf hz hy
  have p2 := PA.c2
  go_enter Tryz.func81, Tryz.ntmps81
  go_wp2_with fail
  refine (cmpN NY (nilN _) (by omega) (Nat.zero_le _)).mono ?_
  rintro e w1 ⟨rfl, hb1⟩
  have hs1 := hb1.size
  simp only [hs_alloc] at hs1
  replace PA := PA.below hb1
  replace ZA := ZA.below hb1
  replace NY := NY.below hb1
  replace BB := bl_trans BB hb1
  clear hb1 p2
  by_cases hy0 : y = 0
  · subst hy0
    rw [cmpV_eq]
    have p1 := PA.c2
    have g2 := PA.f 2
    go_wp2_with fail
    refine (cFromD (N := w.heap.size + 1) 1 (by omega) (by omega)).mono ?_
    rintro e w2 ⟨_, rfl, hb2, D1, n1, c1, rfl, o1, l1⟩
    have hs2 := hb2.size
    replace PA := PA.below hb2
    replace ZA := ZA.below hb2
    replace BB := bl_trans BB hb2
    clear hb2 p1 g2 NY
    have p0 := PA.c0
    have p1 := PA.c1
    have p2 := PA.c2
    have g2 := PA.f 2
    go_wp2_with fail
    clear p0 p1 p2 g2
    replace PA := PA.setD D1 n1 c1
    replace BB := BB.setCell (p := ⟨w.heap.size, 2, none⟩) (Nat.le_refl _) (.slice D1 n1 c1)
    replace ZA := HZ.out.below BB
    have ND : Nm (w2.setCell ⟨w.heap.size, 2, none⟩ (.slice D1 n1 c1)) D1 n1 c1 1 1 := ⟨⟨_, (OwK.rd (o1.grown (grownBy_setCell w2 ⟨w.heap.size, 2, none⟩ (.slice D1 n1 c1)) (fun p hp e => by injection e with e; have := (OwK.lt o1 hp).1; dsimp only at e; omega))), M.val_lims 1⟩, l1⟩
    have hs4 : w.heap.size + 1 ≤ (w2.setCell ⟨w.heap.size, 2, none⟩ (.slice D1 n1 c1)).heap.size := by simp [World.setCell]; omega
    generalize w2.setCell ⟨w.heap.size, 2, none⟩ (.slice D1 n1 c1) = W2 at PA  BB ZA ND hs4 ⊢
    clear o1 l1
    refine (cLowest ⟨_, _, _, _, rfl, ZA⟩ ⟨_, _, _, rfl, ND⟩ (by omega) (by omega) (by omega)).mono ?_
    rintro e w3 ⟨u, rfl, hb3, q3⟩
    have hs3 := hb3.size
    have q3' := (q3.mono (show max k 1 ≤ k by omega)).base (N' := w.heap.size + 1) (by omega)
    replace BB := bl_trans BB hb3
    clear hb3 q3  PA ZA ND
    go_wp2_with fail
    refine (HF.out _ _ BB (by omega) (by rw [dOf_zero]; exact q3')).mono ?_
    rintro e w4 ⟨r, rfl, hb4, q4⟩
    replace BB := bl_trans BB hb4
    clear hb4 q3' HF
    go_wp2_with fail
    go_ret
    exact ⟨r, rfl, BB, q4⟩
  · have HY := Lib.hid hy0
    have hc : (cmpV y 0 == 0) = false := by rw [cmpV_gt (by omega)]; rfl
    rw [cmpV_gt (show 0 < y by omega)]
    clear hc hy0
    have p0 := PA.c0
    have p1 := PA.c1
    have p2 := PA.c2
    go_wp2_with fail
    refine (cLowest ⟨_, _, _, _, rfl, ZA⟩ ⟨_, _, _, rfl, NY⟩ (by omega) (by omega) HY.out).mono ?_
    rintro e w3 ⟨u, rfl, hb3, q3⟩
    have hs3 := hb3.size
    have q3' := (q3.mono (show max k k ≤ k by omega)).base (N' := w.heap.size + 1) (by omega)
    replace BB := bl_trans BB hb3
    clear hb3 q3 p0 p1 p2 PA ZA NY
    go_wp2_with fail
    refine (HF.out _ _ BB (by omega) (by rw [dOf_of HY.out]; exact q3')).mono ?_
    rintro e w4 ⟨r, rfl, hb4, q4⟩
    replace BB := bl_trans BB hb4
    clear hb4 q3' HF
    go_wp2_with fail
    go_ret
    exact ⟨r, rfl, BB, q4⟩

end Go.Proofs.YtbhgbilhoonopaaGreat
