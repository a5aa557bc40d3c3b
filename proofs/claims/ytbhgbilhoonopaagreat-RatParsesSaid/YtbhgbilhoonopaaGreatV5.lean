/- Contracts of the program's functions, as far as the claims ask for them (5 of 6). -/
import Derived.Test.YtbhgbilhoonopaaGreatV4
namespace Go.Proofs.YtbhgbilhoonopaaGreat
open Go.RowKit
set_option linter.unusedVariables false
set_option maxRecDepth 100000

/-- All rows of limbs stay. -/
def KeepR (w w' : World) : Prop := ∀ A n c xs, Rd w A n c xs → Rd w' A n c xs
section
variable {w w' : World} {g g' : Nat} {b b' t : Bool} {A B A' B' X Y : Option Addr} {n c m d n' c' m' d' k l x e f r s : Nat} {v : Value} {z : Int} {q : Rat} {xs ys : List Nat}
theorem Nm.kr (h : Nm w A n c x k) (r : KeepR w w') : Nm w' A n c x k := by
 obtain ⟨xs, h1, h2⟩ := h.row
 exact ⟨⟨xs, r _ _ _ _ h1, h2⟩, h.le⟩
theorem Tm.kr (h : Tm w A n c x k) (r : KeepR w w') : Tm w' A n c x k := ⟨r _ _ _ _ h.rd, h.le⟩
theorem Zm.kr (h : Zm w b A n c z k) (r : KeepR w w') : Zm w' b A n c z k := by
 obtain ⟨x, h1, h2⟩ := h.row
 exact ⟨⟨x, h1.kr r, h2⟩⟩
theorem IsM.kr (h : IsM w v z k) (r : KeepR w w') : IsM w' v z k := by
 obtain ⟨b, A, n, c, rfl, h⟩ := h
 exact ⟨b, A, n, c, rfl, h.kr r⟩
theorem IsT.kr (h : IsT w v z k) (r : KeepR w w') : IsT w' v z k := by
 obtain ⟨b, A, n, c, rfl, h, e⟩ := h
 exact ⟨b, A, n, c, rfl, h.kr r, e⟩
theorem IsQm.kr (h : IsQm w v q k) (r : KeepR w w') : IsQm w' v q k := by
 obtain ⟨b, A, n, c, B, m, d, rfl, z, y, h1, h2, h3⟩ := h
 exact ⟨b, A, n, c, B, m, d, rfl, z, y, h1.kr r, h2.kr r, h3⟩
theorem IsQt.kr (h : IsQt w v q k) (r : KeepR w w') : IsQt w' v q k := by
 obtain ⟨b, A, n, c, B, m, d, rfl, h1, h2, h3⟩ := h
 exact ⟨b, A, n, c, B, m, d, rfl, h1.kr r, h2, h3.kr r⟩
theorem Bz.set0 (h : Bz w g b A n c) : Bz (w.setCell ⟨g, 0, none⟩ (.bool b')) g b' A n c := ⟨heap_setCell_same w g 0 #[.bool b, .slice A n c] 24 (.bool b') h.row⟩
theorem Bz.set2 (h : Bz w g b A n c) : Bz ((w.setCell ⟨g, 0, none⟩ (.bool b')).setCell ⟨g, 1, none⟩ (.slice A' n' c')) g b' A' n' c' := ⟨heap_setCell_same _ g 1 #[.bool b', .slice A n c] 24 (.slice A' n' c') (h.set0 (b' := b')).row⟩
theorem RdK.storedZ (h : Rd w X k l xs) (P : Bz w g b A n c) (i : Nat) (u : Value) : Rd (w.setCell ⟨g, i, none⟩ u) X k l xs := by
 refine h.keep fun p hp hn => ?_
 obtain ⟨e, o, x, hA, hx, _, hc⟩ := h.at32 (i := 0) hn
 rw [hp] at hA
 injection hA with hA
 subst hA
 refine heap_setCell_other w ⟨g, i, none⟩ e u fun he => ?_
 dsimp only at he
 subst he
 rw [cell_of_row _ _ _ _ _ _ P.row] at hc
 rcases o with _ | _ | o <;> simp at hc
theorem kr_put2 (P : Bz w g b A n c) : KeepR w ((w.setCell ⟨g, 0, none⟩ (.bool b')).setCell ⟨g, 1, none⟩ (.slice A' n' c')) := fun _ _ _ _ h => (h.storedZ P 0 _).storedZ (P.set0 (b' := b')) 1 _
theorem kr_put3 (P : Bq w g b A n c B m d) : KeepR w (((w.setCell ⟨g, 0, none⟩ (.bool b')).setCell ⟨g, 1, none⟩ (.slice A' n' c')).setCell ⟨g, 2, none⟩ (.slice B' m' d')) := fun _ _ _ _ h => h.put3 P
theorem Bz.put2 (h : Bz w g' t X e f) (hne : g' ≠ g) : Bz ((w.setCell ⟨g, 0, none⟩ (.bool b')).setCell ⟨g, 1, none⟩ (.slice A' n' c')) g' t X e f := (h.other hne).other hne
theorem Bz.put3 (h : Bz w g' t X e f) (hne : g' ≠ g) : Bz (((w.setCell ⟨g, 0, none⟩ (.bool b')).setCell ⟨g, 1, none⟩ (.slice A' n' c')).setCell ⟨g, 2, none⟩ (.slice B' m' d')) g' t X e f := ((h.other hne).other hne).other hne
theorem Bq.put2 (h : Bq w g' t X e f Y r s) (hne : g' ≠ g) : Bq ((w.setCell ⟨g, 0, none⟩ (.bool b')).setCell ⟨g, 1, none⟩ (.slice A' n' c')) g' t X e f Y r s := (h.other hne).other hne
theorem Below.put2 {w0 : World} {N : Nat} (h : Below N w0 w) (hg : N ≤ g) : Below N w0 ((w.setCell ⟨g, 0, none⟩ (.bool b')).setCell ⟨g, 1, none⟩ (.slice A' n' c')) := (h.setCell (p := ⟨g, 0, none⟩) hg _).setCell (p := ⟨g, 1, none⟩) hg _
end

/-- A trimmed row, whosever. -/
def IsTr (w : World) (v : Value) (x k : Nat) : Prop := ∃ A n c, v = .slice A n c ∧ Tm w A n c x k
def IsTB (w : World) (v : Value) (x k : Nat) (o : Bool) : Prop := ∃ A n c, v = .tuple #[.slice A n c, .bool o] ∧ Tm w A n c x k
def IsTD (w : World) (v : Value) (x k y j : Nat) (o : Int) : Prop := ∃ A n c B m d, v = .tuple #[.slice A n c, .slice B m d, .int .i64 o] ∧ Tm w A n c x k ∧ Tm w B m d y j
section
variable {w w' : World} {v v' : Value} {x y k j : Nat} {z u : Int} {e : Ending}
theorem IsTr.below (h : IsTr w v x k) (hb : Below w.heap.size w w') : IsTr w' v x k := by
 obtain ⟨A, n, c, rfl, h⟩ := h
 exact ⟨A, n, c, rfl, h.below hb⟩
theorem sTr : Stab RBu fun v _ w => IsTr w v x k := fun _ _ _ _ _ r _ h => h.below r
theorem sTB {o : Bool} : Stab RBu fun v _ w => IsTB w v x k o := fun _ _ _ _ _ r _ h => by
 obtain ⟨A, n, c, rfl, h⟩ := h
 exact ⟨A, n, c, rfl, h.below r⟩
theorem sTD {o : Int} : Stab RBu fun v _ w => IsTD w v x k y j o := fun _ _ _ _ _ r _ h => by
 obtain ⟨A, n, c, B, m, d, rfl, h, g⟩ := h
 exact ⟨A, n, c, B, m, d, rfl, h.below r, g.below r⟩
theorem ansTr (h : GivN w x k e w') : Ans w (fun w' v => IsTr w' v x k) e w' := by
 obtain ⟨A, n, c, rfl, h, hb⟩ := h
 exact ⟨_, rfl, hb, A, n, c, rfl, h⟩
theorem rTrim (h : IsN w v x k) (hk : k ≤ 1000) : Calls Tryz.prog 50 #[v] w (Ans w fun w' v => IsTr w' v x k) := by
 obtain ⟨A, n, c, rfl, h⟩ := h
 exact (trimRN h hk).mono fun _ _ => ansTr
theorem rMul (h : IsN w v x k) (g : IsN w v' y j) (hk : k ≤ 1000) (hj : j ≤ 1000) : Calls Tryz.prog 103 #[v, v'] w (Ans w fun w' v => IsTr w' v (x * y) (k + j)) := by
 obtain ⟨A, n, c, rfl, h⟩ := h
 obtain ⟨B, m, d, rfl, g⟩ := g
 exact (mulRN h g hk hj).mono fun _ _ => ansTr
theorem rAdd (h : IsN w v x k) (g : IsN w v' y j) (hk : k ≤ 1000) (hj : j ≤ 1000) : Calls Tryz.prog 79 #[v, v'] w (Ans w fun w' v => IsTr w' v (x + y) (max k j + 1)) := by
 obtain ⟨A, n, c, rfl, h⟩ := h
 obtain ⟨B, m, d, rfl, g⟩ := g
 exact (addRN h g hk hj).mono fun _ _ => ansTr
theorem rGcd (h : IsN w v x k) (g : IsN w v' y j) (hk : k ≤ 1000) (hj : j ≤ 1000) : Calls Tryz.prog 88 #[v, v'] w (Ans w fun w' v => IsTr w' v (x.gcd y) (max k j)) := by
 obtain ⟨A, n, c, rfl, h⟩ := h
 obtain ⟨B, m, d, rfl, g⟩ := g
 exact (gcdRN h g hk hj).mono fun _ _ => ansTr
theorem rSub (h : IsN w v x k) (g : IsN w v' y j) (hk : k ≤ 1000) (hj : j ≤ 1000) (hc : y ≤ x) : Calls Tryz.prog 107 #[v, v'] w (Ans w fun w' v => IsTB w' v (x - y) k true) := by
 obtain ⟨A, n, c, rfl, h⟩ := h
 obtain ⟨B, m, d, rfl, g⟩ := g
 refine (subRN_yes h g hk hj hc).mono fun e w' ⟨A, n, c, he, h, hb⟩ => ⟨_, he, hb, A, n, c, rfl, h⟩
theorem rDiv (h : IsN w v x k) (g : IsN w v' y j) (hk : k ≤ 1000) (hj : j ≤ 1000) (hc : y ≠ 0) : Calls Tryz.prog 78 #[v, v'] w (Ans w fun w' v => IsTD w' v (x / y) k (x % y) j 0) := by
 obtain ⟨A, n, c, rfl, h⟩ := h
 obtain ⟨B, m, d, rfl, g⟩ := g
 refine (divRN h g hk hj hc).mono fun e w' ⟨A, n, c, B, m, d, he, h, g, hb⟩ => ⟨_, he, hb, A, n, c, B, m, d, rfl, h, g⟩
theorem rCmp (h : IsN w v x k) (g : IsN w v' y j) (hk : k ≤ 1000) (hj : j ≤ 1000) : Calls Tryz.prog 106 #[v, v'] w (Ans w fun _ v => v = .int .i64 (cmpV x y)) := by
 obtain ⟨A, n, c, rfl, h⟩ := h
 obtain ⟨B, m, d, rfl, g⟩ := g
 rcases Nat.lt_trichotomy x y with hc | hc | hc
 ·exact (cmpRN_lt h g hk hj hc).mono fun e w' ⟨he, hb⟩ => ⟨_, he, hb, rfl⟩
 ·exact (cmpRN_eq h g hk hj hc).mono fun e w' ⟨he, hb⟩ => ⟨_, he, hb, rfl⟩
 ·exact (cmpRN_gt h g hk hj hc).mono fun e w' ⟨he, hb⟩ => ⟨_, he, hb, rfl⟩
theorem rText (h : IsN w v x k) (hk : k ≤ 1000) : Calls Tryz.prog 86 #[v] w (Ans w fun _ v => IsS v (M.txt x)) := by
 obtain ⟨A, n, c, rfl, h⟩ := h
 obtain ⟨xs, hx, rfl⟩ := h.row
 have := h.le
 exact (textR_any A n c xs w hx (by omega)).mono fun e w' ⟨s, he, hs, hb⟩ => ⟨_, he, hb, s, rfl, hs⟩
set_option maxHeartbeats 2000000
theorem zv_neg (b : Bool) (x : Nat) : (b && decide (0 < x)) = decide (zv b x < 0) := by
 cases b
 ·rw [zv_false, Bool.false_and, decide_eq_false (by omega)]
 ·rw [zv_true]
  by_cases h : 0 < x
  ·rw [decide_eq_true h, decide_eq_true (by omega)]; rfl
  ·rw [decide_eq_false h, decide_eq_false (by omega)]; rfl
theorem lims_pos (x : Nat) : (0 < (M.lims x).length) ↔ 0 < x := by
 have := M.lims_length_le (n := x) (k := 0)
 rw [Nat.pow_zero] at this
 omega
theorem cWhole3 (h : IsM w v z k) (hk : k ≤ 1000) : Calls Tryz.prog 80 #[v] w (Ans w fun w' v => IsT w' v z k) := by
 obtain ⟨b, A, n, c, rfl, ⟨x, h, rfl⟩⟩ := h
 have BB := bl_trans (bl_alloc w (.cells #[.bool b, .slice A n c] 24)) (bl_alloc _ (.cells #[.bool false, .slice none 0 0] 24))
 have PA := (Bz.new w b A n c).alloc (.cells #[.bool false, .slice none 0 0] 24)
 have PR := Bz.new2 w (.cells #[.bool b, .slice A n c] 24) false none 0 0
 have HN := Lib.hid (h.below BB)
 clear h
 have a0 := PA.c0
 have a1 := PA.c1
 go_enter Tryz.func80, Tryz.ntmps80
 go_wp2_with fail
 refine (rTrim ⟨_, _, _, rfl, HN.out⟩ hk).mono ?_
 rintro e w1 ⟨_, rfl, hb1, A1, n1, c1, rfl, T⟩
 have hl : n1 = (M.lims x).length := T.rd.len.symm
 have hp : (0 < (n1 : Int)) ↔ 0 < x := by rw [hl, ← lims_pos x]; omega
 have HZ := Lib.hid (show (b && decide (0 < (n1 : Int))) = decide (zv b x < 0) by rw [← zv_neg b x]; congr 1; exact decide_eq_decide.2 hp)
 have hcap := T.rd.cap
 clear hl hp
 replace PA := PA.below hb1
 replace PR := PR.below hb1
 replace BB := bl_trans BB hb1
 clear hb1 HN a0 a1
 have a0 := PA.c0
 have r0 := PR.c0
 have r1 := PR.c1
 have f0 := PR.f 0
 have f1 := PR.f 1
 obtain ⟨s, hs⟩ : ∃ s, decide (zv b x < 0) = s := ⟨_, rfl⟩
 have HS := Lib.hid hs
 clear hs
 cases b
 ·have hz : false = s := by rw [← HS.out, ← HZ.out]; rfl
  subst hz
  go_wp2_with fail
  have F := T.kr (kr_put2 (b' := false) (A' := A1) (n' := n1) (c' := c1) PR)
  have PF := PR.set2 (b' := false) (A' := A1) (n' := n1) (c' := c1)
  replace BB := Below.put2 (b' := false) (A' := A1) (n' := n1) (c' := c1) (g := w.heap.size + 1) BB (by omega)
  clear a0 r0 r1 f0 f1 PA PR T
  generalize World.setCell _ ⟨w.heap.size + 1, 1, none⟩ _ = W9 at F PF BB ⊢
  have z0 := PF.c0
  have z1 := PF.c1
  exact bodyPost_ret (v := .agg #[.bool false, .slice A1 n1 c1]) (by simp [results, Tryz.results80, go_sem, z0, z1]) rfl ⟨_, rfl, BB, _, _, _, _, rfl, by rw [zv_abs]; exact F, HS.out.symm⟩
 ·have hz : decide (0 < (n1 : Int)) = s := by rw [← HS.out, ← HZ.out]; rfl
  have hd : decide (0 < n1) = s := by rw [← hz]; exact decide_eq_decide.2 (by omega)
  clear hz
  go_wp2_with fail
  have F := T.kr (kr_put2 (b' := s) (A' := A1) (n' := n1) (c' := c1) PR)
  have PF := PR.set2 (b' := s) (A' := A1) (n' := n1) (c' := c1)
  replace BB := Below.put2 (b' := s) (A' := A1) (n' := n1) (c' := c1) (g := w.heap.size + 1) BB (by omega)
  clear a0 r0 r1 f0 f1 PA PR T
  generalize World.setCell _ ⟨w.heap.size + 1, 1, none⟩ _ = W9 at F PF BB ⊢
  have z0 := PF.c0
  have z1 := PF.c1
  exact bodyPost_ret (v := .agg #[.bool s, .slice A1 n1 c1]) (by simp [results, Tryz.results80, go_sem, z0, z1]) rfl ⟨_, rfl, BB, _, _, _, _, rfl, by rw [zv_abs]; exact F, HS.out.symm⟩
end
end Go.Proofs.YtbhgbilhoonopaaGreat
namespace Go.Proofs.YtbhgbilhoonopaaGreat
open Go.RowKit
set_option linter.unusedVariables false
set_option maxRecDepth 100000

section
variable {a : Act} {w : World} {K : Act → World → Prop} {Q : Exit → Act → World → Prop} {dst : Option Tmp} {ty : TypeId} {pos : String} {af : Array Edge} {gd : Option (Nat × Bool)} {x y : Operand} {b : Bool} {A : Option Addr} {n c : Nat} {u v v' : Value}
theorem wp_bZ1 (hy : a.eval y = .slice A n c) (h : K (a.put dst (.agg #[.bool false, .slice A n c])) w) : Oper.wp Tryz.prog ⟨dst, .build 24 #[(1, y)], ty, pos, af, gd⟩ a w K Q := by
 unfold Oper.wp execOp
 simp only [List.map_toArray, List.map_cons, List.map_nil, hy]
 go_simp
 exact h
theorem wp_x30 (hx : a.eval x = .tuple #[u, v, v']) (h : K (a.put dst u) w) : Oper.wp Tryz.prog ⟨dst, .extract x 0, ty, pos, af, gd⟩ a w K Q := by
 unfold Oper.wp execOp
 simp only [hx]
 go_simp
 exact h
theorem wp_x31 (hx : a.eval x = .tuple #[u, v, v']) (h : K (a.put dst v) w) : Oper.wp Tryz.prog ⟨dst, .extract x 1, ty, pos, af, gd⟩ a w K Q := by
 unfold Oper.wp execOp
 simp only [hx]
 go_simp
 exact h
theorem wp_x32 (hx : a.eval x = .tuple #[u, v, v']) (h : K (a.put dst v') w) : Oper.wp Tryz.prog ⟨dst, .extract x 2, ty, pos, af, gd⟩ a w K Q := by
 unfold Oper.wp execOp
 simp only [hx]
 go_simp
 exact h
end
theorem cf_ref01_Trim : CallsF 50 := fun args w => by go_simp
theorem cf_ref01_Mul : CallsF 103 := fun args w => by go_simp
theorem cf_ref01_Add : CallsF 79 := fun args w => by go_simp
theorem cf_ref01_Gcd : CallsF 88 := fun args w => by go_simp
theorem cf_ref01_Sub : CallsF 107 := fun args w => by go_simp
theorem cf_ref01_Div : CallsF 78 := fun args w => by go_simp
theorem cf_ref01_Cmp : CallsF 106 := fun args w => by go_simp
theorem cf_ref01_Text : CallsF 86 := fun args w => by go_simp
theorem cf_ref03_whole : CallsF 80 := fun args w => by go_simp
theorem cf_ref03_down : CallsF 52 := fun args w => by go_simp
theorem cf_ref03_Of : CallsF 41 := fun args w => by go_simp
theorem cf_ref03_Made : CallsF 16 := fun args w => by go_simp
theorem IsQt.opened {w : World} {v : Value} {q : Rat} {k : Nat} (h : IsQt w v q k) : ∃ b A n c B m d, v = .agg #[.bool b, .slice A n c, .slice B m d] ∧ IsQt w (.agg #[.bool b, .slice A n c, .slice B m d]) q k := by
 obtain ⟨b, A, n, c, B, m, d, rfl, h⟩ := h
 exact ⟨b, A, n, c, B, m, d, rfl, ⟨b, A, n, c, B, m, d, rfl, h⟩⟩
theorem ansT {w : World} {z : Int} {k : Nat} (e : Ending) (w' : World) (h : Ans w (fun w' v => IsT w' v z k) e w') : Ans w (fun w' v => IsT w' v z k) e w' := h
theorem ansQe {w : World} {p q : Rat} {k : Nat} (hz : p = q) (e : Ending) (w' : World) (h : Ans w (fun w' v => IsQt w' v p k) e w') : Ans w (fun w' v => IsQt w' v q k) e w' := by
 rw [← hz]
 exact h
theorem zv_mul (b t : Bool) (x y : Nat) : zv (b != t) (x * y) = zv b x * zv t y := by
 cases b <;> cases t <;> simp only [zv_true, zv_false, Int.neg_mul, Int.mul_neg, Int.neg_neg, bne, beq_self_eq_true, Bool.beq_eq_decide_eq]
 all_goals rfl
theorem zv_self {b : Bool} {z : Int} (h : b = decide (z < 0)) : zv b z.natAbs = z := by
 by_cases hz : z < 0
 ·rw [h, decide_eq_true hz, zv_true]; omega
 ·rw [h, decide_eq_false hz, zv_false]; omega
theorem wp_lenR {a : Act} {w : World} {K : Act → World → Prop} {Q : Exit → Act → World → Prop} {dst : Option Tmp} {ty : TypeId} {pos : String} {af : Array Edge} {gd : Option (Nat × Bool)} {x : Operand} {A : Option Addr} {n c : Nat} (hx : a.eval x = .slice A n c) (h : K (a.put dst (.int .i64 (n : Int))) w) : Oper.wp Tryz.prog ⟨dst, .call { callee := .builtin .len, args := #[x], argTypes := #[22] }, ty, pos, af, gd⟩ a w K Q := by
 have hm := args1 hx
 unfold Oper.wp execOp
 go_simp
 exact h
theorem len_zero (x : Nat) : (((M.lims x).length : Int) == 0) = decide (x = 0) := by
 have := lims_pos x
 by_cases h : x = 0
 ·rw [decide_eq_true h, beq_iff_eq]; omega
 ·rw [decide_eq_false h, beq_eq_false_iff_ne]; omega
theorem plus_same {b : Bool} {z u : Int} (h : b = decide (z < 0)) (g : b = decide (u < 0)) : zv b (z.natAbs + u.natAbs) = z + u := by
 cases b
 ·rw [zv_false]; have := of_decide_eq_false h.symm; have := of_decide_eq_false g.symm; omega
 ·rw [zv_true]; have := of_decide_eq_true h.symm; have := of_decide_eq_true g.symm; omega
theorem plus_lt {b c : Bool} {z u : Int} (h : b = decide (z < 0)) (g : c = decide (u < 0)) (hne : b ≠ c) (hl : z.natAbs ≤ u.natAbs) : zv c (u.natAbs - z.natAbs) = z + u := by
 cases b <;> cases c
 ·exact absurd rfl hne
 ·rw [zv_true]; have := of_decide_eq_false h.symm; have := of_decide_eq_true g.symm; omega
 ·rw [zv_false]; have := of_decide_eq_true h.symm; have := of_decide_eq_false g.symm; omega
 ·exact absurd rfl hne
theorem plus_gt {b c : Bool} {z u : Int} (h : b = decide (z < 0)) (g : c = decide (u < 0)) (hne : b ≠ c) (hl : u.natAbs ≤ z.natAbs) : zv b (z.natAbs - u.natAbs) = z + u := by
 rw [plus_lt g h hne.symm hl, Int.add_comm]
theorem cmpV_neg (x y : Nat) : cmpV x y < 0 ↔ x < y := by
 rcases Nat.lt_trichotomy x y with h | h | h
 ·rw [cmpV_lt h]; omega
 ·subst h; rw [cmpV_eq]; omega
 ·rw [cmpV_gt h]; omega
theorem of_num {b c : Bool} {z u : Int} (h : b = decide (z < 0)) (g : c = decide (u < 0)) (hu : u.natAbs ≠ 0) : zv (b != c) (z.natAbs / Nat.gcd z.natAbs u.natAbs) = (Rat.divInt z u).num := by
 rw [low_num _ _ hu, of_divInt _ _ _ hu, zv_self h, zv_self g]
theorem of_den {b c : Bool} {z u : Int} (h : b = decide (z < 0)) (g : c = decide (u < 0)) (hu : u.natAbs ≠ 0) : u.natAbs / Nat.gcd z.natAbs u.natAbs = (Rat.divInt z u).den := by
 rw [low_den (b != c) z.natAbs hu, of_divInt _ _ _ hu, zv_self h, zv_self g]
theorem IsT.mono {w : World} {v : Value} {z : Int} {k j : Nat} (h : IsT w v z k) (hk : k ≤ j) : IsT w v z j := by
 obtain ⟨b, A, n, c, rfl, h, e⟩ := h
 exact ⟨b, A, n, c, rfl, ⟨h.rd, by have := h.le; omega⟩, e⟩
section
variable {w : World} {v v2 v3 v1 : Value} {z z1 z2 z3 : Int} {k k1 k2 k3 : Nat}
set_option maxHeartbeats 2000000
theorem cTimes3 (h2 : IsM w v2 z2 k2) (h3 : IsM w v3 z3 k3) (hk2 : k2 ≤ 400) (hk3 : k3 ≤ 400) : Calls Tryz.prog 53 #[v2, v3] w (Ans w fun w' v => IsT w' v (z2 * z3) (k2 + k3)) := by
 have M2 := h2
 obtain ⟨b2, A2, n2, c2, rfl, y2⟩ := h2
 obtain ⟨x2, N2, hz2⟩ := y2.row
 have HZ2 := Lib.hid hz2
 clear y2 hz2
 have M3 := h3
 obtain ⟨b3, A3, n3, c3, rfl, y3⟩ := h3
 obtain ⟨x3, N3, hz3⟩ := y3.row
 have HZ3 := Lib.hid hz3
 clear y3 hz3
 have BB := (bl_trans (bl_trans (bl_alloc w (.cells #[.bool b2, .slice A2 n2 c2] 24)) (bl_alloc _ (.cells #[.bool b3, .slice A3 n3 c3] 24))) (bl_alloc _ (.cells #[.bool false, .slice none 0 0] 24)))
 replace M2 := M2.below BB
 replace N2 := N2.below BB
 replace M3 := M3.below BB
 replace N3 := N3.below BB
 have P2 := ((Bz.new w b2 A2 n2 c2).alloc (.cells #[.bool b3, .slice A3 n3 c3] 24)).alloc (.cells #[.bool false, .slice none 0 0] 24)
 have P3 := (Bz.new (w.alloc (.cells #[.bool b2, .slice A2 n2 c2] 24)) b3 A3 n3 c3).alloc (.cells #[.bool false, .slice none 0 0] 24)
 simp only [hs_alloc] at P3
 have P4 := Bz.new ((w.alloc (.cells #[.bool b2, .slice A2 n2 c2] 24)).alloc (.cells #[.bool b3, .slice A3 n3 c3] 24)) false none 0 0
 simp only [hs_alloc] at P4
 go_enter Tryz.func53, Tryz.ntmps53
 go_upto_region 1 with (fail)
 generalize (((w.alloc (.cells #[.bool b2, .slice A2 n2 c2] 24)).alloc (.cells #[.bool b3, .slice A3 n3 c3] 24)).alloc (.cells #[.bool false, .slice none 0 0] 24)) = w0 at M2 N2 M3 N3 P2 P3 P4 BB ⊢
 refine wp_cut (by kernel_rfl) 12 ?_
 simp only [List.take_succ_cons, List.take_zero, List.drop_succ_cons, List.drop_zero]
 refine wp_cut_list (Ext := RB) (Rel := RBu) [fun v _ _ => v = .pointer (some ⟨w.heap.size, 0, none⟩), fun v _ _ => v = .bool b2, fun v _ _ => v = .pointer (some ⟨(w.heap.size + 1), 0, none⟩), fun v _ _ => v = .bool b3, fun v _ _ => v = .bool (b2 != b3), fun v _ _ => v = .pointer (some ⟨w.heap.size, 1, none⟩), fun v _ _ => v = .slice A2 n2 c2, fun v _ _ => v = .pointer (some ⟨(w.heap.size + 1), 1, none⟩), fun v _ _ => v = .slice A3 n3 c3, fun v _ w => IsTr w v (x2 * x3) (k2 + k3), fun v _ w => IsM w v (zv ((b2 != b3)) (x2 * x3)) (k2 + k3), fun v _ w => IsT w v (zv ((b2 != b3)) (x2 * x3)) (k2 + k3)] (n := 12) (by kernel_rfl) (by kernel_rfl) (by kernel_rfl) (by kernel_rfl) (by kernel_rfl) (by kernel_rfl) (by kernel_rfl) (by kernel_rfl) (by kernel_rfl) rb_refl rb_trans ⟨sC, ⟨sC, ⟨sC, ⟨sC, ⟨sC, ⟨sC, ⟨sC, ⟨sC, ⟨sC, ⟨sTr, ⟨sM, ⟨sT, trivial⟩⟩⟩⟩⟩⟩⟩⟩⟩⟩⟩⟩ ?_ ?_
 ·refine ⟨⟨⟨⟨⟨⟨⟨⟨⟨⟨⟨⟨trivial, ?_⟩, ?_⟩, ?_⟩, ?_⟩, ?_⟩, ?_⟩, ?_⟩, ?_⟩, ?_⟩, ?_⟩, ?_⟩, ?_⟩
  ·refine rs_plain rfl rfl fun a wr S => ?_
   have X := undrew S.ext
   exact wp_field0 (ev_of ((S.old 2 (by kernel_rfl)).trans rfl)) (done (by kernel_rfl) rbu_refl rfl)
  ·refine rs_plain rfl rfl fun a wr S => ?_
   have X := undrew S.ext
   obtain ⟨v0, e0, h0⟩ := S.got 0 (by kernel_rfl)
   exact wp_loadB ((ev_of (e0 5 (by kernel_rfl))).trans h0) (P2.below X) (done (by kernel_rfl) rbu_refl rfl)
  ·refine rs_plain rfl rfl fun a wr S => ?_
   have X := undrew S.ext
   exact wp_field0 (ev_of ((S.old 3 (by kernel_rfl)).trans rfl)) (done (by kernel_rfl) rbu_refl rfl)
  ·refine rs_plain rfl rfl fun a wr S => ?_
   have X := undrew S.ext
   obtain ⟨v2, e2, h2⟩ := S.got 2 (by kernel_rfl)
   exact wp_loadB ((ev_of (e2 7 (by kernel_rfl))).trans h2) (P3.below X) (done (by kernel_rfl) rbu_refl rfl)
  ·refine rs_plain rfl rfl fun a wr S => ?_
   have X := undrew S.ext
   obtain ⟨v1, e1, h1⟩ := S.got 1 (by kernel_rfl)
   obtain ⟨v3, e3, h3⟩ := S.got 3 (by kernel_rfl)
   exact wp_neB ((ev_of (e1 6 (by kernel_rfl))).trans h1) ((ev_of (e3 8 (by kernel_rfl))).trans h3) (done (by kernel_rfl) rbu_refl rfl)
  ·refine rs_plain rfl rfl fun a wr S => ?_
   have X := undrew S.ext
   exact wp_field1 (ev_of ((S.old 2 (by kernel_rfl)).trans rfl)) (done (by kernel_rfl) rbu_refl rfl)
  ·refine rs_plain rfl rfl fun a wr S => ?_
   have X := undrew S.ext
   obtain ⟨v5, e5, h5⟩ := S.got 5 (by kernel_rfl)
   exact wp_loadM ((ev_of (e5 10 (by kernel_rfl))).trans h5) (P2.below X) (done (by kernel_rfl) rbu_refl rfl)
  ·refine rs_plain rfl rfl fun a wr S => ?_
   have X := undrew S.ext
   exact wp_field1 (ev_of ((S.old 3 (by kernel_rfl)).trans rfl)) (done (by kernel_rfl) rbu_refl rfl)
  ·refine rs_plain rfl rfl fun a wr S => ?_
   have X := undrew S.ext
   obtain ⟨v7, e7, h7⟩ := S.got 7 (by kernel_rfl)
   exact wp_loadM ((ev_of (e7 12 (by kernel_rfl))).trans h7) (P3.below X) (done (by kernel_rfl) rbu_refl rfl)
  ·refine rs_plain rfl rfl fun a wr S => ?_
   have X := undrew S.ext
   obtain ⟨v6, e6, h6⟩ := S.got 6 (by kernel_rfl)
   obtain ⟨v8, e8, h8⟩ := S.got 8 (by kernel_rfl)
   exact st_call cf_ref01_Mul (args2 ((ev_of (e6 11 (by kernel_rfl))).trans h6) ((ev_of (e8 13 (by kernel_rfl))).trans h8)) (by kernel_rfl) rb (rMul ⟨_, _, _, rfl, N2.below X⟩ ⟨_, _, _, rfl, N3.below X⟩ (by omega) (by omega)) (fun _ _ _ h => h)
  ·refine rs_plain rfl rfl fun a wr S => ?_
   have X := undrew S.ext
   obtain ⟨v4, e4, h4⟩ := S.got 4 (by kernel_rfl)
   obtain ⟨v9, e9, h9⟩ := S.got 9 (by kernel_rfl)
   obtain ⟨AA, nn, cc, hvv, TT⟩ := (show IsTr wr _ (x2 * x3) (k2 + k3) from h9)
   exact wp_bZ ((ev_of (e4 9 (by kernel_rfl))).trans h4) ((ev_of (e9 14 (by kernel_rfl))).trans hvv) (done (by kernel_rfl) rbu_refl ⟨_, _, _, _, rfl, ⟨⟨_, TT.nm, rfl⟩⟩⟩)
  ·refine rs_plain rfl rfl fun a wr S => ?_
   have X := undrew S.ext
   obtain ⟨v10, e10, h10⟩ := S.got 10 (by kernel_rfl)
   exact st_call cf_ref03_whole (args1 (ev_of (e10 15 (by kernel_rfl)))) (by kernel_rfl) rb (cWhole3 (show IsM _ _ _ _ from h10) (by omega)) (fun _ _ _ h => h)
 ·intro fw1 w1 hR hv hap
  clear hap
  replace hR := undrew hR
  have f0 : fw1 0 = .pointer (some ⟨w.heap.size, 0, none⟩) := (hvc (hv 0 (by omega))).elim fun _ h => h
  have f1 : fw1 1 = .bool b2 := (hvc (hv 1 (by omega))).elim fun _ h => h
  have f2 : fw1 2 = .pointer (some ⟨(w.heap.size + 1), 0, none⟩) := (hvc (hv 2 (by omega))).elim fun _ h => h
  have f3 : fw1 3 = .bool b3 := (hvc (hv 3 (by omega))).elim fun _ h => h
  have f4 : fw1 4 = .bool (b2 != b3) := (hvc (hv 4 (by omega))).elim fun _ h => h
  have f5 : fw1 5 = .pointer (some ⟨w.heap.size, 1, none⟩) := (hvc (hv 5 (by omega))).elim fun _ h => h
  have f6 : fw1 6 = .slice A2 n2 c2 := (hvc (hv 6 (by omega))).elim fun _ h => h
  have f7 : fw1 7 = .pointer (some ⟨(w.heap.size + 1), 1, none⟩) := (hvc (hv 7 (by omega))).elim fun _ h => h
  have f8 : fw1 8 = .slice A3 n3 c3 := (hvc (hv 8 (by omega))).elim fun _ h => h
  obtain ⟨bx1x11, Ax1x11, nx1x11, cx1x11, f11, Tx1x11, sx1x11⟩ := (show IsT w1 _ (zv ((b2 != b3)) (x2 * x3)) (k2 + k3) from (hvc (hv 11 (by omega))).elim fun _ h => h)
  simp only [putFn, Act.put, List.setIfInBounds_toArray, List.set_cons_zero, List.set_cons_succ, f0, f1, f2, f3, f4, f5, f6, f7, f8, f11]
  replace M2 := M2.below hR
  replace N2 := N2.below hR
  replace M3 := M3.below hR
  replace N3 := N3.below hR
  replace P2 := P2.below hR
  replace P3 := P3.below hR
  replace P4 := P4.below hR
  replace BB := bl_trans BB hR
  clear hR hv
  have Vx1x11 : IsT w1 (.agg #[.bool bx1x11, .slice Ax1x11 nx1x11 cx1x11]) (zv ((b2 != b3)) (x2 * x3)) (k2 + k3) := ⟨_, _, _, _, rfl, Tx1x11, sx1x11⟩
  have Nx1x11 := Tx1x11.nm
  have Sx1x11 := Lib.hid sx1x11
  clear sx1x11
  have r40 := P4.c0
  have t40 := P4.f 0
  have r41 := P4.c1
  have t41 := P4.f 1
  go_wp2_with fail
  clear r40 t40 r41 t41
  have KR := kr_put2 (b' := bx1x11) (A' := Ax1x11) (n' := nx1x11) (c' := cx1x11) P4
  replace M2 := M2.kr KR
  replace N2 := N2.kr KR
  replace M3 := M3.kr KR
  replace N3 := N3.kr KR
  replace Vx1x11 := Vx1x11.kr KR
  replace Nx1x11 := Nx1x11.kr KR
  replace Tx1x11 := Tx1x11.kr KR
  replace P2 := P2.put2 (g := (w.heap.size + 1 + 1)) (b' := bx1x11) (A' := Ax1x11) (n' := nx1x11) (c' := cx1x11) (by omega)
  replace P3 := P3.put2 (g := (w.heap.size + 1 + 1)) (b' := bx1x11) (A' := Ax1x11) (n' := nx1x11) (c' := cx1x11) (by omega)
  replace BB := Below.put2 (g := (w.heap.size + 1 + 1)) (b' := bx1x11) (A' := Ax1x11) (n' := nx1x11) (c' := cx1x11) BB (by omega)
  replace P4 := P4.set2 (b' := bx1x11) (A' := Ax1x11) (n' := nx1x11) (c' := cx1x11)
  clear KR
  generalize World.setCell _ ⟨w.heap.size + 1 + 1, 1, none⟩ _ = w2 at M2 N2 M3 N3 Vx1x11 Nx1x11 Tx1x11 P2 P3 P4 BB ⊢
  have rc0 := P4.c0
  have rc1 := P4.c1
  exact bodyPost_ret (v := .agg #[.bool bx1x11, .slice Ax1x11 nx1x11 cx1x11]) (by simp [results, Tryz.results53, go_sem, rc0, rc1]) rfl ⟨_, rfl, BB, by rw [zv_mul, HZ2.out, HZ3.out] at Vx1x11; exact Vx1x11⟩
theorem cPlus3 (h2 : IsM w v2 z2 k2) (h3 : IsM w v3 z3 k3) (hk2 : k2 ≤ 800) (hk3 : k3 ≤ 800) : Calls Tryz.prog 63 #[v2, v3] w (Ans w fun w' v => IsT w' v (z2 + z3) (max k2 k3 + 1)) := by
 have M2 := h2
 obtain ⟨b2, A2, n2, c2, rfl, y2⟩ := h2
 obtain ⟨x2, N2, hz2⟩ := y2.row
 have HZ2 := Lib.hid hz2
 clear y2 hz2
 have M3 := h3
 obtain ⟨b3, A3, n3, c3, rfl, y3⟩ := h3
 obtain ⟨x3, N3, hz3⟩ := y3.row
 have HZ3 := Lib.hid hz3
 clear y3 hz3
 have BB := (bl_trans (bl_trans (bl_alloc w (.cells #[.bool b2, .slice A2 n2 c2] 24)) (bl_alloc _ (.cells #[.bool b3, .slice A3 n3 c3] 24))) (bl_alloc _ (.cells #[.bool false, .slice none 0 0] 24)))
 replace M2 := M2.below BB
 replace N2 := N2.below BB
 replace M3 := M3.below BB
 replace N3 := N3.below BB
 have P2 := ((Bz.new w b2 A2 n2 c2).alloc (.cells #[.bool b3, .slice A3 n3 c3] 24)).alloc (.cells #[.bool false, .slice none 0 0] 24)
 have P3 := (Bz.new (w.alloc (.cells #[.bool b2, .slice A2 n2 c2] 24)) b3 A3 n3 c3).alloc (.cells #[.bool false, .slice none 0 0] 24)
 simp only [hs_alloc] at P3
 have P4 := Bz.new ((w.alloc (.cells #[.bool b2, .slice A2 n2 c2] 24)).alloc (.cells #[.bool b3, .slice A3 n3 c3] 24)) false none 0 0
 simp only [hs_alloc] at P4
 go_enter Tryz.func63, Tryz.ntmps63
 go_upto_region 1 with (fail)
 generalize (((w.alloc (.cells #[.bool b2, .slice A2 n2 c2] 24)).alloc (.cells #[.bool b3, .slice A3 n3 c3] 24)).alloc (.cells #[.bool false, .slice none 0 0] 24)) = w0 at M2 N2 M3 N3 P2 P3 P4 BB ⊢
 refine wp_seq 2 ?_
 simp only [List.take_succ_cons, List.take_zero, List.drop_succ_cons, List.drop_zero]
 refine wp_seq_list (Ext := RB) (Rel := RBu) [fun v _ _ => v = .agg #[.bool b2, .slice A2 n2 c2], fun v _ w => IsT w v (z2) k2] (n := 2) (by kernel_rfl) (by kernel_rfl) (by kernel_rfl) (by kernel_rfl) (by kernel_rfl) (by kernel_rfl) (by kernel_rfl) rb_refl rb_trans ⟨sC, ⟨sT, trivial⟩⟩ ?_ ?_
 ·refine ⟨⟨trivial, ?_⟩, ?_⟩
  ·refine rs_plain rfl rfl fun a wr S => ?_
   have X := rbX S.ext
   exact wp_load (ev_of ((S.old 2 (by kernel_rfl)).trans rfl)) (P2.below X) (done (by kernel_rfl) rbu_refl rfl)
  ·refine rs_plain rfl rfl fun a wr S => ?_
   have X := rbX S.ext
   obtain ⟨v0, e0, h0⟩ := S.got 0 (by kernel_rfl)
   exact st_call cf_ref03_whole (args1 ((ev_of (e0 9 (by kernel_rfl))).trans h0)) (by kernel_rfl) rb (cWhole3 (show IsM _ _ _ _ from (M2.below X)) (by omega)) (fun _ _ _ h => h)
 ·intro fw1 w1 hR hv hap
  clear hap
  replace hR := rbX hR
  have f0 : fw1 0 = .agg #[.bool b2, .slice A2 n2 c2] := (hvc (hv 0 (by omega))).elim fun _ h => h
  obtain ⟨bx1x1, Ax1x1, nx1x1, cx1x1, f1, Tx1x1, sx1x1⟩ := (show IsT w1 _ (z2) k2 from (hvc (hv 1 (by omega))).elim fun _ h => h)
  simp only [putFn, Act.put, List.setIfInBounds_toArray, List.set_cons_zero, List.set_cons_succ, f0, f1]
  replace M2 := M2.below hR
  replace N2 := N2.below hR
  replace M3 := M3.below hR
  replace N3 := N3.below hR
  replace P2 := P2.below hR
  replace P3 := P3.below hR
  replace P4 := P4.below hR
  replace BB := bl_trans BB hR
  clear hR hv
  have Vx1x1 : IsT w1 (.agg #[.bool bx1x1, .slice Ax1x1 nx1x1 cx1x1]) (z2) k2 := ⟨_, _, _, _, rfl, Tx1x1, sx1x1⟩
  have Nx1x1 := Tx1x1.nm
  have Sx1x1 := Lib.hid sx1x1
  clear sx1x1
  have r20 := P2.c0
  have t20 := P2.f 0
  have r21 := P2.c1
  have t21 := P2.f 1
  go_upto_region 2 with (fail)
  clear r20 t20 r21 t21
  have KR := kr_put2 (b' := bx1x1) (A' := Ax1x1) (n' := nx1x1) (c' := cx1x1) P2
  replace M2 := M2.kr KR
  replace N2 := N2.kr KR
  replace M3 := M3.kr KR
  replace N3 := N3.kr KR
  replace Vx1x1 := Vx1x1.kr KR
  replace Nx1x1 := Nx1x1.kr KR
  replace Tx1x1 := Tx1x1.kr KR
  replace P3 := P3.put2 (g := w.heap.size) (b' := bx1x1) (A' := Ax1x1) (n' := nx1x1) (c' := cx1x1) (by omega)
  replace P4 := P4.put2 (g := w.heap.size) (b' := bx1x1) (A' := Ax1x1) (n' := nx1x1) (c' := cx1x1) (by omega)
  replace BB := Below.put2 (g := w.heap.size) (b' := bx1x1) (A' := Ax1x1) (n' := nx1x1) (c' := cx1x1) BB (by omega)
  replace P2 := P2.set2 (b' := bx1x1) (A' := Ax1x1) (n' := nx1x1) (c' := cx1x1)
  clear KR
  generalize World.setCell _ ⟨w.heap.size, 1, none⟩ _ = w2 at M2 N2 M3 N3 Vx1x1 Nx1x1 Tx1x1 P2 P3 P4 BB ⊢
  refine wp_seq 2 ?_
  simp only [List.take_succ_cons, List.take_zero, List.drop_succ_cons, List.drop_zero]
  refine wp_seq_list (Ext := RB) (Rel := RBu) [fun v _ _ => v = .agg #[.bool b3, .slice A3 n3 c3], fun v _ w => IsT w v (z3) k3] (n := 2) (by kernel_rfl) (by kernel_rfl) (by kernel_rfl) (by kernel_rfl) (by kernel_rfl) (by kernel_rfl) (by kernel_rfl) rb_refl rb_trans ⟨sC, ⟨sT, trivial⟩⟩ ?_ ?_
  ·refine ⟨⟨trivial, ?_⟩, ?_⟩
   ·refine rs_plain rfl rfl fun a wr S => ?_
    have X := rbX S.ext
    exact wp_load (ev_of ((S.old 3 (by kernel_rfl)).trans rfl)) (P3.below X) (done (by kernel_rfl) rbu_refl rfl)
   ·refine rs_plain rfl rfl fun a wr S => ?_
    have X := rbX S.ext
    obtain ⟨v0, e0, h0⟩ := S.got 0 (by kernel_rfl)
    exact st_call cf_ref03_whole (args1 ((ev_of (e0 11 (by kernel_rfl))).trans h0)) (by kernel_rfl) rb (cWhole3 (show IsM _ _ _ _ from (M3.below X)) (by omega)) (fun _ _ _ h => h)
  ·intro fw3 w3 hR hv hap
   clear hap
   replace hR := rbX hR
   have f0 : fw3 0 = .agg #[.bool b3, .slice A3 n3 c3] := (hvc (hv 0 (by omega))).elim fun _ h => h
   obtain ⟨bx2x1, Ax2x1, nx2x1, cx2x1, f1, Tx2x1, sx2x1⟩ := (show IsT w3 _ (z3) k3 from (hvc (hv 1 (by omega))).elim fun _ h => h)
   simp only [putFn, Act.put, List.setIfInBounds_toArray, List.set_cons_zero, List.set_cons_succ, f0, f1]
   replace M2 := M2.below hR
   replace N2 := N2.below hR
   replace M3 := M3.below hR
   replace N3 := N3.below hR
   replace Vx1x1 := Vx1x1.below hR
   replace Nx1x1 := Nx1x1.below hR
   replace Tx1x1 := Tx1x1.below hR
   replace P2 := P2.below hR
   replace P3 := P3.below hR
   replace P4 := P4.below hR
   replace BB := bl_trans BB hR
   clear hR hv
   have Vx2x1 : IsT w3 (.agg #[.bool bx2x1, .slice Ax2x1 nx2x1 cx2x1]) (z3) k3 := ⟨_, _, _, _, rfl, Tx2x1, sx2x1⟩
   have Nx2x1 := Tx2x1.nm
   have Sx2x1 := Lib.hid sx2x1
   clear sx2x1
   have r30 := P3.c0
   have t30 := P3.f 0
   have r31 := P3.c1
   have t31 := P3.f 1
   go_upto_region 3 with (fail)
   clear r30 t30 r31 t31
   have KR := kr_put2 (b' := bx2x1) (A' := Ax2x1) (n' := nx2x1) (c' := cx2x1) P3
   replace M2 := M2.kr KR
   replace N2 := N2.kr KR
   replace M3 := M3.kr KR
   replace N3 := N3.kr KR
   replace Vx1x1 := Vx1x1.kr KR
   replace Nx1x1 := Nx1x1.kr KR
   replace Tx1x1 := Tx1x1.kr KR
   replace Vx2x1 := Vx2x1.kr KR
   replace Nx2x1 := Nx2x1.kr KR
   replace Tx2x1 := Tx2x1.kr KR
   replace P2 := P2.put2 (g := (w.heap.size + 1)) (b' := bx2x1) (A' := Ax2x1) (n' := nx2x1) (c' := cx2x1) (by omega)
   replace P4 := P4.put2 (g := (w.heap.size + 1)) (b' := bx2x1) (A' := Ax2x1) (n' := nx2x1) (c' := cx2x1) (by omega)
   replace BB := Below.put2 (g := (w.heap.size + 1)) (b' := bx2x1) (A' := Ax2x1) (n' := nx2x1) (c' := cx2x1) BB (by omega)
   replace P3 := P3.set2 (b' := bx2x1) (A' := Ax2x1) (n' := nx2x1) (c' := cx2x1)
   clear KR
   generalize World.setCell _ ⟨w.heap.size + 1, 1, none⟩ _ = w4 at M2 N2 M3 N3 Vx1x1 Nx1x1 Tx1x1 Vx2x1 Nx2x1 Tx2x1 P2 P3 P4 BB ⊢
   cases bx1x1 <;> cases bx2x1
   ·skip
    refine wp_seq 5 ?_
    simp only [List.take_succ_cons, List.take_zero, List.drop_succ_cons, List.drop_zero]
    refine wp_seq_list (Ext := RB) (Rel := RBu) [fun v _ _ => v = .pointer (some ⟨w.heap.size, 0, none⟩), fun v _ _ => v = .bool false, fun v _ _ => v = .pointer (some ⟨(w.heap.size + 1), 0, none⟩), fun v _ _ => v = .bool false, fun v _ _ => v = .bool true] (n := 5) (by kernel_rfl) (by kernel_rfl) (by kernel_rfl) (by kernel_rfl) (by kernel_rfl) (by kernel_rfl) (by kernel_rfl) rb_refl rb_trans ⟨sC, ⟨sC, ⟨sC, ⟨sC, ⟨sC, trivial⟩⟩⟩⟩⟩ ?_ ?_
    ·refine ⟨⟨⟨⟨⟨trivial, ?_⟩, ?_⟩, ?_⟩, ?_⟩, ?_⟩
     ·refine rs_plain rfl rfl fun a wr S => ?_
      have X := rbX S.ext
      exact wp_field0 (ev_of ((S.old 2 (by kernel_rfl)).trans rfl)) (done (by kernel_rfl) rbu_refl rfl)
     ·refine rs_plain rfl rfl fun a wr S => ?_
      have X := rbX S.ext
      obtain ⟨v0, e0, h0⟩ := S.got 0 (by kernel_rfl)
      exact wp_loadB ((ev_of (e0 13 (by kernel_rfl))).trans h0) (P2.below X) (done (by kernel_rfl) rbu_refl rfl)
     ·refine rs_plain rfl rfl fun a wr S => ?_
      have X := rbX S.ext
      exact wp_field0 (ev_of ((S.old 3 (by kernel_rfl)).trans rfl)) (done (by kernel_rfl) rbu_refl rfl)
     ·refine rs_plain rfl rfl fun a wr S => ?_
      have X := rbX S.ext
      obtain ⟨v2, e2, h2⟩ := S.got 2 (by kernel_rfl)
      exact wp_loadB ((ev_of (e2 15 (by kernel_rfl))).trans h2) (P3.below X) (done (by kernel_rfl) rbu_refl rfl)
     ·refine rs_plain rfl rfl fun a wr S => ?_
      have X := rbX S.ext
      obtain ⟨v1, e1, h1⟩ := S.got 1 (by kernel_rfl)
      obtain ⟨v3, e3, h3⟩ := S.got 3 (by kernel_rfl)
      exact wp_eqB ((ev_of (e1 14 (by kernel_rfl))).trans h1) ((ev_of (e3 16 (by kernel_rfl))).trans h3) (done (by kernel_rfl) rbu_refl (congrArg Value.bool (by decide)))
    ·intro fw5 w5 hR hv hap
     clear hap
     replace hR := rbX hR
     have f0 : fw5 0 = .pointer (some ⟨w.heap.size, 0, none⟩) := (hvc (hv 0 (by omega))).elim fun _ h => h
     have f1 : fw5 1 = .bool false := (hvc (hv 1 (by omega))).elim fun _ h => h
     have f2 : fw5 2 = .pointer (some ⟨(w.heap.size + 1), 0, none⟩) := (hvc (hv 2 (by omega))).elim fun _ h => h
     have f3 : fw5 3 = .bool false := (hvc (hv 3 (by omega))).elim fun _ h => h
     have f4 : fw5 4 = .bool true := (hvc (hv 4 (by omega))).elim fun _ h => h
     simp only [putFn, Act.put, List.setIfInBounds_toArray, List.set_cons_zero, List.set_cons_succ, f0, f1, f2, f3, f4]
     replace M2 := M2.below hR
     replace N2 := N2.below hR
     replace M3 := M3.below hR
     replace N3 := N3.below hR
     replace Vx1x1 := Vx1x1.below hR
     replace Nx1x1 := Nx1x1.below hR
     replace Tx1x1 := Tx1x1.below hR
     replace Vx2x1 := Vx2x1.below hR
     replace Nx2x1 := Nx2x1.below hR
     replace Tx2x1 := Tx2x1.below hR
     replace P2 := P2.below hR
     replace P3 := P3.below hR
     replace P4 := P4.below hR
     replace BB := bl_trans BB hR
     clear hR hv
     go_upto_region 4 with (fail)
     refine wp_cut (by kernel_rfl) 9 ?_
     simp only [List.take_succ_cons, List.take_zero, List.drop_succ_cons, List.drop_zero]
     refine wp_cut_list (Ext := RB) (Rel := RBu) [fun v _ _ => v = .pointer (some ⟨w.heap.size, 0, none⟩), fun v _ _ => v = .bool false, fun v _ _ => v = .pointer (some ⟨w.heap.size, 1, none⟩), fun v _ _ => v = .slice Ax1x1 nx1x1 cx1x1, fun v _ _ => v = .pointer (some ⟨(w.heap.size + 1), 1, none⟩), fun v _ _ => v = .slice Ax2x1 nx2x1 cx2x1, fun v _ w => IsTr w v (z2.natAbs + z3.natAbs) ((max k2 k3) + 1), fun v _ w => IsM w v (zv false (z2.natAbs + z3.natAbs)) ((max k2 k3) + 1), fun v _ w => IsT w v (zv false (z2.natAbs + z3.natAbs)) ((max k2 k3) + 1)] (n := 9) (by kernel_rfl) (by kernel_rfl) (by kernel_rfl) (by kernel_rfl) (by kernel_rfl) (by kernel_rfl) (by kernel_rfl) (by kernel_rfl) (by kernel_rfl) rb_refl rb_trans ⟨sC, ⟨sC, ⟨sC, ⟨sC, ⟨sC, ⟨sC, ⟨sTr, ⟨sM, ⟨sT, trivial⟩⟩⟩⟩⟩⟩⟩⟩⟩ ?_ ?_
     ·refine ⟨⟨⟨⟨⟨⟨⟨⟨⟨trivial, ?_⟩, ?_⟩, ?_⟩, ?_⟩, ?_⟩, ?_⟩, ?_⟩, ?_⟩, ?_⟩
      ·refine rs_plain rfl rfl fun a wr S => ?_
       have X := undrew S.ext
       exact wp_field0 (ev_of ((S.old 2 (by kernel_rfl)).trans rfl)) (done (by kernel_rfl) rbu_refl rfl)
      ·refine rs_plain rfl rfl fun a wr S => ?_
       have X := undrew S.ext
       obtain ⟨v0, e0, h0⟩ := S.got 0 (by kernel_rfl)
       exact wp_loadB ((ev_of (e0 18 (by kernel_rfl))).trans h0) (P2.below X) (done (by kernel_rfl) rbu_refl rfl)
      ·refine rs_plain rfl rfl fun a wr S => ?_
       have X := undrew S.ext
       exact wp_field1 (ev_of ((S.old 2 (by kernel_rfl)).trans rfl)) (done (by kernel_rfl) rbu_refl rfl)
      ·refine rs_plain rfl rfl fun a wr S => ?_
       have X := undrew S.ext
       obtain ⟨v2, e2, h2⟩ := S.got 2 (by kernel_rfl)
       exact wp_loadM ((ev_of (e2 20 (by kernel_rfl))).trans h2) (P2.below X) (done (by kernel_rfl) rbu_refl rfl)
      ·refine rs_plain rfl rfl fun a wr S => ?_
       have X := undrew S.ext
       exact wp_field1 (ev_of ((S.old 3 (by kernel_rfl)).trans rfl)) (done (by kernel_rfl) rbu_refl rfl)
      ·refine rs_plain rfl rfl fun a wr S => ?_
       have X := undrew S.ext
       obtain ⟨v4, e4, h4⟩ := S.got 4 (by kernel_rfl)
       exact wp_loadM ((ev_of (e4 22 (by kernel_rfl))).trans h4) (P3.below X) (done (by kernel_rfl) rbu_refl rfl)
      ·refine rs_plain rfl rfl fun a wr S => ?_
       have X := undrew S.ext
       obtain ⟨v3, e3, h3⟩ := S.got 3 (by kernel_rfl)
       obtain ⟨v5, e5, h5⟩ := S.got 5 (by kernel_rfl)
       exact st_call cf_ref01_Add (args2 ((ev_of (e3 21 (by kernel_rfl))).trans h3) ((ev_of (e5 23 (by kernel_rfl))).trans h5)) (by kernel_rfl) rb (rAdd ⟨_, _, _, rfl, Nx1x1.below X⟩ ⟨_, _, _, rfl, Nx2x1.below X⟩ (by omega) (by omega)) (fun _ _ _ h => h)
      ·refine rs_plain rfl rfl fun a wr S => ?_
       have X := undrew S.ext
       obtain ⟨v1, e1, h1⟩ := S.got 1 (by kernel_rfl)
       obtain ⟨v6, e6, h6⟩ := S.got 6 (by kernel_rfl)
       obtain ⟨AA, nn, cc, hvv, TT⟩ := (show IsTr wr _ (z2.natAbs + z3.natAbs) ((max k2 k3) + 1) from h6)
       exact wp_bZ ((ev_of (e1 19 (by kernel_rfl))).trans h1) ((ev_of (e6 24 (by kernel_rfl))).trans hvv) (done (by kernel_rfl) rbu_refl ⟨_, _, _, _, rfl, ⟨⟨_, TT.nm, rfl⟩⟩⟩)
      ·refine rs_plain rfl rfl fun a wr S => ?_
       have X := undrew S.ext
       obtain ⟨v7, e7, h7⟩ := S.got 7 (by kernel_rfl)
       exact st_call cf_ref03_whole (args1 (ev_of (e7 25 (by kernel_rfl)))) (by kernel_rfl) rb (cWhole3 (show IsM _ _ _ _ from h7) (by omega)) (fun _ _ _ h => h)
     ·intro fw6 w6 hR hv hap
      clear hap
      replace hR := undrew hR
      have f0 : fw6 0 = .pointer (some ⟨w.heap.size, 0, none⟩) := (hvc (hv 0 (by omega))).elim fun _ h => h
      have f1 : fw6 1 = .bool false := (hvc (hv 1 (by omega))).elim fun _ h => h
      have f2 : fw6 2 = .pointer (some ⟨w.heap.size, 1, none⟩) := (hvc (hv 2 (by omega))).elim fun _ h => h
      have f3 : fw6 3 = .slice Ax1x1 nx1x1 cx1x1 := (hvc (hv 3 (by omega))).elim fun _ h => h
      have f4 : fw6 4 = .pointer (some ⟨(w.heap.size + 1), 1, none⟩) := (hvc (hv 4 (by omega))).elim fun _ h => h
      have f5 : fw6 5 = .slice Ax2x1 nx2x1 cx2x1 := (hvc (hv 5 (by omega))).elim fun _ h => h
      obtain ⟨bx4x8, Ax4x8, nx4x8, cx4x8, f8, Tx4x8, sx4x8⟩ := (show IsT w6 _ (zv false (z2.natAbs + z3.natAbs)) ((max k2 k3) + 1) from (hvc (hv 8 (by omega))).elim fun _ h => h)
      simp only [putFn, Act.put, List.setIfInBounds_toArray, List.set_cons_zero, List.set_cons_succ, f0, f1, f2, f3, f4, f5, f8]
      replace M2 := M2.below hR
      replace N2 := N2.below hR
      replace M3 := M3.below hR
      replace N3 := N3.below hR
      replace Vx1x1 := Vx1x1.below hR
      replace Nx1x1 := Nx1x1.below hR
      replace Tx1x1 := Tx1x1.below hR
      replace Vx2x1 := Vx2x1.below hR
      replace Nx2x1 := Nx2x1.below hR
      replace Tx2x1 := Tx2x1.below hR
      replace P2 := P2.below hR
      replace P3 := P3.below hR
      replace P4 := P4.below hR
      replace BB := bl_trans BB hR
      clear hR hv
      have Vx4x8 : IsT w6 (.agg #[.bool bx4x8, .slice Ax4x8 nx4x8 cx4x8]) (zv false (z2.natAbs + z3.natAbs)) ((max k2 k3) + 1) := ⟨_, _, _, _, rfl, Tx4x8, sx4x8⟩
      have Nx4x8 := Tx4x8.nm
      have Sx4x8 := Lib.hid sx4x8
      clear sx4x8
      have r40 := P4.c0
      have t40 := P4.f 0
      have r41 := P4.c1
      have t41 := P4.f 1
      go_wp2_with fail
      clear r40 t40 r41 t41
      have KR := kr_put2 (b' := bx4x8) (A' := Ax4x8) (n' := nx4x8) (c' := cx4x8) P4
      replace M2 := M2.kr KR
      replace N2 := N2.kr KR
      replace M3 := M3.kr KR
      replace N3 := N3.kr KR
      replace Vx1x1 := Vx1x1.kr KR
      replace Nx1x1 := Nx1x1.kr KR
      replace Tx1x1 := Tx1x1.kr KR
      replace Vx2x1 := Vx2x1.kr KR
      replace Nx2x1 := Nx2x1.kr KR
      replace Tx2x1 := Tx2x1.kr KR
      replace Vx4x8 := Vx4x8.kr KR
      replace Nx4x8 := Nx4x8.kr KR
      replace Tx4x8 := Tx4x8.kr KR
      replace P2 := P2.put2 (g := (w.heap.size + 1 + 1)) (b' := bx4x8) (A' := Ax4x8) (n' := nx4x8) (c' := cx4x8) (by omega)
      replace P3 := P3.put2 (g := (w.heap.size + 1 + 1)) (b' := bx4x8) (A' := Ax4x8) (n' := nx4x8) (c' := cx4x8) (by omega)
      replace BB := Below.put2 (g := (w.heap.size + 1 + 1)) (b' := bx4x8) (A' := Ax4x8) (n' := nx4x8) (c' := cx4x8) BB (by omega)
      replace P4 := P4.set2 (b' := bx4x8) (A' := Ax4x8) (n' := nx4x8) (c' := cx4x8)
      clear KR
      generalize World.setCell _ ⟨w.heap.size + 1 + 1, 1, none⟩ _ = w7 at M2 N2 M3 N3 Vx1x1 Nx1x1 Tx1x1 Vx2x1 Nx2x1 Tx2x1 Vx4x8 Nx4x8 Tx4x8 P2 P3 P4 BB ⊢
      have rc0 := P4.c0
      have rc1 := P4.c1
      exact bodyPost_ret (v := .agg #[.bool bx4x8, .slice Ax4x8 nx4x8 cx4x8]) (by simp [results, Tryz.results63, go_sem, rc0, rc1]) rfl ⟨_, rfl, BB, by rw [plus_same Sx1x1.out Sx2x1.out] at Vx4x8; exact Vx4x8⟩
   ·skip
    refine wp_seq 5 ?_
    simp only [List.take_succ_cons, List.take_zero, List.drop_succ_cons, List.drop_zero]
    refine wp_seq_list (Ext := RB) (Rel := RBu) [fun v _ _ => v = .pointer (some ⟨w.heap.size, 0, none⟩), fun v _ _ => v = .bool false, fun v _ _ => v = .pointer (some ⟨(w.heap.size + 1), 0, none⟩), fun v _ _ => v = .bool true, fun v _ _ => v = .bool false] (n := 5) (by kernel_rfl) (by kernel_rfl) (by kernel_rfl) (by kernel_rfl) (by kernel_rfl) (by kernel_rfl) (by kernel_rfl) rb_refl rb_trans ⟨sC, ⟨sC, ⟨sC, ⟨sC, ⟨sC, trivial⟩⟩⟩⟩⟩ ?_ ?_
    ·refine ⟨⟨⟨⟨⟨trivial, ?_⟩, ?_⟩, ?_⟩, ?_⟩, ?_⟩
     ·refine rs_plain rfl rfl fun a wr S => ?_
      have X := rbX S.ext
      exact wp_field0 (ev_of ((S.old 2 (by kernel_rfl)).trans rfl)) (done (by kernel_rfl) rbu_refl rfl)
     ·refine rs_plain rfl rfl fun a wr S => ?_
      have X := rbX S.ext
      obtain ⟨v0, e0, h0⟩ := S.got 0 (by kernel_rfl)
      exact wp_loadB ((ev_of (e0 13 (by kernel_rfl))).trans h0) (P2.below X) (done (by kernel_rfl) rbu_refl rfl)
     ·refine rs_plain rfl rfl fun a wr S => ?_
      have X := rbX S.ext
      exact wp_field0 (ev_of ((S.old 3 (by kernel_rfl)).trans rfl)) (done (by kernel_rfl) rbu_refl rfl)
     ·refine rs_plain rfl rfl fun a wr S => ?_
      have X := rbX S.ext
      obtain ⟨v2, e2, h2⟩ := S.got 2 (by kernel_rfl)
      exact wp_loadB ((ev_of (e2 15 (by kernel_rfl))).trans h2) (P3.below X) (done (by kernel_rfl) rbu_refl rfl)
     ·refine rs_plain rfl rfl fun a wr S => ?_
      have X := rbX S.ext
      obtain ⟨v1, e1, h1⟩ := S.got 1 (by kernel_rfl)
      obtain ⟨v3, e3, h3⟩ := S.got 3 (by kernel_rfl)
      exact wp_eqB ((ev_of (e1 14 (by kernel_rfl))).trans h1) ((ev_of (e3 16 (by kernel_rfl))).trans h3) (done (by kernel_rfl) rbu_refl (congrArg Value.bool (by decide)))
    ·intro fw8 w8 hR hv hap
     clear hap
     replace hR := rbX hR
     have f0 : fw8 0 = .pointer (some ⟨w.heap.size, 0, none⟩) := (hvc (hv 0 (by omega))).elim fun _ h => h
     have f1 : fw8 1 = .bool false := (hvc (hv 1 (by omega))).elim fun _ h => h
     have f2 : fw8 2 = .pointer (some ⟨(w.heap.size + 1), 0, none⟩) := (hvc (hv 2 (by omega))).elim fun _ h => h
     have f3 : fw8 3 = .bool true := (hvc (hv 3 (by omega))).elim fun _ h => h
     have f4 : fw8 4 = .bool false := (hvc (hv 4 (by omega))).elim fun _ h => h
     simp only [putFn, Act.put, List.setIfInBounds_toArray, List.set_cons_zero, List.set_cons_succ, f0, f1, f2, f3, f4]
     replace M2 := M2.below hR
     replace N2 := N2.below hR
     replace M3 := M3.below hR
     replace N3 := N3.below hR
     replace Vx1x1 := Vx1x1.below hR
     replace Nx1x1 := Nx1x1.below hR
     replace Tx1x1 := Tx1x1.below hR
     replace Vx2x1 := Vx2x1.below hR
     replace Nx2x1 := Nx2x1.below hR
     replace Tx2x1 := Tx2x1.below hR
     replace P2 := P2.below hR
     replace P3 := P3.below hR
     replace P4 := P4.below hR
     replace BB := bl_trans BB hR
     clear hR hv
     go_upto_region 5 with (fail)
     obtain ⟨c, hc, hlt⟩ : ∃ c, cmpV z2.natAbs z3.natAbs = c ∧ (c < 0 ↔ z2.natAbs < z3.natAbs) := ⟨_, rfl, cmpV_neg _ _⟩
     have HC := Lib.hid hc
     clear hc
     by_cases hx : c < 0
     ·have HL := Lib.hid (hlt.1 hx)
      clear hlt
      refine wp_seq 6 ?_
      simp only [List.take_succ_cons, List.take_zero, List.drop_succ_cons, List.drop_zero]
      refine wp_seq_list (Ext := RB) (Rel := RBu) [fun v _ _ => v = .pointer (some ⟨w.heap.size, 1, none⟩), fun v _ _ => v = .slice Ax1x1 nx1x1 cx1x1, fun v _ _ => v = .pointer (some ⟨(w.heap.size + 1), 1, none⟩), fun v _ _ => v = .slice Ax2x1 nx2x1 cx2x1, fun v _ _ => v = .int .i64 c, fun v _ _ => v = .bool true] (n := 6) (by kernel_rfl) (by kernel_rfl) (by kernel_rfl) (by kernel_rfl) (by kernel_rfl) (by kernel_rfl) (by kernel_rfl) rb_refl rb_trans ⟨sC, ⟨sC, ⟨sC, ⟨sC, ⟨sC, ⟨sC, trivial⟩⟩⟩⟩⟩⟩ ?_ ?_
      ·refine ⟨⟨⟨⟨⟨⟨trivial, ?_⟩, ?_⟩, ?_⟩, ?_⟩, ?_⟩, ?_⟩
       ·refine rs_plain rfl rfl fun a wr S => ?_
        have X := rbX S.ext
        exact wp_field1 (ev_of ((S.old 2 (by kernel_rfl)).trans rfl)) (done (by kernel_rfl) rbu_refl rfl)
       ·refine rs_plain rfl rfl fun a wr S => ?_
        have X := rbX S.ext
        obtain ⟨v0, e0, h0⟩ := S.got 0 (by kernel_rfl)
        exact wp_loadM ((ev_of (e0 27 (by kernel_rfl))).trans h0) (P2.below X) (done (by kernel_rfl) rbu_refl rfl)
       ·refine rs_plain rfl rfl fun a wr S => ?_
        have X := rbX S.ext
        exact wp_field1 (ev_of ((S.old 3 (by kernel_rfl)).trans rfl)) (done (by kernel_rfl) rbu_refl rfl)
       ·refine rs_plain rfl rfl fun a wr S => ?_
        have X := rbX S.ext
        obtain ⟨v2, e2, h2⟩ := S.got 2 (by kernel_rfl)
        exact wp_loadM ((ev_of (e2 29 (by kernel_rfl))).trans h2) (P3.below X) (done (by kernel_rfl) rbu_refl rfl)
       ·refine rs_plain rfl rfl fun a wr S => ?_
        have X := rbX S.ext
        obtain ⟨v1, e1, h1⟩ := S.got 1 (by kernel_rfl)
        obtain ⟨v3, e3, h3⟩ := S.got 3 (by kernel_rfl)
        exact st_call cf_ref01_Cmp (args2 ((ev_of (e1 28 (by kernel_rfl))).trans h1) ((ev_of (e3 30 (by kernel_rfl))).trans h3)) (by kernel_rfl) rb ((rCmp ⟨_, _, _, rfl, Nx1x1.below X⟩ ⟨_, _, _, rfl, Nx2x1.below X⟩ (by omega) (by omega)).mono (ans_intW HC.out)) (fun _ _ _ h => h)
       ·refine rs_plain rfl rfl fun a wr S => ?_
        have X := rbX S.ext
        obtain ⟨v4, e4, h4⟩ := S.got 4 (by kernel_rfl)
        exact wp_ltI ((ev_of (e4 31 (by kernel_rfl))).trans h4) rfl (done (by kernel_rfl) rbu_refl (congrArg Value.bool (decide_eq_true hx)))
      ·intro fw9 w9 hR hv hap
       clear hap
       replace hR := rbX hR
       have f0 : fw9 0 = .pointer (some ⟨w.heap.size, 1, none⟩) := (hvc (hv 0 (by omega))).elim fun _ h => h
       have f1 : fw9 1 = .slice Ax1x1 nx1x1 cx1x1 := (hvc (hv 1 (by omega))).elim fun _ h => h
       have f2 : fw9 2 = .pointer (some ⟨(w.heap.size + 1), 1, none⟩) := (hvc (hv 2 (by omega))).elim fun _ h => h
       have f3 : fw9 3 = .slice Ax2x1 nx2x1 cx2x1 := (hvc (hv 3 (by omega))).elim fun _ h => h
       have f4 : fw9 4 = .int .i64 c := (hvc (hv 4 (by omega))).elim fun _ h => h
       have f5 : fw9 5 = .bool true := (hvc (hv 5 (by omega))).elim fun _ h => h
       simp only [putFn, Act.put, List.setIfInBounds_toArray, List.set_cons_zero, List.set_cons_succ, f0, f1, f2, f3, f4, f5]
       replace M2 := M2.below hR
       replace N2 := N2.below hR
       replace M3 := M3.below hR
       replace N3 := N3.below hR
       replace Vx1x1 := Vx1x1.below hR
       replace Nx1x1 := Nx1x1.below hR
       replace Tx1x1 := Tx1x1.below hR
       replace Vx2x1 := Vx2x1.below hR
       replace Nx2x1 := Nx2x1.below hR
       replace Tx2x1 := Tx2x1.below hR
       replace P2 := P2.below hR
       replace P3 := P3.below hR
       replace P4 := P4.below hR
       replace BB := bl_trans BB hR
       clear hR hv
       go_upto_region 6 with (fail)
       refine wp_seq 10 ?_
       simp only [List.take_succ_cons, List.take_zero, List.drop_succ_cons, List.drop_zero]
       refine wp_seq_list (Ext := RB) (Rel := RBu) [fun v _ _ => v = .pointer (some ⟨(w.heap.size + 1), 1, none⟩), fun v _ _ => v = .slice Ax2x1 nx2x1 cx2x1, fun v _ _ => v = .pointer (some ⟨w.heap.size, 1, none⟩), fun v _ _ => v = .slice Ax1x1 nx1x1 cx1x1, fun v _ w => IsTB w v (z3.natAbs - z2.natAbs) k3 true, fun v _ w => IsTB w v (z3.natAbs - z2.natAbs) k3 true, fun v _ w => IsTr w v (z3.natAbs - z2.natAbs) k3, fun v _ _ => v = .bool true, fun v _ w => IsTr w v (z3.natAbs - z2.natAbs) k3, fun v _ _ => v = .bool true] (n := 10) (by kernel_rfl) (by kernel_rfl) (by kernel_rfl) (by kernel_rfl) (by kernel_rfl) (by kernel_rfl) (by kernel_rfl) rb_refl rb_trans ⟨sC, ⟨sC, ⟨sC, ⟨sC, ⟨sTB, ⟨sTB, ⟨sTr, ⟨sC, ⟨sTr, ⟨sC, trivial⟩⟩⟩⟩⟩⟩⟩⟩⟩⟩ ?_ ?_
       ·refine ⟨⟨⟨⟨⟨⟨⟨⟨⟨⟨trivial, ?_⟩, ?_⟩, ?_⟩, ?_⟩, ?_⟩, ?_⟩, ?_⟩, ?_⟩, ?_⟩, ?_⟩
        ·refine rs_plain rfl rfl fun a wr S => ?_
         have X := rbX S.ext
         exact wp_field1 (ev_of ((S.old 3 (by kernel_rfl)).trans rfl)) (done (by kernel_rfl) rbu_refl rfl)
        ·refine rs_plain rfl rfl fun a wr S => ?_
         have X := rbX S.ext
         obtain ⟨v0, e0, h0⟩ := S.got 0 (by kernel_rfl)
         exact wp_loadM ((ev_of (e0 34 (by kernel_rfl))).trans h0) (P3.below X) (done (by kernel_rfl) rbu_refl rfl)
        ·refine rs_plain rfl rfl fun a wr S => ?_
         have X := rbX S.ext
         exact wp_field1 (ev_of ((S.old 2 (by kernel_rfl)).trans rfl)) (done (by kernel_rfl) rbu_refl rfl)
        ·refine rs_plain rfl rfl fun a wr S => ?_
         have X := rbX S.ext
         obtain ⟨v2, e2, h2⟩ := S.got 2 (by kernel_rfl)
         exact wp_loadM ((ev_of (e2 36 (by kernel_rfl))).trans h2) (P2.below X) (done (by kernel_rfl) rbu_refl rfl)
        ·refine rs_plain rfl rfl fun a wr S => ?_
         have X := rbX S.ext
         obtain ⟨v1, e1, h1⟩ := S.got 1 (by kernel_rfl)
         obtain ⟨v3, e3, h3⟩ := S.got 3 (by kernel_rfl)
         exact st_call cf_ref01_Sub (args2 ((ev_of (e1 35 (by kernel_rfl))).trans h1) ((ev_of (e3 37 (by kernel_rfl))).trans h3)) (by kernel_rfl) rb (rSub ⟨_, _, _, rfl, Nx2x1.below X⟩ ⟨_, _, _, rfl, Nx1x1.below X⟩ (by omega) (by omega) (Nat.le_of_lt HL.out)) (fun _ _ _ h => h)
        ·refine rs_plain rfl rfl fun a wr S => ?_
         have X := rbX S.ext
         obtain ⟨v4, e4, h4⟩ := S.got 4 (by kernel_rfl)
         exact wp_mv (ev_of (e4 38 (by kernel_rfl))) (done (by kernel_rfl) rbu_refl h4)
        ·refine rs_plain rfl rfl fun a wr S => ?_
         have X := rbX S.ext
         obtain ⟨v5, e5, h5⟩ := S.got 5 (by kernel_rfl)
         obtain ⟨AA, nn, cc, hvv, TT⟩ := (show IsTB wr _ (z3.natAbs - z2.natAbs) k3 true from h5)
         exact wp_ext0 ((ev_of (e5 33 (by kernel_rfl))).trans hvv) (done (by kernel_rfl) rbu_refl ⟨_, _, _, rfl, TT⟩)
        ·refine rs_plain rfl rfl fun a wr S => ?_
         have X := rbX S.ext
         obtain ⟨v5, e5, h5⟩ := S.got 5 (by kernel_rfl)
         obtain ⟨AA, nn, cc, hvv, TT⟩ := (show IsTB wr _ (z3.natAbs - z2.natAbs) k3 true from h5)
         exact wp_ext1 ((ev_of (e5 33 (by kernel_rfl))).trans hvv) (done (by kernel_rfl) rbu_refl rfl)
        ·refine rs_plain rfl rfl fun a wr S => ?_
         have X := rbX S.ext
         obtain ⟨v6, e6, h6⟩ := S.got 6 (by kernel_rfl)
         exact wp_as (ev_of (e6 39 (by kernel_rfl))) (done (by kernel_rfl) rbu_refl h6)
        ·refine rs_plain rfl rfl fun a wr S => ?_
         have X := rbX S.ext
         obtain ⟨v7, e7, h7⟩ := S.got 7 (by kernel_rfl)
         exact wp_as ((ev_of (e7 40 (by kernel_rfl))).trans h7) (done (by kernel_rfl) rbu_refl rfl)
       ·intro fw10 w10 hR hv hap
        clear hap
        replace hR := rbX hR
        have f0 : fw10 0 = .pointer (some ⟨(w.heap.size + 1), 1, none⟩) := (hvc (hv 0 (by omega))).elim fun _ h => h
        have f1 : fw10 1 = .slice Ax2x1 nx2x1 cx2x1 := (hvc (hv 1 (by omega))).elim fun _ h => h
        have f2 : fw10 2 = .pointer (some ⟨w.heap.size, 1, none⟩) := (hvc (hv 2 (by omega))).elim fun _ h => h
        have f3 : fw10 3 = .slice Ax1x1 nx1x1 cx1x1 := (hvc (hv 3 (by omega))).elim fun _ h => h
        have f7 : fw10 7 = .bool true := (hvc (hv 7 (by omega))).elim fun _ h => h
        have f9 : fw10 9 = .bool true := (hvc (hv 9 (by omega))).elim fun _ h => h
        obtain ⟨Ax6x8, nx6x8, cx6x8, f8, Tx6x8⟩ := (show IsTr w10 _ (z3.natAbs - z2.natAbs) k3 from (hvc (hv 8 (by omega))).elim fun _ h => h)
        simp only [putFn, Act.put, List.setIfInBounds_toArray, List.set_cons_zero, List.set_cons_succ, f0, f1, f2, f3, f7, f9, f8]
        replace M2 := M2.below hR
        replace N2 := N2.below hR
        replace M3 := M3.below hR
        replace N3 := N3.below hR
        replace Vx1x1 := Vx1x1.below hR
        replace Nx1x1 := Nx1x1.below hR
        replace Tx1x1 := Tx1x1.below hR
        replace Vx2x1 := Vx2x1.below hR
        replace Nx2x1 := Nx2x1.below hR
        replace Tx2x1 := Tx2x1.below hR
        replace P2 := P2.below hR
        replace P3 := P3.below hR
        replace P4 := P4.below hR
        replace BB := bl_trans BB hR
        clear hR hv
        have Nx6x8 := Tx6x8.nm
        go_upto_region 7 with (fail)
        refine wp_seq 5 ?_
        simp only [List.take_succ_cons, List.take_zero, List.drop_succ_cons, List.drop_zero]
        refine wp_seq_list (Ext := RB) (Rel := RBu) [fun v _ _ => v = .pointer (some ⟨(w.heap.size + 1), 0, none⟩), fun v _ _ => v = .bool true, fun v _ _ => v = .slice Ax6x8 nx6x8 cx6x8, fun v _ w => IsM w v (zv true (z3.natAbs - z2.natAbs)) k3, fun v _ w => IsT w v (zv true (z3.natAbs - z2.natAbs)) k3] (n := 5) (by kernel_rfl) (by kernel_rfl) (by kernel_rfl) (by kernel_rfl) (by kernel_rfl) (by kernel_rfl) (by kernel_rfl) rb_refl rb_trans ⟨sC, ⟨sC, ⟨sC, ⟨sM, ⟨sT, trivial⟩⟩⟩⟩⟩ ?_ ?_
        ·refine ⟨⟨⟨⟨⟨trivial, ?_⟩, ?_⟩, ?_⟩, ?_⟩, ?_⟩
         ·refine rs_plain rfl rfl fun a wr S => ?_
          have X := rbX S.ext
          exact wp_field0 (ev_of ((S.old 3 (by kernel_rfl)).trans rfl)) (done (by kernel_rfl) rbu_refl rfl)
         ·refine rs_plain rfl rfl fun a wr S => ?_
          have X := rbX S.ext
          obtain ⟨v0, e0, h0⟩ := S.got 0 (by kernel_rfl)
          exact wp_loadB ((ev_of (e0 41 (by kernel_rfl))).trans h0) (P3.below X) (done (by kernel_rfl) rbu_refl rfl)
         ·refine rs_plain rfl rfl fun a wr S => ?_
          have X := rbX S.ext
          exact wp_mv (ev_of ((S.old 5 (by kernel_rfl)).trans rfl)) (done (by kernel_rfl) rbu_refl rfl)
         ·refine rs_plain rfl rfl fun a wr S => ?_
          have X := rbX S.ext
          obtain ⟨v1, e1, h1⟩ := S.got 1 (by kernel_rfl)
          obtain ⟨v2, e2, h2⟩ := S.got 2 (by kernel_rfl)
          exact wp_bZ ((ev_of (e1 42 (by kernel_rfl))).trans h1) ((ev_of (e2 43 (by kernel_rfl))).trans h2) (done (by kernel_rfl) rbu_refl ⟨_, _, _, _, rfl, ⟨⟨_, Nx6x8.below X, rfl⟩⟩⟩)
         ·refine rs_plain rfl rfl fun a wr S => ?_
          have X := rbX S.ext
          obtain ⟨v3, e3, h3⟩ := S.got 3 (by kernel_rfl)
          exact st_call cf_ref03_whole (args1 (ev_of (e3 44 (by kernel_rfl)))) (by kernel_rfl) rb (cWhole3 (show IsM _ _ _ _ from h3) (by omega)) (fun _ _ _ h => h)
        ·intro fw11 w11 hR hv hap
         clear hap
         replace hR := rbX hR
         have f0 : fw11 0 = .pointer (some ⟨(w.heap.size + 1), 0, none⟩) := (hvc (hv 0 (by omega))).elim fun _ h => h
         have f1 : fw11 1 = .bool true := (hvc (hv 1 (by omega))).elim fun _ h => h
         have f2 : fw11 2 = .slice Ax6x8 nx6x8 cx6x8 := (hvc (hv 2 (by omega))).elim fun _ h => h
         obtain ⟨bx7x4, Ax7x4, nx7x4, cx7x4, f4, Tx7x4, sx7x4⟩ := (show IsT w11 _ (zv true (z3.natAbs - z2.natAbs)) k3 from (hvc (hv 4 (by omega))).elim fun _ h => h)
         simp only [putFn, Act.put, List.setIfInBounds_toArray, List.set_cons_zero, List.set_cons_succ, f0, f1, f2, f4]
         replace M2 := M2.below hR
         replace N2 := N2.below hR
         replace M3 := M3.below hR
         replace N3 := N3.below hR
         replace Vx1x1 := Vx1x1.below hR
         replace Nx1x1 := Nx1x1.below hR
         replace Tx1x1 := Tx1x1.below hR
         replace Vx2x1 := Vx2x1.below hR
         replace Nx2x1 := Nx2x1.below hR
         replace Tx2x1 := Tx2x1.below hR
         replace Nx6x8 := Nx6x8.below hR
         replace Tx6x8 := Tx6x8.below hR
         replace P2 := P2.below hR
         replace P3 := P3.below hR
         replace P4 := P4.below hR
         replace BB := bl_trans BB hR
         clear hR hv
         have Vx7x4 : IsT w11 (.agg #[.bool bx7x4, .slice Ax7x4 nx7x4 cx7x4]) (zv true (z3.natAbs - z2.natAbs)) k3 := ⟨_, _, _, _, rfl, Tx7x4, sx7x4⟩
         have Nx7x4 := Tx7x4.nm
         have Sx7x4 := Lib.hid sx7x4
         clear sx7x4
         have r40 := P4.c0
         have t40 := P4.f 0
         have r41 := P4.c1
         have t41 := P4.f 1
         go_wp2_with fail
         clear r40 t40 r41 t41
         have KR := kr_put2 (b' := bx7x4) (A' := Ax7x4) (n' := nx7x4) (c' := cx7x4) P4
         replace M2 := M2.kr KR
         replace N2 := N2.kr KR
         replace M3 := M3.kr KR
         replace N3 := N3.kr KR
         replace Vx1x1 := Vx1x1.kr KR
         replace Nx1x1 := Nx1x1.kr KR
         replace Tx1x1 := Tx1x1.kr KR
         replace Vx2x1 := Vx2x1.kr KR
         replace Nx2x1 := Nx2x1.kr KR
         replace Tx2x1 := Tx2x1.kr KR
         replace Nx6x8 := Nx6x8.kr KR
         replace Tx6x8 := Tx6x8.kr KR
         replace Vx7x4 := Vx7x4.kr KR
         replace Nx7x4 := Nx7x4.kr KR
         replace Tx7x4 := Tx7x4.kr KR
         replace P2 := P2.put2 (g := (w.heap.size + 1 + 1)) (b' := bx7x4) (A' := Ax7x4) (n' := nx7x4) (c' := cx7x4) (by omega)
         replace P3 := P3.put2 (g := (w.heap.size + 1 + 1)) (b' := bx7x4) (A' := Ax7x4) (n' := nx7x4) (c' := cx7x4) (by omega)
         replace BB := Below.put2 (g := (w.heap.size + 1 + 1)) (b' := bx7x4) (A' := Ax7x4) (n' := nx7x4) (c' := cx7x4) BB (by omega)
         replace P4 := P4.set2 (b' := bx7x4) (A' := Ax7x4) (n' := nx7x4) (c' := cx7x4)
         clear KR
         generalize World.setCell _ ⟨w.heap.size + 1 + 1, 1, none⟩ _ = w12 at M2 N2 M3 N3 Vx1x1 Nx1x1 Tx1x1 Vx2x1 Nx2x1 Tx2x1 Nx6x8 Tx6x8 Vx7x4 Nx7x4 Tx7x4 P2 P3 P4 BB ⊢
         have rc0 := P4.c0
         have rc1 := P4.c1
         exact bodyPost_ret (v := .agg #[.bool bx7x4, .slice Ax7x4 nx7x4 cx7x4]) (by simp [results, Tryz.results63, go_sem, rc0, rc1]) rfl ⟨_, rfl, BB, by rw [plus_lt Sx1x1.out Sx2x1.out (by decide) (Nat.le_of_lt HL.out)] at Vx7x4; exact Vx7x4.mono (by omega)⟩
     ·have HL := Lib.hid (show z3.natAbs ≤ z2.natAbs from Nat.not_lt.1 fun h => hx (hlt.2 h))
      clear hlt
      refine wp_seq 6 ?_
      simp only [List.take_succ_cons, List.take_zero, List.drop_succ_cons, List.drop_zero]
      refine wp_seq_list (Ext := RB) (Rel := RBu) [fun v _ _ => v = .pointer (some ⟨w.heap.size, 1, none⟩), fun v _ _ => v = .slice Ax1x1 nx1x1 cx1x1, fun v _ _ => v = .pointer (some ⟨(w.heap.size + 1), 1, none⟩), fun v _ _ => v = .slice Ax2x1 nx2x1 cx2x1, fun v _ _ => v = .int .i64 c, fun v _ _ => v = .bool false] (n := 6) (by kernel_rfl) (by kernel_rfl) (by kernel_rfl) (by kernel_rfl) (by kernel_rfl) (by kernel_rfl) (by kernel_rfl) rb_refl rb_trans ⟨sC, ⟨sC, ⟨sC, ⟨sC, ⟨sC, ⟨sC, trivial⟩⟩⟩⟩⟩⟩ ?_ ?_
      ·refine ⟨⟨⟨⟨⟨⟨trivial, ?_⟩, ?_⟩, ?_⟩, ?_⟩, ?_⟩, ?_⟩
       ·refine rs_plain rfl rfl fun a wr S => ?_
        have X := rbX S.ext
        exact wp_field1 (ev_of ((S.old 2 (by kernel_rfl)).trans rfl)) (done (by kernel_rfl) rbu_refl rfl)
       ·refine rs_plain rfl rfl fun a wr S => ?_
        have X := rbX S.ext
        obtain ⟨v0, e0, h0⟩ := S.got 0 (by kernel_rfl)
        exact wp_loadM ((ev_of (e0 27 (by kernel_rfl))).trans h0) (P2.below X) (done (by kernel_rfl) rbu_refl rfl)
       ·refine rs_plain rfl rfl fun a wr S => ?_
        have X := rbX S.ext
        exact wp_field1 (ev_of ((S.old 3 (by kernel_rfl)).trans rfl)) (done (by kernel_rfl) rbu_refl rfl)
       ·refine rs_plain rfl rfl fun a wr S => ?_
        have X := rbX S.ext
        obtain ⟨v2, e2, h2⟩ := S.got 2 (by kernel_rfl)
        exact wp_loadM ((ev_of (e2 29 (by kernel_rfl))).trans h2) (P3.below X) (done (by kernel_rfl) rbu_refl rfl)
       ·refine rs_plain rfl rfl fun a wr S => ?_
        have X := rbX S.ext
        obtain ⟨v1, e1, h1⟩ := S.got 1 (by kernel_rfl)
        obtain ⟨v3, e3, h3⟩ := S.got 3 (by kernel_rfl)
        exact st_call cf_ref01_Cmp (args2 ((ev_of (e1 28 (by kernel_rfl))).trans h1) ((ev_of (e3 30 (by kernel_rfl))).trans h3)) (by kernel_rfl) rb ((rCmp ⟨_, _, _, rfl, Nx1x1.below X⟩ ⟨_, _, _, rfl, Nx2x1.below X⟩ (by omega) (by omega)).mono (ans_intW HC.out)) (fun _ _ _ h => h)
       ·refine rs_plain rfl rfl fun a wr S => ?_
        have X := rbX S.ext
        obtain ⟨v4, e4, h4⟩ := S.got 4 (by kernel_rfl)
        exact wp_ltI ((ev_of (e4 31 (by kernel_rfl))).trans h4) rfl (done (by kernel_rfl) rbu_refl (congrArg Value.bool (decide_eq_false hx)))
      ·intro fw13 w13 hR hv hap
       clear hap
       replace hR := rbX hR
       have f0 : fw13 0 = .pointer (some ⟨w.heap.size, 1, none⟩) := (hvc (hv 0 (by omega))).elim fun _ h => h
       have f1 : fw13 1 = .slice Ax1x1 nx1x1 cx1x1 := (hvc (hv 1 (by omega))).elim fun _ h => h
       have f2 : fw13 2 = .pointer (some ⟨(w.heap.size + 1), 1, none⟩) := (hvc (hv 2 (by omega))).elim fun _ h => h
       have f3 : fw13 3 = .slice Ax2x1 nx2x1 cx2x1 := (hvc (hv 3 (by omega))).elim fun _ h => h
       have f4 : fw13 4 = .int .i64 c := (hvc (hv 4 (by omega))).elim fun _ h => h
       have f5 : fw13 5 = .bool false := (hvc (hv 5 (by omega))).elim fun _ h => h
       simp only [putFn, Act.put, List.setIfInBounds_toArray, List.set_cons_zero, List.set_cons_succ, f0, f1, f2, f3, f4, f5]
       replace M2 := M2.below hR
       replace N2 := N2.below hR
       replace M3 := M3.below hR
       replace N3 := N3.below hR
       replace Vx1x1 := Vx1x1.below hR
       replace Nx1x1 := Nx1x1.below hR
       replace Tx1x1 := Tx1x1.below hR
       replace Vx2x1 := Vx2x1.below hR
       replace Nx2x1 := Nx2x1.below hR
       replace Tx2x1 := Tx2x1.below hR
       replace P2 := P2.below hR
       replace P3 := P3.below hR
       replace P4 := P4.below hR
       replace BB := bl_trans BB hR
       clear hR hv
       go_upto_region 8 with (fail)
       refine wp_seq 10 ?_
       simp only [List.take_succ_cons, List.take_zero, List.drop_succ_cons, List.drop_zero]
       refine wp_seq_list (Ext := RB) (Rel := RBu) [fun v _ _ => v = .pointer (some ⟨w.heap.size, 1, none⟩), fun v _ _ => v = .slice Ax1x1 nx1x1 cx1x1, fun v _ _ => v = .pointer (some ⟨(w.heap.size + 1), 1, none⟩), fun v _ _ => v = .slice Ax2x1 nx2x1 cx2x1, fun v _ w => IsTB w v (z2.natAbs - z3.natAbs) k2 true, fun v _ w => IsTB w v (z2.natAbs - z3.natAbs) k2 true, fun v _ w => IsTr w v (z2.natAbs - z3.natAbs) k2, fun v _ _ => v = .bool true, fun v _ w => IsTr w v (z2.natAbs - z3.natAbs) k2, fun v _ _ => v = .bool true] (n := 10) (by kernel_rfl) (by kernel_rfl) (by kernel_rfl) (by kernel_rfl) (by kernel_rfl) (by kernel_rfl) (by kernel_rfl) rb_refl rb_trans ⟨sC, ⟨sC, ⟨sC, ⟨sC, ⟨sTB, ⟨sTB, ⟨sTr, ⟨sC, ⟨sTr, ⟨sC, trivial⟩⟩⟩⟩⟩⟩⟩⟩⟩⟩ ?_ ?_
       ·refine ⟨⟨⟨⟨⟨⟨⟨⟨⟨⟨trivial, ?_⟩, ?_⟩, ?_⟩, ?_⟩, ?_⟩, ?_⟩, ?_⟩, ?_⟩, ?_⟩, ?_⟩
        ·refine rs_plain rfl rfl fun a wr S => ?_
         have X := rbX S.ext
         exact wp_field1 (ev_of ((S.old 2 (by kernel_rfl)).trans rfl)) (done (by kernel_rfl) rbu_refl rfl)
        ·refine rs_plain rfl rfl fun a wr S => ?_
         have X := rbX S.ext
         obtain ⟨v0, e0, h0⟩ := S.got 0 (by kernel_rfl)
         exact wp_loadM ((ev_of (e0 47 (by kernel_rfl))).trans h0) (P2.below X) (done (by kernel_rfl) rbu_refl rfl)
        ·refine rs_plain rfl rfl fun a wr S => ?_
         have X := rbX S.ext
         exact wp_field1 (ev_of ((S.old 3 (by kernel_rfl)).trans rfl)) (done (by kernel_rfl) rbu_refl rfl)
        ·refine rs_plain rfl rfl fun a wr S => ?_
         have X := rbX S.ext
         obtain ⟨v2, e2, h2⟩ := S.got 2 (by kernel_rfl)
         exact wp_loadM ((ev_of (e2 49 (by kernel_rfl))).trans h2) (P3.below X) (done (by kernel_rfl) rbu_refl rfl)
        ·refine rs_plain rfl rfl fun a wr S => ?_
         have X := rbX S.ext
         obtain ⟨v1, e1, h1⟩ := S.got 1 (by kernel_rfl)
         obtain ⟨v3, e3, h3⟩ := S.got 3 (by kernel_rfl)
         exact st_call cf_ref01_Sub (args2 ((ev_of (e1 48 (by kernel_rfl))).trans h1) ((ev_of (e3 50 (by kernel_rfl))).trans h3)) (by kernel_rfl) rb (rSub ⟨_, _, _, rfl, Nx1x1.below X⟩ ⟨_, _, _, rfl, Nx2x1.below X⟩ (by omega) (by omega) HL.out) (fun _ _ _ h => h)
        ·refine rs_plain rfl rfl fun a wr S => ?_
         have X := rbX S.ext
         obtain ⟨v4, e4, h4⟩ := S.got 4 (by kernel_rfl)
         exact wp_mv (ev_of (e4 51 (by kernel_rfl))) (done (by kernel_rfl) rbu_refl h4)
        ·refine rs_plain rfl rfl fun a wr S => ?_
         have X := rbX S.ext
         obtain ⟨v5, e5, h5⟩ := S.got 5 (by kernel_rfl)
         obtain ⟨AA, nn, cc, hvv, TT⟩ := (show IsTB wr _ (z2.natAbs - z3.natAbs) k2 true from h5)
         exact wp_ext0 ((ev_of (e5 46 (by kernel_rfl))).trans hvv) (done (by kernel_rfl) rbu_refl ⟨_, _, _, rfl, TT⟩)
        ·refine rs_plain rfl rfl fun a wr S => ?_
         have X := rbX S.ext
         obtain ⟨v5, e5, h5⟩ := S.got 5 (by kernel_rfl)
         obtain ⟨AA, nn, cc, hvv, TT⟩ := (show IsTB wr _ (z2.natAbs - z3.natAbs) k2 true from h5)
         exact wp_ext1 ((ev_of (e5 46 (by kernel_rfl))).trans hvv) (done (by kernel_rfl) rbu_refl rfl)
        ·refine rs_plain rfl rfl fun a wr S => ?_
         have X := rbX S.ext
         obtain ⟨v6, e6, h6⟩ := S.got 6 (by kernel_rfl)
         exact wp_as (ev_of (e6 52 (by kernel_rfl))) (done (by kernel_rfl) rbu_refl h6)
        ·refine rs_plain rfl rfl fun a wr S => ?_
         have X := rbX S.ext
         obtain ⟨v7, e7, h7⟩ := S.got 7 (by kernel_rfl)
         exact wp_as ((ev_of (e7 53 (by kernel_rfl))).trans h7) (done (by kernel_rfl) rbu_refl rfl)
       ·intro fw14 w14 hR hv hap
        clear hap
        replace hR := rbX hR
        have f0 : fw14 0 = .pointer (some ⟨w.heap.size, 1, none⟩) := (hvc (hv 0 (by omega))).elim fun _ h => h
        have f1 : fw14 1 = .slice Ax1x1 nx1x1 cx1x1 := (hvc (hv 1 (by omega))).elim fun _ h => h
        have f2 : fw14 2 = .pointer (some ⟨(w.heap.size + 1), 1, none⟩) := (hvc (hv 2 (by omega))).elim fun _ h => h
        have f3 : fw14 3 = .slice Ax2x1 nx2x1 cx2x1 := (hvc (hv 3 (by omega))).elim fun _ h => h
        have f7 : fw14 7 = .bool true := (hvc (hv 7 (by omega))).elim fun _ h => h
        have f9 : fw14 9 = .bool true := (hvc (hv 9 (by omega))).elim fun _ h => h
        obtain ⟨Ax8x8, nx8x8, cx8x8, f8, Tx8x8⟩ := (show IsTr w14 _ (z2.natAbs - z3.natAbs) k2 from (hvc (hv 8 (by omega))).elim fun _ h => h)
        simp only [putFn, Act.put, List.setIfInBounds_toArray, List.set_cons_zero, List.set_cons_succ, f0, f1, f2, f3, f7, f9, f8]
        replace M2 := M2.below hR
        replace N2 := N2.below hR
        replace M3 := M3.below hR
        replace N3 := N3.below hR
        replace Vx1x1 := Vx1x1.below hR
        replace Nx1x1 := Nx1x1.below hR
        replace Tx1x1 := Tx1x1.below hR
        replace Vx2x1 := Vx2x1.below hR
        replace Nx2x1 := Nx2x1.below hR
        replace Tx2x1 := Tx2x1.below hR
        replace P2 := P2.below hR
        replace P3 := P3.below hR
        replace P4 := P4.below hR
        replace BB := bl_trans BB hR
        clear hR hv
        have Nx8x8 := Tx8x8.nm
        go_upto_region 9 with (fail)
        refine wp_seq 5 ?_
        simp only [List.take_succ_cons, List.take_zero, List.drop_succ_cons, List.drop_zero]
        refine wp_seq_list (Ext := RB) (Rel := RBu) [fun v _ _ => v = .pointer (some ⟨w.heap.size, 0, none⟩), fun v _ _ => v = .bool false, fun v _ _ => v = .slice Ax8x8 nx8x8 cx8x8, fun v _ w => IsM w v (zv false (z2.natAbs - z3.natAbs)) k2, fun v _ w => IsT w v (zv false (z2.natAbs - z3.natAbs)) k2] (n := 5) (by kernel_rfl) (by kernel_rfl) (by kernel_rfl) (by kernel_rfl) (by kernel_rfl) (by kernel_rfl) (by kernel_rfl) rb_refl rb_trans ⟨sC, ⟨sC, ⟨sC, ⟨sM, ⟨sT, trivial⟩⟩⟩⟩⟩ ?_ ?_
        ·refine ⟨⟨⟨⟨⟨trivial, ?_⟩, ?_⟩, ?_⟩, ?_⟩, ?_⟩
         ·refine rs_plain rfl rfl fun a wr S => ?_
          have X := rbX S.ext
          exact wp_field0 (ev_of ((S.old 2 (by kernel_rfl)).trans rfl)) (done (by kernel_rfl) rbu_refl rfl)
         ·refine rs_plain rfl rfl fun a wr S => ?_
          have X := rbX S.ext
          obtain ⟨v0, e0, h0⟩ := S.got 0 (by kernel_rfl)
          exact wp_loadB ((ev_of (e0 54 (by kernel_rfl))).trans h0) (P2.below X) (done (by kernel_rfl) rbu_refl rfl)
         ·refine rs_plain rfl rfl fun a wr S => ?_
          have X := rbX S.ext
          exact wp_mv (ev_of ((S.old 7 (by kernel_rfl)).trans rfl)) (done (by kernel_rfl) rbu_refl rfl)
         ·refine rs_plain rfl rfl fun a wr S => ?_
          have X := rbX S.ext
          obtain ⟨v1, e1, h1⟩ := S.got 1 (by kernel_rfl)
          obtain ⟨v2, e2, h2⟩ := S.got 2 (by kernel_rfl)
          exact wp_bZ ((ev_of (e1 55 (by kernel_rfl))).trans h1) ((ev_of (e2 56 (by kernel_rfl))).trans h2) (done (by kernel_rfl) rbu_refl ⟨_, _, _, _, rfl, ⟨⟨_, Nx8x8.below X, rfl⟩⟩⟩)
         ·refine rs_plain rfl rfl fun a wr S => ?_
          have X := rbX S.ext
          obtain ⟨v3, e3, h3⟩ := S.got 3 (by kernel_rfl)
          exact st_call cf_ref03_whole (args1 (ev_of (e3 57 (by kernel_rfl)))) (by kernel_rfl) rb (cWhole3 (show IsM _ _ _ _ from h3) (by omega)) (fun _ _ _ h => h)
        ·intro fw15 w15 hR hv hap
         clear hap
         replace hR := rbX hR
         have f0 : fw15 0 = .pointer (some ⟨w.heap.size, 0, none⟩) := (hvc (hv 0 (by omega))).elim fun _ h => h
         have f1 : fw15 1 = .bool false := (hvc (hv 1 (by omega))).elim fun _ h => h
         have f2 : fw15 2 = .slice Ax8x8 nx8x8 cx8x8 := (hvc (hv 2 (by omega))).elim fun _ h => h
         obtain ⟨bx9x4, Ax9x4, nx9x4, cx9x4, f4, Tx9x4, sx9x4⟩ := (show IsT w15 _ (zv false (z2.natAbs - z3.natAbs)) k2 from (hvc (hv 4 (by omega))).elim fun _ h => h)
         simp only [putFn, Act.put, List.setIfInBounds_toArray, List.set_cons_zero, List.set_cons_succ, f0, f1, f2, f4]
         replace M2 := M2.below hR
         replace N2 := N2.below hR
         replace M3 := M3.below hR
         replace N3 := N3.below hR
         replace Vx1x1 := Vx1x1.below hR
         replace Nx1x1 := Nx1x1.below hR
         replace Tx1x1 := Tx1x1.below hR
         replace Vx2x1 := Vx2x1.below hR
         replace Nx2x1 := Nx2x1.below hR
         replace Tx2x1 := Tx2x1.below hR
         replace Nx8x8 := Nx8x8.below hR
         replace Tx8x8 := Tx8x8.below hR
         replace P2 := P2.below hR
         replace P3 := P3.below hR
         replace P4 := P4.below hR
         replace BB := bl_trans BB hR
         clear hR hv
         have Vx9x4 : IsT w15 (.agg #[.bool bx9x4, .slice Ax9x4 nx9x4 cx9x4]) (zv false (z2.natAbs - z3.natAbs)) k2 := ⟨_, _, _, _, rfl, Tx9x4, sx9x4⟩
         have Nx9x4 := Tx9x4.nm
         have Sx9x4 := Lib.hid sx9x4
         clear sx9x4
         have r40 := P4.c0
         have t40 := P4.f 0
         have r41 := P4.c1
         have t41 := P4.f 1
         go_wp2_with fail
         clear r40 t40 r41 t41
         have KR := kr_put2 (b' := bx9x4) (A' := Ax9x4) (n' := nx9x4) (c' := cx9x4) P4
         replace M2 := M2.kr KR
         replace N2 := N2.kr KR
         replace M3 := M3.kr KR
         replace N3 := N3.kr KR
         replace Vx1x1 := Vx1x1.kr KR
         replace Nx1x1 := Nx1x1.kr KR
         replace Tx1x1 := Tx1x1.kr KR
         replace Vx2x1 := Vx2x1.kr KR
         replace Nx2x1 := Nx2x1.kr KR
         replace Tx2x1 := Tx2x1.kr KR
         replace Nx8x8 := Nx8x8.kr KR
         replace Tx8x8 := Tx8x8.kr KR
         replace Vx9x4 := Vx9x4.kr KR
         replace Nx9x4 := Nx9x4.kr KR
         replace Tx9x4 := Tx9x4.kr KR
         replace P2 := P2.put2 (g := (w.heap.size + 1 + 1)) (b' := bx9x4) (A' := Ax9x4) (n' := nx9x4) (c' := cx9x4) (by omega)
         replace P3 := P3.put2 (g := (w.heap.size + 1 + 1)) (b' := bx9x4) (A' := Ax9x4) (n' := nx9x4) (c' := cx9x4) (by omega)
         replace BB := Below.put2 (g := (w.heap.size + 1 + 1)) (b' := bx9x4) (A' := Ax9x4) (n' := nx9x4) (c' := cx9x4) BB (by omega)
         replace P4 := P4.set2 (b' := bx9x4) (A' := Ax9x4) (n' := nx9x4) (c' := cx9x4)
         clear KR
         generalize World.setCell _ ⟨w.heap.size + 1 + 1, 1, none⟩ _ = w16 at M2 N2 M3 N3 Vx1x1 Nx1x1 Tx1x1 Vx2x1 Nx2x1 Tx2x1 Nx8x8 Tx8x8 Vx9x4 Nx9x4 Tx9x4 P2 P3 P4 BB ⊢
         have rc0 := P4.c0
         have rc1 := P4.c1
         exact bodyPost_ret (v := .agg #[.bool bx9x4, .slice Ax9x4 nx9x4 cx9x4]) (by simp [results, Tryz.results63, go_sem, rc0, rc1]) rfl ⟨_, rfl, BB, by rw [plus_gt Sx1x1.out Sx2x1.out (by decide) HL.out] at Vx9x4; exact Vx9x4.mono (by omega)⟩
   ·skip
    refine wp_seq 5 ?_
    simp only [List.take_succ_cons, List.take_zero, List.drop_succ_cons, List.drop_zero]
    refine wp_seq_list (Ext := RB) (Rel := RBu) [fun v _ _ => v = .pointer (some ⟨w.heap.size, 0, none⟩), fun v _ _ => v = .bool true, fun v _ _ => v = .pointer (some ⟨(w.heap.size + 1), 0, none⟩), fun v _ _ => v = .bool false, fun v _ _ => v = .bool false] (n := 5) (by kernel_rfl) (by kernel_rfl) (by kernel_rfl) (by kernel_rfl) (by kernel_rfl) (by kernel_rfl) (by kernel_rfl) rb_refl rb_trans ⟨sC, ⟨sC, ⟨sC, ⟨sC, ⟨sC, trivial⟩⟩⟩⟩⟩ ?_ ?_
    ·refine ⟨⟨⟨⟨⟨trivial, ?_⟩, ?_⟩, ?_⟩, ?_⟩, ?_⟩
     ·refine rs_plain rfl rfl fun a wr S => ?_
      have X := rbX S.ext
      exact wp_field0 (ev_of ((S.old 2 (by kernel_rfl)).trans rfl)) (done (by kernel_rfl) rbu_refl rfl)
     ·refine rs_plain rfl rfl fun a wr S => ?_
      have X := rbX S.ext
      obtain ⟨v0, e0, h0⟩ := S.got 0 (by kernel_rfl)
      exact wp_loadB ((ev_of (e0 13 (by kernel_rfl))).trans h0) (P2.below X) (done (by kernel_rfl) rbu_refl rfl)
     ·refine rs_plain rfl rfl fun a wr S => ?_
      have X := rbX S.ext
      exact wp_field0 (ev_of ((S.old 3 (by kernel_rfl)).trans rfl)) (done (by kernel_rfl) rbu_refl rfl)
     ·refine rs_plain rfl rfl fun a wr S => ?_
      have X := rbX S.ext
      obtain ⟨v2, e2, h2⟩ := S.got 2 (by kernel_rfl)
      exact wp_loadB ((ev_of (e2 15 (by kernel_rfl))).trans h2) (P3.below X) (done (by kernel_rfl) rbu_refl rfl)
     ·refine rs_plain rfl rfl fun a wr S => ?_
      have X := rbX S.ext
      obtain ⟨v1, e1, h1⟩ := S.got 1 (by kernel_rfl)
      obtain ⟨v3, e3, h3⟩ := S.got 3 (by kernel_rfl)
      exact wp_eqB ((ev_of (e1 14 (by kernel_rfl))).trans h1) ((ev_of (e3 16 (by kernel_rfl))).trans h3) (done (by kernel_rfl) rbu_refl (congrArg Value.bool (by decide)))
    ·intro fw17 w17 hR hv hap
     clear hap
     replace hR := rbX hR
     have f0 : fw17 0 = .pointer (some ⟨w.heap.size, 0, none⟩) := (hvc (hv 0 (by omega))).elim fun _ h => h
     have f1 : fw17 1 = .bool true := (hvc (hv 1 (by omega))).elim fun _ h => h
     have f2 : fw17 2 = .pointer (some ⟨(w.heap.size + 1), 0, none⟩) := (hvc (hv 2 (by omega))).elim fun _ h => h
     have f3 : fw17 3 = .bool false := (hvc (hv 3 (by omega))).elim fun _ h => h
     have f4 : fw17 4 = .bool false := (hvc (hv 4 (by omega))).elim fun _ h => h
     simp only [putFn, Act.put, List.setIfInBounds_toArray, List.set_cons_zero, List.set_cons_succ, f0, f1, f2, f3, f4]
     replace M2 := M2.below hR
     replace N2 := N2.below hR
     replace M3 := M3.below hR
     replace N3 := N3.below hR
     replace Vx1x1 := Vx1x1.below hR
     replace Nx1x1 := Nx1x1.below hR
     replace Tx1x1 := Tx1x1.below hR
     replace Vx2x1 := Vx2x1.below hR
     replace Nx2x1 := Nx2x1.below hR
     replace Tx2x1 := Tx2x1.below hR
     replace P2 := P2.below hR
     replace P3 := P3.below hR
     replace P4 := P4.below hR
     replace BB := bl_trans BB hR
     clear hR hv
     go_upto_region 5 with (fail)
     obtain ⟨c, hc, hlt⟩ : ∃ c, cmpV z2.natAbs z3.natAbs = c ∧ (c < 0 ↔ z2.natAbs < z3.natAbs) := ⟨_, rfl, cmpV_neg _ _⟩
     have HC := Lib.hid hc
     clear hc
     by_cases hx : c < 0
     ·have HL := Lib.hid (hlt.1 hx)
      clear hlt
      refine wp_seq 6 ?_
      simp only [List.take_succ_cons, List.take_zero, List.drop_succ_cons, List.drop_zero]
      refine wp_seq_list (Ext := RB) (Rel := RBu) [fun v _ _ => v = .pointer (some ⟨w.heap.size, 1, none⟩), fun v _ _ => v = .slice Ax1x1 nx1x1 cx1x1, fun v _ _ => v = .pointer (some ⟨(w.heap.size + 1), 1, none⟩), fun v _ _ => v = .slice Ax2x1 nx2x1 cx2x1, fun v _ _ => v = .int .i64 c, fun v _ _ => v = .bool true] (n := 6) (by kernel_rfl) (by kernel_rfl) (by kernel_rfl) (by kernel_rfl) (by kernel_rfl) (by kernel_rfl) (by kernel_rfl) rb_refl rb_trans ⟨sC, ⟨sC, ⟨sC, ⟨sC, ⟨sC, ⟨sC, trivial⟩⟩⟩⟩⟩⟩ ?_ ?_
      ·refine ⟨⟨⟨⟨⟨⟨trivial, ?_⟩, ?_⟩, ?_⟩, ?_⟩, ?_⟩, ?_⟩
       ·refine rs_plain rfl rfl fun a wr S => ?_
        have X := rbX S.ext
        exact wp_field1 (ev_of ((S.old 2 (by kernel_rfl)).trans rfl)) (done (by kernel_rfl) rbu_refl rfl)
       ·refine rs_plain rfl rfl fun a wr S => ?_
        have X := rbX S.ext
        obtain ⟨v0, e0, h0⟩ := S.got 0 (by kernel_rfl)
        exact wp_loadM ((ev_of (e0 27 (by kernel_rfl))).trans h0) (P2.below X) (done (by kernel_rfl) rbu_refl rfl)
       ·refine rs_plain rfl rfl fun a wr S => ?_
        have X := rbX S.ext
        exact wp_field1 (ev_of ((S.old 3 (by kernel_rfl)).trans rfl)) (done (by kernel_rfl) rbu_refl rfl)
       ·refine rs_plain rfl rfl fun a wr S => ?_
        have X := rbX S.ext
        obtain ⟨v2, e2, h2⟩ := S.got 2 (by kernel_rfl)
        exact wp_loadM ((ev_of (e2 29 (by kernel_rfl))).trans h2) (P3.below X) (done (by kernel_rfl) rbu_refl rfl)
       ·refine rs_plain rfl rfl fun a wr S => ?_
        have X := rbX S.ext
        obtain ⟨v1, e1, h1⟩ := S.got 1 (by kernel_rfl)
        obtain ⟨v3, e3, h3⟩ := S.got 3 (by kernel_rfl)
        exact st_call cf_ref01_Cmp (args2 ((ev_of (e1 28 (by kernel_rfl))).trans h1) ((ev_of (e3 30 (by kernel_rfl))).trans h3)) (by kernel_rfl) rb ((rCmp ⟨_, _, _, rfl, Nx1x1.below X⟩ ⟨_, _, _, rfl, Nx2x1.below X⟩ (by omega) (by omega)).mono (ans_intW HC.out)) (fun _ _ _ h => h)
       ·refine rs_plain rfl rfl fun a wr S => ?_
        have X := rbX S.ext
        obtain ⟨v4, e4, h4⟩ := S.got 4 (by kernel_rfl)
        exact wp_ltI ((ev_of (e4 31 (by kernel_rfl))).trans h4) rfl (done (by kernel_rfl) rbu_refl (congrArg Value.bool (decide_eq_true hx)))
      ·intro fw18 w18 hR hv hap
       clear hap
       replace hR := rbX hR
       have f0 : fw18 0 = .pointer (some ⟨w.heap.size, 1, none⟩) := (hvc (hv 0 (by omega))).elim fun _ h => h
       have f1 : fw18 1 = .slice Ax1x1 nx1x1 cx1x1 := (hvc (hv 1 (by omega))).elim fun _ h => h
       have f2 : fw18 2 = .pointer (some ⟨(w.heap.size + 1), 1, none⟩) := (hvc (hv 2 (by omega))).elim fun _ h => h
       have f3 : fw18 3 = .slice Ax2x1 nx2x1 cx2x1 := (hvc (hv 3 (by omega))).elim fun _ h => h
       have f4 : fw18 4 = .int .i64 c := (hvc (hv 4 (by omega))).elim fun _ h => h
       have f5 : fw18 5 = .bool true := (hvc (hv 5 (by omega))).elim fun _ h => h
       simp only [putFn, Act.put, List.setIfInBounds_toArray, List.set_cons_zero, List.set_cons_succ, f0, f1, f2, f3, f4, f5]
       replace M2 := M2.below hR
       replace N2 := N2.below hR
       replace M3 := M3.below hR
       replace N3 := N3.below hR
       replace Vx1x1 := Vx1x1.below hR
       replace Nx1x1 := Nx1x1.below hR
       replace Tx1x1 := Tx1x1.below hR
       replace Vx2x1 := Vx2x1.below hR
       replace Nx2x1 := Nx2x1.below hR
       replace Tx2x1 := Tx2x1.below hR
       replace P2 := P2.below hR
       replace P3 := P3.below hR
       replace P4 := P4.below hR
       replace BB := bl_trans BB hR
       clear hR hv
       go_upto_region 6 with (fail)
       refine wp_seq 10 ?_
       simp only [List.take_succ_cons, List.take_zero, List.drop_succ_cons, List.drop_zero]
       refine wp_seq_list (Ext := RB) (Rel := RBu) [fun v _ _ => v = .pointer (some ⟨(w.heap.size + 1), 1, none⟩), fun v _ _ => v = .slice Ax2x1 nx2x1 cx2x1, fun v _ _ => v = .pointer (some ⟨w.heap.size, 1, none⟩), fun v _ _ => v = .slice Ax1x1 nx1x1 cx1x1, fun v _ w => IsTB w v (z3.natAbs - z2.natAbs) k3 true, fun v _ w => IsTB w v (z3.natAbs - z2.natAbs) k3 true, fun v _ w => IsTr w v (z3.natAbs - z2.natAbs) k3, fun v _ _ => v = .bool true, fun v _ w => IsTr w v (z3.natAbs - z2.natAbs) k3, fun v _ _ => v = .bool true] (n := 10) (by kernel_rfl) (by kernel_rfl) (by kernel_rfl) (by kernel_rfl) (by kernel_rfl) (by kernel_rfl) (by kernel_rfl) rb_refl rb_trans ⟨sC, ⟨sC, ⟨sC, ⟨sC, ⟨sTB, ⟨sTB, ⟨sTr, ⟨sC, ⟨sTr, ⟨sC, trivial⟩⟩⟩⟩⟩⟩⟩⟩⟩⟩ ?_ ?_
       ·refine ⟨⟨⟨⟨⟨⟨⟨⟨⟨⟨trivial, ?_⟩, ?_⟩, ?_⟩, ?_⟩, ?_⟩, ?_⟩, ?_⟩, ?_⟩, ?_⟩, ?_⟩
        ·refine rs_plain rfl rfl fun a wr S => ?_
         have X := rbX S.ext
         exact wp_field1 (ev_of ((S.old 3 (by kernel_rfl)).trans rfl)) (done (by kernel_rfl) rbu_refl rfl)
        ·refine rs_plain rfl rfl fun a wr S => ?_
         have X := rbX S.ext
         obtain ⟨v0, e0, h0⟩ := S.got 0 (by kernel_rfl)
         exact wp_loadM ((ev_of (e0 34 (by kernel_rfl))).trans h0) (P3.below X) (done (by kernel_rfl) rbu_refl rfl)
        ·refine rs_plain rfl rfl fun a wr S => ?_
         have X := rbX S.ext
         exact wp_field1 (ev_of ((S.old 2 (by kernel_rfl)).trans rfl)) (done (by kernel_rfl) rbu_refl rfl)
        ·refine rs_plain rfl rfl fun a wr S => ?_
         have X := rbX S.ext
         obtain ⟨v2, e2, h2⟩ := S.got 2 (by kernel_rfl)
         exact wp_loadM ((ev_of (e2 36 (by kernel_rfl))).trans h2) (P2.below X) (done (by kernel_rfl) rbu_refl rfl)
        ·refine rs_plain rfl rfl fun a wr S => ?_
         have X := rbX S.ext
         obtain ⟨v1, e1, h1⟩ := S.got 1 (by kernel_rfl)
         obtain ⟨v3, e3, h3⟩ := S.got 3 (by kernel_rfl)
         exact st_call cf_ref01_Sub (args2 ((ev_of (e1 35 (by kernel_rfl))).trans h1) ((ev_of (e3 37 (by kernel_rfl))).trans h3)) (by kernel_rfl) rb (rSub ⟨_, _, _, rfl, Nx2x1.below X⟩ ⟨_, _, _, rfl, Nx1x1.below X⟩ (by omega) (by omega) (Nat.le_of_lt HL.out)) (fun _ _ _ h => h)
        ·refine rs_plain rfl rfl fun a wr S => ?_
         have X := rbX S.ext
         obtain ⟨v4, e4, h4⟩ := S.got 4 (by kernel_rfl)
         exact wp_mv (ev_of (e4 38 (by kernel_rfl))) (done (by kernel_rfl) rbu_refl h4)
        ·refine rs_plain rfl rfl fun a wr S => ?_
         have X := rbX S.ext
         obtain ⟨v5, e5, h5⟩ := S.got 5 (by kernel_rfl)
         obtain ⟨AA, nn, cc, hvv, TT⟩ := (show IsTB wr _ (z3.natAbs - z2.natAbs) k3 true from h5)
         exact wp_ext0 ((ev_of (e5 33 (by kernel_rfl))).trans hvv) (done (by kernel_rfl) rbu_refl ⟨_, _, _, rfl, TT⟩)
        ·refine rs_plain rfl rfl fun a wr S => ?_
         have X := rbX S.ext
         obtain ⟨v5, e5, h5⟩ := S.got 5 (by kernel_rfl)
         obtain ⟨AA, nn, cc, hvv, TT⟩ := (show IsTB wr _ (z3.natAbs - z2.natAbs) k3 true from h5)
         exact wp_ext1 ((ev_of (e5 33 (by kernel_rfl))).trans hvv) (done (by kernel_rfl) rbu_refl rfl)
        ·refine rs_plain rfl rfl fun a wr S => ?_
         have X := rbX S.ext
         obtain ⟨v6, e6, h6⟩ := S.got 6 (by kernel_rfl)
         exact wp_as (ev_of (e6 39 (by kernel_rfl))) (done (by kernel_rfl) rbu_refl h6)
        ·refine rs_plain rfl rfl fun a wr S => ?_
         have X := rbX S.ext
         obtain ⟨v7, e7, h7⟩ := S.got 7 (by kernel_rfl)
         exact wp_as ((ev_of (e7 40 (by kernel_rfl))).trans h7) (done (by kernel_rfl) rbu_refl rfl)
       ·intro fw19 w19 hR hv hap
        clear hap
        replace hR := rbX hR
        have f0 : fw19 0 = .pointer (some ⟨(w.heap.size + 1), 1, none⟩) := (hvc (hv 0 (by omega))).elim fun _ h => h
        have f1 : fw19 1 = .slice Ax2x1 nx2x1 cx2x1 := (hvc (hv 1 (by omega))).elim fun _ h => h
        have f2 : fw19 2 = .pointer (some ⟨w.heap.size, 1, none⟩) := (hvc (hv 2 (by omega))).elim fun _ h => h
        have f3 : fw19 3 = .slice Ax1x1 nx1x1 cx1x1 := (hvc (hv 3 (by omega))).elim fun _ h => h
        have f7 : fw19 7 = .bool true := (hvc (hv 7 (by omega))).elim fun _ h => h
        have f9 : fw19 9 = .bool true := (hvc (hv 9 (by omega))).elim fun _ h => h
        obtain ⟨Ax6x8, nx6x8, cx6x8, f8, Tx6x8⟩ := (show IsTr w19 _ (z3.natAbs - z2.natAbs) k3 from (hvc (hv 8 (by omega))).elim fun _ h => h)
        simp only [putFn, Act.put, List.setIfInBounds_toArray, List.set_cons_zero, List.set_cons_succ, f0, f1, f2, f3, f7, f9, f8]
        replace M2 := M2.below hR
        replace N2 := N2.below hR
        replace M3 := M3.below hR
        replace N3 := N3.below hR
        replace Vx1x1 := Vx1x1.below hR
        replace Nx1x1 := Nx1x1.below hR
        replace Tx1x1 := Tx1x1.below hR
        replace Vx2x1 := Vx2x1.below hR
        replace Nx2x1 := Nx2x1.below hR
        replace Tx2x1 := Tx2x1.below hR
        replace P2 := P2.below hR
        replace P3 := P3.below hR
        replace P4 := P4.below hR
        replace BB := bl_trans BB hR
        clear hR hv
        have Nx6x8 := Tx6x8.nm
        go_upto_region 7 with (fail)
        refine wp_seq 5 ?_
        simp only [List.take_succ_cons, List.take_zero, List.drop_succ_cons, List.drop_zero]
        refine wp_seq_list (Ext := RB) (Rel := RBu) [fun v _ _ => v = .pointer (some ⟨(w.heap.size + 1), 0, none⟩), fun v _ _ => v = .bool false, fun v _ _ => v = .slice Ax6x8 nx6x8 cx6x8, fun v _ w => IsM w v (zv false (z3.natAbs - z2.natAbs)) k3, fun v _ w => IsT w v (zv false (z3.natAbs - z2.natAbs)) k3] (n := 5) (by kernel_rfl) (by kernel_rfl) (by kernel_rfl) (by kernel_rfl) (by kernel_rfl) (by kernel_rfl) (by kernel_rfl) rb_refl rb_trans ⟨sC, ⟨sC, ⟨sC, ⟨sM, ⟨sT, trivial⟩⟩⟩⟩⟩ ?_ ?_
        ·refine ⟨⟨⟨⟨⟨trivial, ?_⟩, ?_⟩, ?_⟩, ?_⟩, ?_⟩
         ·refine rs_plain rfl rfl fun a wr S => ?_
          have X := rbX S.ext
          exact wp_field0 (ev_of ((S.old 3 (by kernel_rfl)).trans rfl)) (done (by kernel_rfl) rbu_refl rfl)
         ·refine rs_plain rfl rfl fun a wr S => ?_
          have X := rbX S.ext
          obtain ⟨v0, e0, h0⟩ := S.got 0 (by kernel_rfl)
          exact wp_loadB ((ev_of (e0 41 (by kernel_rfl))).trans h0) (P3.below X) (done (by kernel_rfl) rbu_refl rfl)
         ·refine rs_plain rfl rfl fun a wr S => ?_
          have X := rbX S.ext
          exact wp_mv (ev_of ((S.old 5 (by kernel_rfl)).trans rfl)) (done (by kernel_rfl) rbu_refl rfl)
         ·refine rs_plain rfl rfl fun a wr S => ?_
          have X := rbX S.ext
          obtain ⟨v1, e1, h1⟩ := S.got 1 (by kernel_rfl)
          obtain ⟨v2, e2, h2⟩ := S.got 2 (by kernel_rfl)
          exact wp_bZ ((ev_of (e1 42 (by kernel_rfl))).trans h1) ((ev_of (e2 43 (by kernel_rfl))).trans h2) (done (by kernel_rfl) rbu_refl ⟨_, _, _, _, rfl, ⟨⟨_, Nx6x8.below X, rfl⟩⟩⟩)
         ·refine rs_plain rfl rfl fun a wr S => ?_
          have X := rbX S.ext
          obtain ⟨v3, e3, h3⟩ := S.got 3 (by kernel_rfl)
          exact st_call cf_ref03_whole (args1 (ev_of (e3 44 (by kernel_rfl)))) (by kernel_rfl) rb (cWhole3 (show IsM _ _ _ _ from h3) (by omega)) (fun _ _ _ h => h)
        ·intro fw20 w20 hR hv hap
         clear hap
         replace hR := rbX hR
         have f0 : fw20 0 = .pointer (some ⟨(w.heap.size + 1), 0, none⟩) := (hvc (hv 0 (by omega))).elim fun _ h => h
         have f1 : fw20 1 = .bool false := (hvc (hv 1 (by omega))).elim fun _ h => h
         have f2 : fw20 2 = .slice Ax6x8 nx6x8 cx6x8 := (hvc (hv 2 (by omega))).elim fun _ h => h
         obtain ⟨bx7x4, Ax7x4, nx7x4, cx7x4, f4, Tx7x4, sx7x4⟩ := (show IsT w20 _ (zv false (z3.natAbs - z2.natAbs)) k3 from (hvc (hv 4 (by omega))).elim fun _ h => h)
         simp only [putFn, Act.put, List.setIfInBounds_toArray, List.set_cons_zero, List.set_cons_succ, f0, f1, f2, f4]
         replace M2 := M2.below hR
         replace N2 := N2.below hR
         replace M3 := M3.below hR
         replace N3 := N3.below hR
         replace Vx1x1 := Vx1x1.below hR
         replace Nx1x1 := Nx1x1.below hR
         replace Tx1x1 := Tx1x1.below hR
         replace Vx2x1 := Vx2x1.below hR
         replace Nx2x1 := Nx2x1.below hR
         replace Tx2x1 := Tx2x1.below hR
         replace Nx6x8 := Nx6x8.below hR
         replace Tx6x8 := Tx6x8.below hR
         replace P2 := P2.below hR
         replace P3 := P3.below hR
         replace P4 := P4.below hR
         replace BB := bl_trans BB hR
         clear hR hv
         have Vx7x4 : IsT w20 (.agg #[.bool bx7x4, .slice Ax7x4 nx7x4 cx7x4]) (zv false (z3.natAbs - z2.natAbs)) k3 := ⟨_, _, _, _, rfl, Tx7x4, sx7x4⟩
         have Nx7x4 := Tx7x4.nm
         have Sx7x4 := Lib.hid sx7x4
         clear sx7x4
         have r40 := P4.c0
         have t40 := P4.f 0
         have r41 := P4.c1
         have t41 := P4.f 1
         go_wp2_with fail
         clear r40 t40 r41 t41
         have KR := kr_put2 (b' := bx7x4) (A' := Ax7x4) (n' := nx7x4) (c' := cx7x4) P4
         replace M2 := M2.kr KR
         replace N2 := N2.kr KR
         replace M3 := M3.kr KR
         replace N3 := N3.kr KR
         replace Vx1x1 := Vx1x1.kr KR
         replace Nx1x1 := Nx1x1.kr KR
         replace Tx1x1 := Tx1x1.kr KR
         replace Vx2x1 := Vx2x1.kr KR
         replace Nx2x1 := Nx2x1.kr KR
         replace Tx2x1 := Tx2x1.kr KR
         replace Nx6x8 := Nx6x8.kr KR
         replace Tx6x8 := Tx6x8.kr KR
         replace Vx7x4 := Vx7x4.kr KR
         replace Nx7x4 := Nx7x4.kr KR
         replace Tx7x4 := Tx7x4.kr KR
         replace P2 := P2.put2 (g := (w.heap.size + 1 + 1)) (b' := bx7x4) (A' := Ax7x4) (n' := nx7x4) (c' := cx7x4) (by omega)
         replace P3 := P3.put2 (g := (w.heap.size + 1 + 1)) (b' := bx7x4) (A' := Ax7x4) (n' := nx7x4) (c' := cx7x4) (by omega)
         replace BB := Below.put2 (g := (w.heap.size + 1 + 1)) (b' := bx7x4) (A' := Ax7x4) (n' := nx7x4) (c' := cx7x4) BB (by omega)
         replace P4 := P4.set2 (b' := bx7x4) (A' := Ax7x4) (n' := nx7x4) (c' := cx7x4)
         clear KR
         generalize World.setCell _ ⟨w.heap.size + 1 + 1, 1, none⟩ _ = w21 at M2 N2 M3 N3 Vx1x1 Nx1x1 Tx1x1 Vx2x1 Nx2x1 Tx2x1 Nx6x8 Tx6x8 Vx7x4 Nx7x4 Tx7x4 P2 P3 P4 BB ⊢
         have rc0 := P4.c0
         have rc1 := P4.c1
         exact bodyPost_ret (v := .agg #[.bool bx7x4, .slice Ax7x4 nx7x4 cx7x4]) (by simp [results, Tryz.results63, go_sem, rc0, rc1]) rfl ⟨_, rfl, BB, by rw [plus_lt Sx1x1.out Sx2x1.out (by decide) (Nat.le_of_lt HL.out)] at Vx7x4; exact Vx7x4.mono (by omega)⟩
     ·have HL := Lib.hid (show z3.natAbs ≤ z2.natAbs from Nat.not_lt.1 fun h => hx (hlt.2 h))
      clear hlt
      refine wp_seq 6 ?_
      simp only [List.take_succ_cons, List.take_zero, List.drop_succ_cons, List.drop_zero]
      refine wp_seq_list (Ext := RB) (Rel := RBu) [fun v _ _ => v = .pointer (some ⟨w.heap.size, 1, none⟩), fun v _ _ => v = .slice Ax1x1 nx1x1 cx1x1, fun v _ _ => v = .pointer (some ⟨(w.heap.size + 1), 1, none⟩), fun v _ _ => v = .slice Ax2x1 nx2x1 cx2x1, fun v _ _ => v = .int .i64 c, fun v _ _ => v = .bool false] (n := 6) (by kernel_rfl) (by kernel_rfl) (by kernel_rfl) (by kernel_rfl) (by kernel_rfl) (by kernel_rfl) (by kernel_rfl) rb_refl rb_trans ⟨sC, ⟨sC, ⟨sC, ⟨sC, ⟨sC, ⟨sC, trivial⟩⟩⟩⟩⟩⟩ ?_ ?_
      ·refine ⟨⟨⟨⟨⟨⟨trivial, ?_⟩, ?_⟩, ?_⟩, ?_⟩, ?_⟩, ?_⟩
       ·refine rs_plain rfl rfl fun a wr S => ?_
        have X := rbX S.ext
        exact wp_field1 (ev_of ((S.old 2 (by kernel_rfl)).trans rfl)) (done (by kernel_rfl) rbu_refl rfl)
       ·refine rs_plain rfl rfl fun a wr S => ?_
        have X := rbX S.ext
        obtain ⟨v0, e0, h0⟩ := S.got 0 (by kernel_rfl)
        exact wp_loadM ((ev_of (e0 27 (by kernel_rfl))).trans h0) (P2.below X) (done (by kernel_rfl) rbu_refl rfl)
       ·refine rs_plain rfl rfl fun a wr S => ?_
        have X := rbX S.ext
        exact wp_field1 (ev_of ((S.old 3 (by kernel_rfl)).trans rfl)) (done (by kernel_rfl) rbu_refl rfl)
       ·refine rs_plain rfl rfl fun a wr S => ?_
        have X := rbX S.ext
        obtain ⟨v2, e2, h2⟩ := S.got 2 (by kernel_rfl)
        exact wp_loadM ((ev_of (e2 29 (by kernel_rfl))).trans h2) (P3.below X) (done (by kernel_rfl) rbu_refl rfl)
       ·refine rs_plain rfl rfl fun a wr S => ?_
        have X := rbX S.ext
        obtain ⟨v1, e1, h1⟩ := S.got 1 (by kernel_rfl)
        obtain ⟨v3, e3, h3⟩ := S.got 3 (by kernel_rfl)
        exact st_call cf_ref01_Cmp (args2 ((ev_of (e1 28 (by kernel_rfl))).trans h1) ((ev_of (e3 30 (by kernel_rfl))).trans h3)) (by kernel_rfl) rb ((rCmp ⟨_, _, _, rfl, Nx1x1.below X⟩ ⟨_, _, _, rfl, Nx2x1.below X⟩ (by omega) (by omega)).mono (ans_intW HC.out)) (fun _ _ _ h => h)
       ·refine rs_plain rfl rfl fun a wr S => ?_
        have X := rbX S.ext
        obtain ⟨v4, e4, h4⟩ := S.got 4 (by kernel_rfl)
        exact wp_ltI ((ev_of (e4 31 (by kernel_rfl))).trans h4) rfl (done (by kernel_rfl) rbu_refl (congrArg Value.bool (decide_eq_false hx)))
      ·intro fw22 w22 hR hv hap
       clear hap
       replace hR := rbX hR
       have f0 : fw22 0 = .pointer (some ⟨w.heap.size, 1, none⟩) := (hvc (hv 0 (by omega))).elim fun _ h => h
       have f1 : fw22 1 = .slice Ax1x1 nx1x1 cx1x1 := (hvc (hv 1 (by omega))).elim fun _ h => h
       have f2 : fw22 2 = .pointer (some ⟨(w.heap.size + 1), 1, none⟩) := (hvc (hv 2 (by omega))).elim fun _ h => h
       have f3 : fw22 3 = .slice Ax2x1 nx2x1 cx2x1 := (hvc (hv 3 (by omega))).elim fun _ h => h
       have f4 : fw22 4 = .int .i64 c := (hvc (hv 4 (by omega))).elim fun _ h => h
       have f5 : fw22 5 = .bool false := (hvc (hv 5 (by omega))).elim fun _ h => h
       simp only [putFn, Act.put, List.setIfInBounds_toArray, List.set_cons_zero, List.set_cons_succ, f0, f1, f2, f3, f4, f5]
       replace M2 := M2.below hR
       replace N2 := N2.below hR
       replace M3 := M3.below hR
       replace N3 := N3.below hR
       replace Vx1x1 := Vx1x1.below hR
       replace Nx1x1 := Nx1x1.below hR
       replace Tx1x1 := Tx1x1.below hR
       replace Vx2x1 := Vx2x1.below hR
       replace Nx2x1 := Nx2x1.below hR
       replace Tx2x1 := Tx2x1.below hR
       replace P2 := P2.below hR
       replace P3 := P3.below hR
       replace P4 := P4.below hR
       replace BB := bl_trans BB hR
       clear hR hv
       go_upto_region 8 with (fail)
       refine wp_seq 10 ?_
       simp only [List.take_succ_cons, List.take_zero, List.drop_succ_cons, List.drop_zero]
       refine wp_seq_list (Ext := RB) (Rel := RBu) [fun v _ _ => v = .pointer (some ⟨w.heap.size, 1, none⟩), fun v _ _ => v = .slice Ax1x1 nx1x1 cx1x1, fun v _ _ => v = .pointer (some ⟨(w.heap.size + 1), 1, none⟩), fun v _ _ => v = .slice Ax2x1 nx2x1 cx2x1, fun v _ w => IsTB w v (z2.natAbs - z3.natAbs) k2 true, fun v _ w => IsTB w v (z2.natAbs - z3.natAbs) k2 true, fun v _ w => IsTr w v (z2.natAbs - z3.natAbs) k2, fun v _ _ => v = .bool true, fun v _ w => IsTr w v (z2.natAbs - z3.natAbs) k2, fun v _ _ => v = .bool true] (n := 10) (by kernel_rfl) (by kernel_rfl) (by kernel_rfl) (by kernel_rfl) (by kernel_rfl) (by kernel_rfl) (by kernel_rfl) rb_refl rb_trans ⟨sC, ⟨sC, ⟨sC, ⟨sC, ⟨sTB, ⟨sTB, ⟨sTr, ⟨sC, ⟨sTr, ⟨sC, trivial⟩⟩⟩⟩⟩⟩⟩⟩⟩⟩ ?_ ?_
       ·refine ⟨⟨⟨⟨⟨⟨⟨⟨⟨⟨trivial, ?_⟩, ?_⟩, ?_⟩, ?_⟩, ?_⟩, ?_⟩, ?_⟩, ?_⟩, ?_⟩, ?_⟩
        ·refine rs_plain rfl rfl fun a wr S => ?_
         have X := rbX S.ext
         exact wp_field1 (ev_of ((S.old 2 (by kernel_rfl)).trans rfl)) (done (by kernel_rfl) rbu_refl rfl)
        ·refine rs_plain rfl rfl fun a wr S => ?_
         have X := rbX S.ext
         obtain ⟨v0, e0, h0⟩ := S.got 0 (by kernel_rfl)
         exact wp_loadM ((ev_of (e0 47 (by kernel_rfl))).trans h0) (P2.below X) (done (by kernel_rfl) rbu_refl rfl)
        ·refine rs_plain rfl rfl fun a wr S => ?_
         have X := rbX S.ext
         exact wp_field1 (ev_of ((S.old 3 (by kernel_rfl)).trans rfl)) (done (by kernel_rfl) rbu_refl rfl)
        ·refine rs_plain rfl rfl fun a wr S => ?_
         have X := rbX S.ext
         obtain ⟨v2, e2, h2⟩ := S.got 2 (by kernel_rfl)
         exact wp_loadM ((ev_of (e2 49 (by kernel_rfl))).trans h2) (P3.below X) (done (by kernel_rfl) rbu_refl rfl)
        ·refine rs_plain rfl rfl fun a wr S => ?_
         have X := rbX S.ext
         obtain ⟨v1, e1, h1⟩ := S.got 1 (by kernel_rfl)
         obtain ⟨v3, e3, h3⟩ := S.got 3 (by kernel_rfl)
         exact st_call cf_ref01_Sub (args2 ((ev_of (e1 48 (by kernel_rfl))).trans h1) ((ev_of (e3 50 (by kernel_rfl))).trans h3)) (by kernel_rfl) rb (rSub ⟨_, _, _, rfl, Nx1x1.below X⟩ ⟨_, _, _, rfl, Nx2x1.below X⟩ (by omega) (by omega) HL.out) (fun _ _ _ h => h)
        ·refine rs_plain rfl rfl fun a wr S => ?_
         have X := rbX S.ext
         obtain ⟨v4, e4, h4⟩ := S.got 4 (by kernel_rfl)
         exact wp_mv (ev_of (e4 51 (by kernel_rfl))) (done (by kernel_rfl) rbu_refl h4)
        ·refine rs_plain rfl rfl fun a wr S => ?_
         have X := rbX S.ext
         obtain ⟨v5, e5, h5⟩ := S.got 5 (by kernel_rfl)
         obtain ⟨AA, nn, cc, hvv, TT⟩ := (show IsTB wr _ (z2.natAbs - z3.natAbs) k2 true from h5)
         exact wp_ext0 ((ev_of (e5 46 (by kernel_rfl))).trans hvv) (done (by kernel_rfl) rbu_refl ⟨_, _, _, rfl, TT⟩)
        ·refine rs_plain rfl rfl fun a wr S => ?_
         have X := rbX S.ext
         obtain ⟨v5, e5, h5⟩ := S.got 5 (by kernel_rfl)
         obtain ⟨AA, nn, cc, hvv, TT⟩ := (show IsTB wr _ (z2.natAbs - z3.natAbs) k2 true from h5)
         exact wp_ext1 ((ev_of (e5 46 (by kernel_rfl))).trans hvv) (done (by kernel_rfl) rbu_refl rfl)
        ·refine rs_plain rfl rfl fun a wr S => ?_
         have X := rbX S.ext
         obtain ⟨v6, e6, h6⟩ := S.got 6 (by kernel_rfl)
         exact wp_as (ev_of (e6 52 (by kernel_rfl))) (done (by kernel_rfl) rbu_refl h6)
        ·refine rs_plain rfl rfl fun a wr S => ?_
         have X := rbX S.ext
         obtain ⟨v7, e7, h7⟩ := S.got 7 (by kernel_rfl)
         exact wp_as ((ev_of (e7 53 (by kernel_rfl))).trans h7) (done (by kernel_rfl) rbu_refl rfl)
       ·intro fw23 w23 hR hv hap
        clear hap
        replace hR := rbX hR
        have f0 : fw23 0 = .pointer (some ⟨w.heap.size, 1, none⟩) := (hvc (hv 0 (by omega))).elim fun _ h => h
        have f1 : fw23 1 = .slice Ax1x1 nx1x1 cx1x1 := (hvc (hv 1 (by omega))).elim fun _ h => h
        have f2 : fw23 2 = .pointer (some ⟨(w.heap.size + 1), 1, none⟩) := (hvc (hv 2 (by omega))).elim fun _ h => h
        have f3 : fw23 3 = .slice Ax2x1 nx2x1 cx2x1 := (hvc (hv 3 (by omega))).elim fun _ h => h
        have f7 : fw23 7 = .bool true := (hvc (hv 7 (by omega))).elim fun _ h => h
        have f9 : fw23 9 = .bool true := (hvc (hv 9 (by omega))).elim fun _ h => h
        obtain ⟨Ax8x8, nx8x8, cx8x8, f8, Tx8x8⟩ := (show IsTr w23 _ (z2.natAbs - z3.natAbs) k2 from (hvc (hv 8 (by omega))).elim fun _ h => h)
        simp only [putFn, Act.put, List.setIfInBounds_toArray, List.set_cons_zero, List.set_cons_succ, f0, f1, f2, f3, f7, f9, f8]
        replace M2 := M2.below hR
        replace N2 := N2.below hR
        replace M3 := M3.below hR
        replace N3 := N3.below hR
        replace Vx1x1 := Vx1x1.below hR
        replace Nx1x1 := Nx1x1.below hR
        replace Tx1x1 := Tx1x1.below hR
        replace Vx2x1 := Vx2x1.below hR
        replace Nx2x1 := Nx2x1.below hR
        replace Tx2x1 := Tx2x1.below hR
        replace P2 := P2.below hR
        replace P3 := P3.below hR
        replace P4 := P4.below hR
        replace BB := bl_trans BB hR
        clear hR hv
        have Nx8x8 := Tx8x8.nm
        go_upto_region 9 with (fail)
        refine wp_seq 5 ?_
        simp only [List.take_succ_cons, List.take_zero, List.drop_succ_cons, List.drop_zero]
        refine wp_seq_list (Ext := RB) (Rel := RBu) [fun v _ _ => v = .pointer (some ⟨w.heap.size, 0, none⟩), fun v _ _ => v = .bool true, fun v _ _ => v = .slice Ax8x8 nx8x8 cx8x8, fun v _ w => IsM w v (zv true (z2.natAbs - z3.natAbs)) k2, fun v _ w => IsT w v (zv true (z2.natAbs - z3.natAbs)) k2] (n := 5) (by kernel_rfl) (by kernel_rfl) (by kernel_rfl) (by kernel_rfl) (by kernel_rfl) (by kernel_rfl) (by kernel_rfl) rb_refl rb_trans ⟨sC, ⟨sC, ⟨sC, ⟨sM, ⟨sT, trivial⟩⟩⟩⟩⟩ ?_ ?_
        ·refine ⟨⟨⟨⟨⟨trivial, ?_⟩, ?_⟩, ?_⟩, ?_⟩, ?_⟩
         ·refine rs_plain rfl rfl fun a wr S => ?_
          have X := rbX S.ext
          exact wp_field0 (ev_of ((S.old 2 (by kernel_rfl)).trans rfl)) (done (by kernel_rfl) rbu_refl rfl)
         ·refine rs_plain rfl rfl fun a wr S => ?_
          have X := rbX S.ext
          obtain ⟨v0, e0, h0⟩ := S.got 0 (by kernel_rfl)
          exact wp_loadB ((ev_of (e0 54 (by kernel_rfl))).trans h0) (P2.below X) (done (by kernel_rfl) rbu_refl rfl)
         ·refine rs_plain rfl rfl fun a wr S => ?_
          have X := rbX S.ext
          exact wp_mv (ev_of ((S.old 7 (by kernel_rfl)).trans rfl)) (done (by kernel_rfl) rbu_refl rfl)
         ·refine rs_plain rfl rfl fun a wr S => ?_
          have X := rbX S.ext
          obtain ⟨v1, e1, h1⟩ := S.got 1 (by kernel_rfl)
          obtain ⟨v2, e2, h2⟩ := S.got 2 (by kernel_rfl)
          exact wp_bZ ((ev_of (e1 55 (by kernel_rfl))).trans h1) ((ev_of (e2 56 (by kernel_rfl))).trans h2) (done (by kernel_rfl) rbu_refl ⟨_, _, _, _, rfl, ⟨⟨_, Nx8x8.below X, rfl⟩⟩⟩)
         ·refine rs_plain rfl rfl fun a wr S => ?_
          have X := rbX S.ext
          obtain ⟨v3, e3, h3⟩ := S.got 3 (by kernel_rfl)
          exact st_call cf_ref03_whole (args1 (ev_of (e3 57 (by kernel_rfl)))) (by kernel_rfl) rb (cWhole3 (show IsM _ _ _ _ from h3) (by omega)) (fun _ _ _ h => h)
        ·intro fw24 w24 hR hv hap
         clear hap
         replace hR := rbX hR
         have f0 : fw24 0 = .pointer (some ⟨w.heap.size, 0, none⟩) := (hvc (hv 0 (by omega))).elim fun _ h => h
         have f1 : fw24 1 = .bool true := (hvc (hv 1 (by omega))).elim fun _ h => h
         have f2 : fw24 2 = .slice Ax8x8 nx8x8 cx8x8 := (hvc (hv 2 (by omega))).elim fun _ h => h
         obtain ⟨bx9x4, Ax9x4, nx9x4, cx9x4, f4, Tx9x4, sx9x4⟩ := (show IsT w24 _ (zv true (z2.natAbs - z3.natAbs)) k2 from (hvc (hv 4 (by omega))).elim fun _ h => h)
         simp only [putFn, Act.put, List.setIfInBounds_toArray, List.set_cons_zero, List.set_cons_succ, f0, f1, f2, f4]
         replace M2 := M2.below hR
         replace N2 := N2.below hR
         replace M3 := M3.below hR
         replace N3 := N3.below hR
         replace Vx1x1 := Vx1x1.below hR
         replace Nx1x1 := Nx1x1.below hR
         replace Tx1x1 := Tx1x1.below hR
         replace Vx2x1 := Vx2x1.below hR
         replace Nx2x1 := Nx2x1.below hR
         replace Tx2x1 := Tx2x1.below hR
         replace Nx8x8 := Nx8x8.below hR
         replace Tx8x8 := Tx8x8.below hR
         replace P2 := P2.below hR
         replace P3 := P3.below hR
         replace P4 := P4.below hR
         replace BB := bl_trans BB hR
         clear hR hv
         have Vx9x4 : IsT w24 (.agg #[.bool bx9x4, .slice Ax9x4 nx9x4 cx9x4]) (zv true (z2.natAbs - z3.natAbs)) k2 := ⟨_, _, _, _, rfl, Tx9x4, sx9x4⟩
         have Nx9x4 := Tx9x4.nm
         have Sx9x4 := Lib.hid sx9x4
         clear sx9x4
         have r40 := P4.c0
         have t40 := P4.f 0
         have r41 := P4.c1
         have t41 := P4.f 1
         go_wp2_with fail
         clear r40 t40 r41 t41
         have KR := kr_put2 (b' := bx9x4) (A' := Ax9x4) (n' := nx9x4) (c' := cx9x4) P4
         replace M2 := M2.kr KR
         replace N2 := N2.kr KR
         replace M3 := M3.kr KR
         replace N3 := N3.kr KR
         replace Vx1x1 := Vx1x1.kr KR
         replace Nx1x1 := Nx1x1.kr KR
         replace Tx1x1 := Tx1x1.kr KR
         replace Vx2x1 := Vx2x1.kr KR
         replace Nx2x1 := Nx2x1.kr KR
         replace Tx2x1 := Tx2x1.kr KR
         replace Nx8x8 := Nx8x8.kr KR
         replace Tx8x8 := Tx8x8.kr KR
         replace Vx9x4 := Vx9x4.kr KR
         replace Nx9x4 := Nx9x4.kr KR
         replace Tx9x4 := Tx9x4.kr KR
         replace P2 := P2.put2 (g := (w.heap.size + 1 + 1)) (b' := bx9x4) (A' := Ax9x4) (n' := nx9x4) (c' := cx9x4) (by omega)
         replace P3 := P3.put2 (g := (w.heap.size + 1 + 1)) (b' := bx9x4) (A' := Ax9x4) (n' := nx9x4) (c' := cx9x4) (by omega)
         replace BB := Below.put2 (g := (w.heap.size + 1 + 1)) (b' := bx9x4) (A' := Ax9x4) (n' := nx9x4) (c' := cx9x4) BB (by omega)
         replace P4 := P4.set2 (b' := bx9x4) (A' := Ax9x4) (n' := nx9x4) (c' := cx9x4)
         clear KR
         generalize World.setCell _ ⟨w.heap.size + 1 + 1, 1, none⟩ _ = w25 at M2 N2 M3 N3 Vx1x1 Nx1x1 Tx1x1 Vx2x1 Nx2x1 Tx2x1 Nx8x8 Tx8x8 Vx9x4 Nx9x4 Tx9x4 P2 P3 P4 BB ⊢
         have rc0 := P4.c0
         have rc1 := P4.c1
         exact bodyPost_ret (v := .agg #[.bool bx9x4, .slice Ax9x4 nx9x4 cx9x4]) (by simp [results, Tryz.results63, go_sem, rc0, rc1]) rfl ⟨_, rfl, BB, by rw [plus_gt Sx1x1.out Sx2x1.out (by decide) HL.out] at Vx9x4; exact Vx9x4.mono (by omega)⟩
   ·skip
    refine wp_seq 5 ?_
    simp only [List.take_succ_cons, List.take_zero, List.drop_succ_cons, List.drop_zero]
    refine wp_seq_list (Ext := RB) (Rel := RBu) [fun v _ _ => v = .pointer (some ⟨w.heap.size, 0, none⟩), fun v _ _ => v = .bool true, fun v _ _ => v = .pointer (some ⟨(w.heap.size + 1), 0, none⟩), fun v _ _ => v = .bool true, fun v _ _ => v = .bool true] (n := 5) (by kernel_rfl) (by kernel_rfl) (by kernel_rfl) (by kernel_rfl) (by kernel_rfl) (by kernel_rfl) (by kernel_rfl) rb_refl rb_trans ⟨sC, ⟨sC, ⟨sC, ⟨sC, ⟨sC, trivial⟩⟩⟩⟩⟩ ?_ ?_
    ·refine ⟨⟨⟨⟨⟨trivial, ?_⟩, ?_⟩, ?_⟩, ?_⟩, ?_⟩
     ·refine rs_plain rfl rfl fun a wr S => ?_
      have X := rbX S.ext
      exact wp_field0 (ev_of ((S.old 2 (by kernel_rfl)).trans rfl)) (done (by kernel_rfl) rbu_refl rfl)
     ·refine rs_plain rfl rfl fun a wr S => ?_
      have X := rbX S.ext
      obtain ⟨v0, e0, h0⟩ := S.got 0 (by kernel_rfl)
      exact wp_loadB ((ev_of (e0 13 (by kernel_rfl))).trans h0) (P2.below X) (done (by kernel_rfl) rbu_refl rfl)
     ·refine rs_plain rfl rfl fun a wr S => ?_
      have X := rbX S.ext
      exact wp_field0 (ev_of ((S.old 3 (by kernel_rfl)).trans rfl)) (done (by kernel_rfl) rbu_refl rfl)
     ·refine rs_plain rfl rfl fun a wr S => ?_
      have X := rbX S.ext
      obtain ⟨v2, e2, h2⟩ := S.got 2 (by kernel_rfl)
      exact wp_loadB ((ev_of (e2 15 (by kernel_rfl))).trans h2) (P3.below X) (done (by kernel_rfl) rbu_refl rfl)
     ·refine rs_plain rfl rfl fun a wr S => ?_
      have X := rbX S.ext
      obtain ⟨v1, e1, h1⟩ := S.got 1 (by kernel_rfl)
      obtain ⟨v3, e3, h3⟩ := S.got 3 (by kernel_rfl)
      exact wp_eqB ((ev_of (e1 14 (by kernel_rfl))).trans h1) ((ev_of (e3 16 (by kernel_rfl))).trans h3) (done (by kernel_rfl) rbu_refl (congrArg Value.bool (by decide)))
    ·intro fw26 w26 hR hv hap
     clear hap
     replace hR := rbX hR
     have f0 : fw26 0 = .pointer (some ⟨w.heap.size, 0, none⟩) := (hvc (hv 0 (by omega))).elim fun _ h => h
     have f1 : fw26 1 = .bool true := (hvc (hv 1 (by omega))).elim fun _ h => h
     have f2 : fw26 2 = .pointer (some ⟨(w.heap.size + 1), 0, none⟩) := (hvc (hv 2 (by omega))).elim fun _ h => h
     have f3 : fw26 3 = .bool true := (hvc (hv 3 (by omega))).elim fun _ h => h
     have f4 : fw26 4 = .bool true := (hvc (hv 4 (by omega))).elim fun _ h => h
     simp only [putFn, Act.put, List.setIfInBounds_toArray, List.set_cons_zero, List.set_cons_succ, f0, f1, f2, f3, f4]
     replace M2 := M2.below hR
     replace N2 := N2.below hR
     replace M3 := M3.below hR
     replace N3 := N3.below hR
     replace Vx1x1 := Vx1x1.below hR
     replace Nx1x1 := Nx1x1.below hR
     replace Tx1x1 := Tx1x1.below hR
     replace Vx2x1 := Vx2x1.below hR
     replace Nx2x1 := Nx2x1.below hR
     replace Tx2x1 := Tx2x1.below hR
     replace P2 := P2.below hR
     replace P3 := P3.below hR
     replace P4 := P4.below hR
     replace BB := bl_trans BB hR
     clear hR hv
     go_upto_region 4 with (fail)
     refine wp_cut (by kernel_rfl) 9 ?_
     simp only [List.take_succ_cons, List.take_zero, List.drop_succ_cons, List.drop_zero]
     refine wp_cut_list (Ext := RB) (Rel := RBu) [fun v _ _ => v = .pointer (some ⟨w.heap.size, 0, none⟩), fun v _ _ => v = .bool true, fun v _ _ => v = .pointer (some ⟨w.heap.size, 1, none⟩), fun v _ _ => v = .slice Ax1x1 nx1x1 cx1x1, fun v _ _ => v = .pointer (some ⟨(w.heap.size + 1), 1, none⟩), fun v _ _ => v = .slice Ax2x1 nx2x1 cx2x1, fun v _ w => IsTr w v (z2.natAbs + z3.natAbs) ((max k2 k3) + 1), fun v _ w => IsM w v (zv true (z2.natAbs + z3.natAbs)) ((max k2 k3) + 1), fun v _ w => IsT w v (zv true (z2.natAbs + z3.natAbs)) ((max k2 k3) + 1)] (n := 9) (by kernel_rfl) (by kernel_rfl) (by kernel_rfl) (by kernel_rfl) (by kernel_rfl) (by kernel_rfl) (by kernel_rfl) (by kernel_rfl) (by kernel_rfl) rb_refl rb_trans ⟨sC, ⟨sC, ⟨sC, ⟨sC, ⟨sC, ⟨sC, ⟨sTr, ⟨sM, ⟨sT, trivial⟩⟩⟩⟩⟩⟩⟩⟩⟩ ?_ ?_
     ·refine ⟨⟨⟨⟨⟨⟨⟨⟨⟨trivial, ?_⟩, ?_⟩, ?_⟩, ?_⟩, ?_⟩, ?_⟩, ?_⟩, ?_⟩, ?_⟩
      ·refine rs_plain rfl rfl fun a wr S => ?_
       have X := undrew S.ext
       exact wp_field0 (ev_of ((S.old 2 (by kernel_rfl)).trans rfl)) (done (by kernel_rfl) rbu_refl rfl)
      ·refine rs_plain rfl rfl fun a wr S => ?_
       have X := undrew S.ext
       obtain ⟨v0, e0, h0⟩ := S.got 0 (by kernel_rfl)
       exact wp_loadB ((ev_of (e0 18 (by kernel_rfl))).trans h0) (P2.below X) (done (by kernel_rfl) rbu_refl rfl)
      ·refine rs_plain rfl rfl fun a wr S => ?_
       have X := undrew S.ext
       exact wp_field1 (ev_of ((S.old 2 (by kernel_rfl)).trans rfl)) (done (by kernel_rfl) rbu_refl rfl)
      ·refine rs_plain rfl rfl fun a wr S => ?_
       have X := undrew S.ext
       obtain ⟨v2, e2, h2⟩ := S.got 2 (by kernel_rfl)
       exact wp_loadM ((ev_of (e2 20 (by kernel_rfl))).trans h2) (P2.below X) (done (by kernel_rfl) rbu_refl rfl)
      ·refine rs_plain rfl rfl fun a wr S => ?_
       have X := undrew S.ext
       exact wp_field1 (ev_of ((S.old 3 (by kernel_rfl)).trans rfl)) (done (by kernel_rfl) rbu_refl rfl)
      ·refine rs_plain rfl rfl fun a wr S => ?_
       have X := undrew S.ext
       obtain ⟨v4, e4, h4⟩ := S.got 4 (by kernel_rfl)
       exact wp_loadM ((ev_of (e4 22 (by kernel_rfl))).trans h4) (P3.below X) (done (by kernel_rfl) rbu_refl rfl)
      ·refine rs_plain rfl rfl fun a wr S => ?_
       have X := undrew S.ext
       obtain ⟨v3, e3, h3⟩ := S.got 3 (by kernel_rfl)
       obtain ⟨v5, e5, h5⟩ := S.got 5 (by kernel_rfl)
       exact st_call cf_ref01_Add (args2 ((ev_of (e3 21 (by kernel_rfl))).trans h3) ((ev_of (e5 23 (by kernel_rfl))).trans h5)) (by kernel_rfl) rb (rAdd ⟨_, _, _, rfl, Nx1x1.below X⟩ ⟨_, _, _, rfl, Nx2x1.below X⟩ (by omega) (by omega)) (fun _ _ _ h => h)
      ·refine rs_plain rfl rfl fun a wr S => ?_
       have X := undrew S.ext
       obtain ⟨v1, e1, h1⟩ := S.got 1 (by kernel_rfl)
       obtain ⟨v6, e6, h6⟩ := S.got 6 (by kernel_rfl)
       obtain ⟨AA, nn, cc, hvv, TT⟩ := (show IsTr wr _ (z2.natAbs + z3.natAbs) ((max k2 k3) + 1) from h6)
       exact wp_bZ ((ev_of (e1 19 (by kernel_rfl))).trans h1) ((ev_of (e6 24 (by kernel_rfl))).trans hvv) (done (by kernel_rfl) rbu_refl ⟨_, _, _, _, rfl, ⟨⟨_, TT.nm, rfl⟩⟩⟩)
      ·refine rs_plain rfl rfl fun a wr S => ?_
       have X := undrew S.ext
       obtain ⟨v7, e7, h7⟩ := S.got 7 (by kernel_rfl)
       exact st_call cf_ref03_whole (args1 (ev_of (e7 25 (by kernel_rfl)))) (by kernel_rfl) rb (cWhole3 (show IsM _ _ _ _ from h7) (by omega)) (fun _ _ _ h => h)
     ·intro fw27 w27 hR hv hap
      clear hap
      replace hR := undrew hR
      have f0 : fw27 0 = .pointer (some ⟨w.heap.size, 0, none⟩) := (hvc (hv 0 (by omega))).elim fun _ h => h
      have f1 : fw27 1 = .bool true := (hvc (hv 1 (by omega))).elim fun _ h => h
      have f2 : fw27 2 = .pointer (some ⟨w.heap.size, 1, none⟩) := (hvc (hv 2 (by omega))).elim fun _ h => h
      have f3 : fw27 3 = .slice Ax1x1 nx1x1 cx1x1 := (hvc (hv 3 (by omega))).elim fun _ h => h
      have f4 : fw27 4 = .pointer (some ⟨(w.heap.size + 1), 1, none⟩) := (hvc (hv 4 (by omega))).elim fun _ h => h
      have f5 : fw27 5 = .slice Ax2x1 nx2x1 cx2x1 := (hvc (hv 5 (by omega))).elim fun _ h => h
      obtain ⟨bx4x8, Ax4x8, nx4x8, cx4x8, f8, Tx4x8, sx4x8⟩ := (show IsT w27 _ (zv true (z2.natAbs + z3.natAbs)) ((max k2 k3) + 1) from (hvc (hv 8 (by omega))).elim fun _ h => h)
      simp only [putFn, Act.put, List.setIfInBounds_toArray, List.set_cons_zero, List.set_cons_succ, f0, f1, f2, f3, f4, f5, f8]
      replace M2 := M2.below hR
      replace N2 := N2.below hR
      replace M3 := M3.below hR
      replace N3 := N3.below hR
      replace Vx1x1 := Vx1x1.below hR
      replace Nx1x1 := Nx1x1.below hR
      replace Tx1x1 := Tx1x1.below hR
      replace Vx2x1 := Vx2x1.below hR
      replace Nx2x1 := Nx2x1.below hR
      replace Tx2x1 := Tx2x1.below hR
      replace P2 := P2.below hR
      replace P3 := P3.below hR
      replace P4 := P4.below hR
      replace BB := bl_trans BB hR
      clear hR hv
      have Vx4x8 : IsT w27 (.agg #[.bool bx4x8, .slice Ax4x8 nx4x8 cx4x8]) (zv true (z2.natAbs + z3.natAbs)) ((max k2 k3) + 1) := ⟨_, _, _, _, rfl, Tx4x8, sx4x8⟩
      have Nx4x8 := Tx4x8.nm
      have Sx4x8 := Lib.hid sx4x8
      clear sx4x8
      have r40 := P4.c0
      have t40 := P4.f 0
      have r41 := P4.c1
      have t41 := P4.f 1
      go_wp2_with fail
      clear r40 t40 r41 t41
      have KR := kr_put2 (b' := bx4x8) (A' := Ax4x8) (n' := nx4x8) (c' := cx4x8) P4
      replace M2 := M2.kr KR
      replace N2 := N2.kr KR
      replace M3 := M3.kr KR
      replace N3 := N3.kr KR
      replace Vx1x1 := Vx1x1.kr KR
      replace Nx1x1 := Nx1x1.kr KR
      replace Tx1x1 := Tx1x1.kr KR
      replace Vx2x1 := Vx2x1.kr KR
      replace Nx2x1 := Nx2x1.kr KR
      replace Tx2x1 := Tx2x1.kr KR
      replace Vx4x8 := Vx4x8.kr KR
      replace Nx4x8 := Nx4x8.kr KR
      replace Tx4x8 := Tx4x8.kr KR
      replace P2 := P2.put2 (g := (w.heap.size + 1 + 1)) (b' := bx4x8) (A' := Ax4x8) (n' := nx4x8) (c' := cx4x8) (by omega)
      replace P3 := P3.put2 (g := (w.heap.size + 1 + 1)) (b' := bx4x8) (A' := Ax4x8) (n' := nx4x8) (c' := cx4x8) (by omega)
      replace BB := Below.put2 (g := (w.heap.size + 1 + 1)) (b' := bx4x8) (A' := Ax4x8) (n' := nx4x8) (c' := cx4x8) BB (by omega)
      replace P4 := P4.set2 (b' := bx4x8) (A' := Ax4x8) (n' := nx4x8) (c' := cx4x8)
      clear KR
      generalize World.setCell _ ⟨w.heap.size + 1 + 1, 1, none⟩ _ = w28 at M2 N2 M3 N3 Vx1x1 Nx1x1 Tx1x1 Vx2x1 Nx2x1 Tx2x1 Vx4x8 Nx4x8 Tx4x8 P2 P3 P4 BB ⊢
      have rc0 := P4.c0
      have rc1 := P4.c1
      exact bodyPost_ret (v := .agg #[.bool bx4x8, .slice Ax4x8 nx4x8 cx4x8]) (by simp [results, Tryz.results63, go_sem, rc0, rc1]) rfl ⟨_, rfl, BB, by rw [plus_same Sx1x1.out Sx2x1.out] at Vx4x8; exact Vx4x8⟩
theorem cOf3R (h2 : IsM w v2 z2 k2) (h3 : IsM w v3 z3 k3) (hk2 : k2 ≤ 900) (hk3 : k3 ≤ 900) (hz3 : z3 ≠ 0) : Calls Tryz.prog 41 #[v2, v3] w (Ans w fun w' v => IsQt w' v (Rat.divInt z2 z3) (max k2 k3)) := by
 have HY := Lib.hid (show z3.natAbs ≠ 0 by omega)
 have HG := Lib.hid (show Nat.gcd z2.natAbs z3.natAbs ≠ 0 from fun e => HY.out (Nat.eq_zero_of_gcd_eq_zero_right e))
 clear hz3
 have M2 := h2
 obtain ⟨b2, A2, n2, c2, rfl, y2⟩ := h2
 obtain ⟨x2, N2, hz2⟩ := y2.row
 have HZ2 := Lib.hid hz2
 clear y2 hz2
 have M3 := h3
 obtain ⟨b3, A3, n3, c3, rfl, y3⟩ := h3
 obtain ⟨x3, N3, hz3⟩ := y3.row
 have HZ3 := Lib.hid hz3
 clear y3 hz3
 have BB := (bl_trans (bl_trans (bl_alloc w (.cells #[.bool b2, .slice A2 n2 c2] 24)) (bl_alloc _ (.cells #[.bool b3, .slice A3 n3 c3] 24))) (bl_alloc _ (.cells #[.bool false, .slice none 0 0, .slice none 0 0] 26)))
 replace M2 := M2.below BB
 replace N2 := N2.below BB
 replace M3 := M3.below BB
 replace N3 := N3.below BB
 have P2 := ((Bz.new w b2 A2 n2 c2).alloc (.cells #[.bool b3, .slice A3 n3 c3] 24)).alloc (.cells #[.bool false, .slice none 0 0, .slice none 0 0] 26)
 have P3 := (Bz.new (w.alloc (.cells #[.bool b2, .slice A2 n2 c2] 24)) b3 A3 n3 c3).alloc (.cells #[.bool false, .slice none 0 0, .slice none 0 0] 26)
 simp only [hs_alloc] at P3
 have P4 := Bq.new ((w.alloc (.cells #[.bool b2, .slice A2 n2 c2] 24)).alloc (.cells #[.bool b3, .slice A3 n3 c3] 24)) false none 0 0 none 0 0
 simp only [hs_alloc] at P4
 go_enter Tryz.func41, Tryz.ntmps41
 go_upto_region 1 with (fail)
 generalize (((w.alloc (.cells #[.bool b2, .slice A2 n2 c2] 24)).alloc (.cells #[.bool b3, .slice A3 n3 c3] 24)).alloc (.cells #[.bool false, .slice none 0 0, .slice none 0 0] 26)) = w0 at M2 N2 M3 N3 P2 P3 P4 BB ⊢
 refine wp_seq 2 ?_
 simp only [List.take_succ_cons, List.take_zero, List.drop_succ_cons, List.drop_zero]
 refine wp_seq_list (Ext := RB) (Rel := RBu) [fun v _ _ => v = .agg #[.bool b2, .slice A2 n2 c2], fun v _ w => IsT w v (z2) k2] (n := 2) (by kernel_rfl) (by kernel_rfl) (by kernel_rfl) (by kernel_rfl) (by kernel_rfl) (by kernel_rfl) (by kernel_rfl) rb_refl rb_trans ⟨sC, ⟨sT, trivial⟩⟩ ?_ ?_
 ·refine ⟨⟨trivial, ?_⟩, ?_⟩
  ·refine rs_plain rfl rfl fun a wr S => ?_
   have X := rbX S.ext
   exact wp_load (ev_of ((S.old 2 (by kernel_rfl)).trans rfl)) (P2.below X) (done (by kernel_rfl) rbu_refl rfl)
  ·refine rs_plain rfl rfl fun a wr S => ?_
   have X := rbX S.ext
   obtain ⟨v0, e0, h0⟩ := S.got 0 (by kernel_rfl)
   exact st_call cf_ref03_whole (args1 ((ev_of (e0 12 (by kernel_rfl))).trans h0)) (by kernel_rfl) rb (cWhole3 (show IsM _ _ _ _ from (M2.below X)) (by omega)) (fun _ _ _ h => h)
 ·intro fw1 w1 hR hv hap
  clear hap
  replace hR := rbX hR
  have f0 : fw1 0 = .agg #[.bool b2, .slice A2 n2 c2] := (hvc (hv 0 (by omega))).elim fun _ h => h
  obtain ⟨bx1x1, Ax1x1, nx1x1, cx1x1, f1, Tx1x1, sx1x1⟩ := (show IsT w1 _ (z2) k2 from (hvc (hv 1 (by omega))).elim fun _ h => h)
  simp only [putFn, Act.put, List.setIfInBounds_toArray, List.set_cons_zero, List.set_cons_succ, f0, f1]
  replace M2 := M2.below hR
  replace N2 := N2.below hR
  replace M3 := M3.below hR
  replace N3 := N3.below hR
  replace P2 := P2.below hR
  replace P3 := P3.below hR
  replace P4 := P4.below hR
  replace BB := bl_trans BB hR
  clear hR hv
  have Vx1x1 : IsT w1 (.agg #[.bool bx1x1, .slice Ax1x1 nx1x1 cx1x1]) (z2) k2 := ⟨_, _, _, _, rfl, Tx1x1, sx1x1⟩
  have Nx1x1 := Tx1x1.nm
  have Sx1x1 := Lib.hid sx1x1
  clear sx1x1
  have r20 := P2.c0
  have t20 := P2.f 0
  have r21 := P2.c1
  have t21 := P2.f 1
  go_upto_region 2 with (fail)
  clear r20 t20 r21 t21
  have KR := kr_put2 (b' := bx1x1) (A' := Ax1x1) (n' := nx1x1) (c' := cx1x1) P2
  replace M2 := M2.kr KR
  replace N2 := N2.kr KR
  replace M3 := M3.kr KR
  replace N3 := N3.kr KR
  replace Vx1x1 := Vx1x1.kr KR
  replace Nx1x1 := Nx1x1.kr KR
  replace Tx1x1 := Tx1x1.kr KR
  replace P3 := P3.put2 (g := w.heap.size) (b' := bx1x1) (A' := Ax1x1) (n' := nx1x1) (c' := cx1x1) (by omega)
  replace P4 := P4.put2 (g := w.heap.size) (b' := bx1x1) (A' := Ax1x1) (n' := nx1x1) (c' := cx1x1) (by omega)
  replace BB := Below.put2 (g := w.heap.size) (b' := bx1x1) (A' := Ax1x1) (n' := nx1x1) (c' := cx1x1) BB (by omega)
  replace P2 := P2.set2 (b' := bx1x1) (A' := Ax1x1) (n' := nx1x1) (c' := cx1x1)
  clear KR
  generalize World.setCell _ ⟨w.heap.size, 1, none⟩ _ = w2 at M2 N2 M3 N3 Vx1x1 Nx1x1 Tx1x1 P2 P3 P4 BB ⊢
  refine wp_seq 2 ?_
  simp only [List.take_succ_cons, List.take_zero, List.drop_succ_cons, List.drop_zero]
  refine wp_seq_list (Ext := RB) (Rel := RBu) [fun v _ _ => v = .agg #[.bool b3, .slice A3 n3 c3], fun v _ w => IsT w v (z3) k3] (n := 2) (by kernel_rfl) (by kernel_rfl) (by kernel_rfl) (by kernel_rfl) (by kernel_rfl) (by kernel_rfl) (by kernel_rfl) rb_refl rb_trans ⟨sC, ⟨sT, trivial⟩⟩ ?_ ?_
  ·refine ⟨⟨trivial, ?_⟩, ?_⟩
   ·refine rs_plain rfl rfl fun a wr S => ?_
    have X := rbX S.ext
    exact wp_load (ev_of ((S.old 3 (by kernel_rfl)).trans rfl)) (P3.below X) (done (by kernel_rfl) rbu_refl rfl)
   ·refine rs_plain rfl rfl fun a wr S => ?_
    have X := rbX S.ext
    obtain ⟨v0, e0, h0⟩ := S.got 0 (by kernel_rfl)
    exact st_call cf_ref03_whole (args1 ((ev_of (e0 14 (by kernel_rfl))).trans h0)) (by kernel_rfl) rb (cWhole3 (show IsM _ _ _ _ from (M3.below X)) (by omega)) (fun _ _ _ h => h)
  ·intro fw3 w3 hR hv hap
   clear hap
   replace hR := rbX hR
   have f0 : fw3 0 = .agg #[.bool b3, .slice A3 n3 c3] := (hvc (hv 0 (by omega))).elim fun _ h => h
   obtain ⟨bx2x1, Ax2x1, nx2x1, cx2x1, f1, Tx2x1, sx2x1⟩ := (show IsT w3 _ (z3) k3 from (hvc (hv 1 (by omega))).elim fun _ h => h)
   simp only [putFn, Act.put, List.setIfInBounds_toArray, List.set_cons_zero, List.set_cons_succ, f0, f1]
   replace M2 := M2.below hR
   replace N2 := N2.below hR
   replace M3 := M3.below hR
   replace N3 := N3.below hR
   replace Vx1x1 := Vx1x1.below hR
   replace Nx1x1 := Nx1x1.below hR
   replace Tx1x1 := Tx1x1.below hR
   replace P2 := P2.below hR
   replace P3 := P3.below hR
   replace P4 := P4.below hR
   replace BB := bl_trans BB hR
   clear hR hv
   have Vx2x1 : IsT w3 (.agg #[.bool bx2x1, .slice Ax2x1 nx2x1 cx2x1]) (z3) k3 := ⟨_, _, _, _, rfl, Tx2x1, sx2x1⟩
   have Nx2x1 := Tx2x1.nm
   have Sx2x1 := Lib.hid sx2x1
   clear sx2x1
   have r30 := P3.c0
   have t30 := P3.f 0
   have r31 := P3.c1
   have t31 := P3.f 1
   go_upto_region 3 with (fail)
   clear r30 t30 r31 t31
   have KR := kr_put2 (b' := bx2x1) (A' := Ax2x1) (n' := nx2x1) (c' := cx2x1) P3
   replace M2 := M2.kr KR
   replace N2 := N2.kr KR
   replace M3 := M3.kr KR
   replace N3 := N3.kr KR
   replace Vx1x1 := Vx1x1.kr KR
   replace Nx1x1 := Nx1x1.kr KR
   replace Tx1x1 := Tx1x1.kr KR
   replace Vx2x1 := Vx2x1.kr KR
   replace Nx2x1 := Nx2x1.kr KR
   replace Tx2x1 := Tx2x1.kr KR
   replace P2 := P2.put2 (g := (w.heap.size + 1)) (b' := bx2x1) (A' := Ax2x1) (n' := nx2x1) (c' := cx2x1) (by omega)
   replace P4 := P4.put2 (g := (w.heap.size + 1)) (b' := bx2x1) (A' := Ax2x1) (n' := nx2x1) (c' := cx2x1) (by omega)
   replace BB := Below.put2 (g := (w.heap.size + 1)) (b' := bx2x1) (A' := Ax2x1) (n' := nx2x1) (c' := cx2x1) BB (by omega)
   replace P3 := P3.set2 (b' := bx2x1) (A' := Ax2x1) (n' := nx2x1) (c' := cx2x1)
   clear KR
   generalize World.setCell _ ⟨w.heap.size + 1, 1, none⟩ _ = w4 at M2 N2 M3 N3 Vx1x1 Nx1x1 Tx1x1 Vx2x1 Nx2x1 Tx2x1 P2 P3 P4 BB ⊢
   refine wp_seq 6 ?_
   simp only [List.take_succ_cons, List.take_zero, List.drop_succ_cons, List.drop_zero]
   refine wp_seq_list (Ext := RB) (Rel := RBu) [fun v _ _ => v = .pointer (some ⟨w.heap.size, 1, none⟩), fun v _ _ => v = .slice Ax1x1 nx1x1 cx1x1, fun v _ _ => v = .pointer (some ⟨(w.heap.size + 1), 1, none⟩), fun v _ _ => v = .slice Ax2x1 nx2x1 cx2x1, fun v _ w => IsTr w v (Nat.gcd z2.natAbs z3.natAbs) (max k2 k3), fun v _ w => IsTr w v (Nat.gcd z2.natAbs z3.natAbs) (max k2 k3)] (n := 6) (by kernel_rfl) (by kernel_rfl) (by kernel_rfl) (by kernel_rfl) (by kernel_rfl) (by kernel_rfl) (by kernel_rfl) rb_refl rb_trans ⟨sC, ⟨sC, ⟨sC, ⟨sC, ⟨sTr, ⟨sTr, trivial⟩⟩⟩⟩⟩⟩ ?_ ?_
   ·refine ⟨⟨⟨⟨⟨⟨trivial, ?_⟩, ?_⟩, ?_⟩, ?_⟩, ?_⟩, ?_⟩
    ·refine rs_plain rfl rfl fun a wr S => ?_
     have X := rbX S.ext
     exact wp_field1 (ev_of ((S.old 2 (by kernel_rfl)).trans rfl)) (done (by kernel_rfl) rbu_refl rfl)
    ·refine rs_plain rfl rfl fun a wr S => ?_
     have X := rbX S.ext
     obtain ⟨v0, e0, h0⟩ := S.got 0 (by kernel_rfl)
     exact wp_loadM ((ev_of (e0 16 (by kernel_rfl))).trans h0) (P2.below X) (done (by kernel_rfl) rbu_refl rfl)
    ·refine rs_plain rfl rfl fun a wr S => ?_
     have X := rbX S.ext
     exact wp_field1 (ev_of ((S.old 3 (by kernel_rfl)).trans rfl)) (done (by kernel_rfl) rbu_refl rfl)
    ·refine rs_plain rfl rfl fun a wr S => ?_
     have X := rbX S.ext
     obtain ⟨v2, e2, h2⟩ := S.got 2 (by kernel_rfl)
     exact wp_loadM ((ev_of (e2 18 (by kernel_rfl))).trans h2) (P3.below X) (done (by kernel_rfl) rbu_refl rfl)
    ·refine rs_plain rfl rfl fun a wr S => ?_
     have X := rbX S.ext
     obtain ⟨v1, e1, h1⟩ := S.got 1 (by kernel_rfl)
     obtain ⟨v3, e3, h3⟩ := S.got 3 (by kernel_rfl)
     exact st_call cf_ref01_Gcd (args2 ((ev_of (e1 17 (by kernel_rfl))).trans h1) ((ev_of (e3 19 (by kernel_rfl))).trans h3)) (by kernel_rfl) rb (rGcd ⟨_, _, _, rfl, Nx1x1.below X⟩ ⟨_, _, _, rfl, Nx2x1.below X⟩ (by omega) (by omega)) (fun _ _ _ h => h)
    ·refine rs_plain rfl rfl fun a wr S => ?_
     have X := rbX S.ext
     obtain ⟨v4, e4, h4⟩ := S.got 4 (by kernel_rfl)
     exact wp_as (ev_of (e4 20 (by kernel_rfl))) (done (by kernel_rfl) rbu_refl h4)
   ·intro fw5 w5 hR hv hap
    clear hap
    replace hR := rbX hR
    have f0 : fw5 0 = .pointer (some ⟨w.heap.size, 1, none⟩) := (hvc (hv 0 (by omega))).elim fun _ h => h
    have f1 : fw5 1 = .slice Ax1x1 nx1x1 cx1x1 := (hvc (hv 1 (by omega))).elim fun _ h => h
    have f2 : fw5 2 = .pointer (some ⟨(w.heap.size + 1), 1, none⟩) := (hvc (hv 2 (by omega))).elim fun _ h => h
    have f3 : fw5 3 = .slice Ax2x1 nx2x1 cx2x1 := (hvc (hv 3 (by omega))).elim fun _ h => h
    obtain ⟨Ax3x5, nx3x5, cx3x5, f5, Tx3x5⟩ := (show IsTr w5 _ (Nat.gcd z2.natAbs z3.natAbs) (max k2 k3) from (hvc (hv 5 (by omega))).elim fun _ h => h)
    simp only [putFn, Act.put, List.setIfInBounds_toArray, List.set_cons_zero, List.set_cons_succ, f0, f1, f2, f3, f5]
    replace M2 := M2.below hR
    replace N2 := N2.below hR
    replace M3 := M3.below hR
    replace N3 := N3.below hR
    replace Vx1x1 := Vx1x1.below hR
    replace Nx1x1 := Nx1x1.below hR
    replace Tx1x1 := Tx1x1.below hR
    replace Vx2x1 := Vx2x1.below hR
    replace Nx2x1 := Nx2x1.below hR
    replace Tx2x1 := Tx2x1.below hR
    replace P2 := P2.below hR
    replace P3 := P3.below hR
    replace P4 := P4.below hR
    replace BB := bl_trans BB hR
    clear hR hv
    have Nx3x5 := Tx3x5.nm
    go_upto_region 4 with (fail)
    refine wp_seq 11 ?_
    simp only [List.take_succ_cons, List.take_zero, List.drop_succ_cons, List.drop_zero]
    refine wp_seq_list (Ext := RB) (Rel := RBu) [fun v _ _ => v = .pointer (some ⟨w.heap.size, 1, none⟩), fun v _ _ => v = .slice Ax1x1 nx1x1 cx1x1, fun v _ _ => v = .slice Ax3x5 nx3x5 cx3x5, fun v _ w => IsTD w v (z2.natAbs / (Nat.gcd z2.natAbs z3.natAbs)) k2 (z2.natAbs % (Nat.gcd z2.natAbs z3.natAbs)) (max k2 k3) 0, fun v _ w => IsTD w v (z2.natAbs / (Nat.gcd z2.natAbs z3.natAbs)) k2 (z2.natAbs % (Nat.gcd z2.natAbs z3.natAbs)) (max k2 k3) 0, fun v _ w => IsTr w v (z2.natAbs / (Nat.gcd z2.natAbs z3.natAbs)) k2, fun v _ w => IsTr w v (z2.natAbs % (Nat.gcd z2.natAbs z3.natAbs)) (max k2 k3), fun v _ _ => v = .int .i64 0, fun v _ w => IsTr w v (z2.natAbs / (Nat.gcd z2.natAbs z3.natAbs)) k2, fun v _ w => IsTr w v (z2.natAbs % (Nat.gcd z2.natAbs z3.natAbs)) (max k2 k3), fun v _ _ => v = .int .i64 0] (n := 11) (by kernel_rfl) (by kernel_rfl) (by kernel_rfl) (by kernel_rfl) (by kernel_rfl) (by kernel_rfl) (by kernel_rfl) rb_refl rb_trans ⟨sC, ⟨sC, ⟨sC, ⟨sTD, ⟨sTD, ⟨sTr, ⟨sTr, ⟨sC, ⟨sTr, ⟨sTr, ⟨sC, trivial⟩⟩⟩⟩⟩⟩⟩⟩⟩⟩⟩ ?_ ?_
    ·refine ⟨⟨⟨⟨⟨⟨⟨⟨⟨⟨⟨trivial, ?_⟩, ?_⟩, ?_⟩, ?_⟩, ?_⟩, ?_⟩, ?_⟩, ?_⟩, ?_⟩, ?_⟩, ?_⟩
     ·refine rs_plain rfl rfl fun a wr S => ?_
      have X := rbX S.ext
      exact wp_field1 (ev_of ((S.old 2 (by kernel_rfl)).trans rfl)) (done (by kernel_rfl) rbu_refl rfl)
     ·refine rs_plain rfl rfl fun a wr S => ?_
      have X := rbX S.ext
      obtain ⟨v0, e0, h0⟩ := S.got 0 (by kernel_rfl)
      exact wp_loadM ((ev_of (e0 22 (by kernel_rfl))).trans h0) (P2.below X) (done (by kernel_rfl) rbu_refl rfl)
     ·refine rs_plain rfl rfl fun a wr S => ?_
      have X := rbX S.ext
      exact wp_mv (ev_of ((S.old 5 (by kernel_rfl)).trans rfl)) (done (by kernel_rfl) rbu_refl rfl)
     ·refine rs_plain rfl rfl fun a wr S => ?_
      have X := rbX S.ext
      obtain ⟨v1, e1, h1⟩ := S.got 1 (by kernel_rfl)
      obtain ⟨v2, e2, h2⟩ := S.got 2 (by kernel_rfl)
      exact st_call cf_ref01_Div (args2 ((ev_of (e1 23 (by kernel_rfl))).trans h1) ((ev_of (e2 24 (by kernel_rfl))).trans h2)) (by kernel_rfl) rb (rDiv ⟨_, _, _, rfl, Nx1x1.below X⟩ ⟨_, _, _, rfl, Nx3x5.below X⟩ (by omega) (by omega) HG.out) (fun _ _ _ h => h)
     ·refine rs_plain rfl rfl fun a wr S => ?_
      have X := rbX S.ext
      obtain ⟨v3, e3, h3⟩ := S.got 3 (by kernel_rfl)
      exact wp_mv (ev_of (e3 25 (by kernel_rfl))) (done (by kernel_rfl) rbu_refl h3)
     ·refine rs_plain rfl rfl fun a wr S => ?_
      have X := rbX S.ext
      obtain ⟨v4, e4, h4⟩ := S.got 4 (by kernel_rfl)
      obtain ⟨AA, nn, cc, A', n', c', hvv, TT, UU⟩ := (show IsTD wr _ (z2.natAbs / (Nat.gcd z2.natAbs z3.natAbs)) k2 (z2.natAbs % (Nat.gcd z2.natAbs z3.natAbs)) (max k2 k3) 0 from h4)
      exact wp_x30 ((ev_of (e4 21 (by kernel_rfl))).trans hvv) (done (by kernel_rfl) rbu_refl ⟨_, _, _, rfl, TT⟩)
     ·refine rs_plain rfl rfl fun a wr S => ?_
      have X := rbX S.ext
      obtain ⟨v4, e4, h4⟩ := S.got 4 (by kernel_rfl)
      obtain ⟨AA, nn, cc, A', n', c', hvv, TT, UU⟩ := (show IsTD wr _ (z2.natAbs / (Nat.gcd z2.natAbs z3.natAbs)) k2 (z2.natAbs % (Nat.gcd z2.natAbs z3.natAbs)) (max k2 k3) 0 from h4)
      exact wp_x31 ((ev_of (e4 21 (by kernel_rfl))).trans hvv) (done (by kernel_rfl) rbu_refl ⟨_, _, _, rfl, UU⟩)
     ·refine rs_plain rfl rfl fun a wr S => ?_
      have X := rbX S.ext
      obtain ⟨v4, e4, h4⟩ := S.got 4 (by kernel_rfl)
      obtain ⟨AA, nn, cc, A', n', c', hvv, TT, UU⟩ := (show IsTD wr _ (z2.natAbs / (Nat.gcd z2.natAbs z3.natAbs)) k2 (z2.natAbs % (Nat.gcd z2.natAbs z3.natAbs)) (max k2 k3) 0 from h4)
      exact wp_x32 ((ev_of (e4 21 (by kernel_rfl))).trans hvv) (done (by kernel_rfl) rbu_refl rfl)
     ·refine rs_plain rfl rfl fun a wr S => ?_
      have X := rbX S.ext
      obtain ⟨v5, e5, h5⟩ := S.got 5 (by kernel_rfl)
      exact wp_as (ev_of (e5 26 (by kernel_rfl))) (done (by kernel_rfl) rbu_refl h5)
     ·refine rs_plain rfl rfl fun a wr S => ?_
      have X := rbX S.ext
      obtain ⟨v6, e6, h6⟩ := S.got 6 (by kernel_rfl)
      exact wp_as (ev_of (e6 27 (by kernel_rfl))) (done (by kernel_rfl) rbu_refl h6)
     ·refine rs_plain rfl rfl fun a wr S => ?_
      have X := rbX S.ext
      obtain ⟨v7, e7, h7⟩ := S.got 7 (by kernel_rfl)
      exact wp_as ((ev_of (e7 28 (by kernel_rfl))).trans h7) (done (by kernel_rfl) rbu_refl rfl)
    ·intro fw6 w6 hR hv hap
     clear hap
     replace hR := rbX hR
     have f0 : fw6 0 = .pointer (some ⟨w.heap.size, 1, none⟩) := (hvc (hv 0 (by omega))).elim fun _ h => h
     have f1 : fw6 1 = .slice Ax1x1 nx1x1 cx1x1 := (hvc (hv 1 (by omega))).elim fun _ h => h
     have f2 : fw6 2 = .slice Ax3x5 nx3x5 cx3x5 := (hvc (hv 2 (by omega))).elim fun _ h => h
     have f7 : fw6 7 = .int .i64 0 := (hvc (hv 7 (by omega))).elim fun _ h => h
     have f10 : fw6 10 = .int .i64 0 := (hvc (hv 10 (by omega))).elim fun _ h => h
     obtain ⟨Ax4x8, nx4x8, cx4x8, f8, Tx4x8⟩ := (show IsTr w6 _ (z2.natAbs / (Nat.gcd z2.natAbs z3.natAbs)) k2 from (hvc (hv 8 (by omega))).elim fun _ h => h)
     obtain ⟨Ax4x9, nx4x9, cx4x9, f9, Tx4x9⟩ := (show IsTr w6 _ (z2.natAbs % (Nat.gcd z2.natAbs z3.natAbs)) (max k2 k3) from (hvc (hv 9 (by omega))).elim fun _ h => h)
     simp only [putFn, Act.put, List.setIfInBounds_toArray, List.set_cons_zero, List.set_cons_succ, f0, f1, f2, f7, f10, f8, f9]
     replace M2 := M2.below hR
     replace N2 := N2.below hR
     replace M3 := M3.below hR
     replace N3 := N3.below hR
     replace Vx1x1 := Vx1x1.below hR
     replace Nx1x1 := Nx1x1.below hR
     replace Tx1x1 := Tx1x1.below hR
     replace Vx2x1 := Vx2x1.below hR
     replace Nx2x1 := Nx2x1.below hR
     replace Tx2x1 := Tx2x1.below hR
     replace Nx3x5 := Nx3x5.below hR
     replace Tx3x5 := Tx3x5.below hR
     replace P2 := P2.below hR
     replace P3 := P3.below hR
     replace P4 := P4.below hR
     replace BB := bl_trans BB hR
     clear hR hv
     have Nx4x8 := Tx4x8.nm
     have Nx4x9 := Tx4x9.nm
     go_upto_region 5 with (fail)
     refine wp_seq 11 ?_
     simp only [List.take_succ_cons, List.take_zero, List.drop_succ_cons, List.drop_zero]
     refine wp_seq_list (Ext := RB) (Rel := RBu) [fun v _ _ => v = .pointer (some ⟨(w.heap.size + 1), 1, none⟩), fun v _ _ => v = .slice Ax2x1 nx2x1 cx2x1, fun v _ _ => v = .slice Ax3x5 nx3x5 cx3x5, fun v _ w => IsTD w v (z3.natAbs / (Nat.gcd z2.natAbs z3.natAbs)) k3 (z3.natAbs % (Nat.gcd z2.natAbs z3.natAbs)) (max k2 k3) 0, fun v _ w => IsTD w v (z3.natAbs / (Nat.gcd z2.natAbs z3.natAbs)) k3 (z3.natAbs % (Nat.gcd z2.natAbs z3.natAbs)) (max k2 k3) 0, fun v _ w => IsTr w v (z3.natAbs / (Nat.gcd z2.natAbs z3.natAbs)) k3, fun v _ w => IsTr w v (z3.natAbs % (Nat.gcd z2.natAbs z3.natAbs)) (max k2 k3), fun v _ _ => v = .int .i64 0, fun v _ w => IsTr w v (z3.natAbs / (Nat.gcd z2.natAbs z3.natAbs)) k3, fun v _ w => IsTr w v (z3.natAbs % (Nat.gcd z2.natAbs z3.natAbs)) (max k2 k3), fun v _ _ => v = .int .i64 0] (n := 11) (by kernel_rfl) (by kernel_rfl) (by kernel_rfl) (by kernel_rfl) (by kernel_rfl) (by kernel_rfl) (by kernel_rfl) rb_refl rb_trans ⟨sC, ⟨sC, ⟨sC, ⟨sTD, ⟨sTD, ⟨sTr, ⟨sTr, ⟨sC, ⟨sTr, ⟨sTr, ⟨sC, trivial⟩⟩⟩⟩⟩⟩⟩⟩⟩⟩⟩ ?_ ?_
     ·refine ⟨⟨⟨⟨⟨⟨⟨⟨⟨⟨⟨trivial, ?_⟩, ?_⟩, ?_⟩, ?_⟩, ?_⟩, ?_⟩, ?_⟩, ?_⟩, ?_⟩, ?_⟩, ?_⟩
      ·refine rs_plain rfl rfl fun a wr S => ?_
       have X := rbX S.ext
       exact wp_field1 (ev_of ((S.old 3 (by kernel_rfl)).trans rfl)) (done (by kernel_rfl) rbu_refl rfl)
      ·refine rs_plain rfl rfl fun a wr S => ?_
       have X := rbX S.ext
       obtain ⟨v0, e0, h0⟩ := S.got 0 (by kernel_rfl)
       exact wp_loadM ((ev_of (e0 30 (by kernel_rfl))).trans h0) (P3.below X) (done (by kernel_rfl) rbu_refl rfl)
      ·refine rs_plain rfl rfl fun a wr S => ?_
       have X := rbX S.ext
       exact wp_mv (ev_of ((S.old 5 (by kernel_rfl)).trans rfl)) (done (by kernel_rfl) rbu_refl rfl)
      ·refine rs_plain rfl rfl fun a wr S => ?_
       have X := rbX S.ext
       obtain ⟨v1, e1, h1⟩ := S.got 1 (by kernel_rfl)
       obtain ⟨v2, e2, h2⟩ := S.got 2 (by kernel_rfl)
       exact st_call cf_ref01_Div (args2 ((ev_of (e1 31 (by kernel_rfl))).trans h1) ((ev_of (e2 32 (by kernel_rfl))).trans h2)) (by kernel_rfl) rb (rDiv ⟨_, _, _, rfl, Nx2x1.below X⟩ ⟨_, _, _, rfl, Nx3x5.below X⟩ (by omega) (by omega) HG.out) (fun _ _ _ h => h)
      ·refine rs_plain rfl rfl fun a wr S => ?_
       have X := rbX S.ext
       obtain ⟨v3, e3, h3⟩ := S.got 3 (by kernel_rfl)
       exact wp_mv (ev_of (e3 33 (by kernel_rfl))) (done (by kernel_rfl) rbu_refl h3)
      ·refine rs_plain rfl rfl fun a wr S => ?_
       have X := rbX S.ext
       obtain ⟨v4, e4, h4⟩ := S.got 4 (by kernel_rfl)
       obtain ⟨AA, nn, cc, A', n', c', hvv, TT, UU⟩ := (show IsTD wr _ (z3.natAbs / (Nat.gcd z2.natAbs z3.natAbs)) k3 (z3.natAbs % (Nat.gcd z2.natAbs z3.natAbs)) (max k2 k3) 0 from h4)
       exact wp_x30 ((ev_of (e4 29 (by kernel_rfl))).trans hvv) (done (by kernel_rfl) rbu_refl ⟨_, _, _, rfl, TT⟩)
      ·refine rs_plain rfl rfl fun a wr S => ?_
       have X := rbX S.ext
       obtain ⟨v4, e4, h4⟩ := S.got 4 (by kernel_rfl)
       obtain ⟨AA, nn, cc, A', n', c', hvv, TT, UU⟩ := (show IsTD wr _ (z3.natAbs / (Nat.gcd z2.natAbs z3.natAbs)) k3 (z3.natAbs % (Nat.gcd z2.natAbs z3.natAbs)) (max k2 k3) 0 from h4)
       exact wp_x31 ((ev_of (e4 29 (by kernel_rfl))).trans hvv) (done (by kernel_rfl) rbu_refl ⟨_, _, _, rfl, UU⟩)
      ·refine rs_plain rfl rfl fun a wr S => ?_
       have X := rbX S.ext
       obtain ⟨v4, e4, h4⟩ := S.got 4 (by kernel_rfl)
       obtain ⟨AA, nn, cc, A', n', c', hvv, TT, UU⟩ := (show IsTD wr _ (z3.natAbs / (Nat.gcd z2.natAbs z3.natAbs)) k3 (z3.natAbs % (Nat.gcd z2.natAbs z3.natAbs)) (max k2 k3) 0 from h4)
       exact wp_x32 ((ev_of (e4 29 (by kernel_rfl))).trans hvv) (done (by kernel_rfl) rbu_refl rfl)
      ·refine rs_plain rfl rfl fun a wr S => ?_
       have X := rbX S.ext
       obtain ⟨v5, e5, h5⟩ := S.got 5 (by kernel_rfl)
       exact wp_as (ev_of (e5 34 (by kernel_rfl))) (done (by kernel_rfl) rbu_refl h5)
      ·refine rs_plain rfl rfl fun a wr S => ?_
       have X := rbX S.ext
       obtain ⟨v6, e6, h6⟩ := S.got 6 (by kernel_rfl)
       exact wp_as (ev_of (e6 35 (by kernel_rfl))) (done (by kernel_rfl) rbu_refl h6)
      ·refine rs_plain rfl rfl fun a wr S => ?_
       have X := rbX S.ext
       obtain ⟨v7, e7, h7⟩ := S.got 7 (by kernel_rfl)
       exact wp_as ((ev_of (e7 36 (by kernel_rfl))).trans h7) (done (by kernel_rfl) rbu_refl rfl)
     ·intro fw7 w7 hR hv hap
      clear hap
      replace hR := rbX hR
      have f0 : fw7 0 = .pointer (some ⟨(w.heap.size + 1), 1, none⟩) := (hvc (hv 0 (by omega))).elim fun _ h => h
      have f1 : fw7 1 = .slice Ax2x1 nx2x1 cx2x1 := (hvc (hv 1 (by omega))).elim fun _ h => h
      have f2 : fw7 2 = .slice Ax3x5 nx3x5 cx3x5 := (hvc (hv 2 (by omega))).elim fun _ h => h
      have f7 : fw7 7 = .int .i64 0 := (hvc (hv 7 (by omega))).elim fun _ h => h
      have f10 : fw7 10 = .int .i64 0 := (hvc (hv 10 (by omega))).elim fun _ h => h
      obtain ⟨Ax5x8, nx5x8, cx5x8, f8, Tx5x8⟩ := (show IsTr w7 _ (z3.natAbs / (Nat.gcd z2.natAbs z3.natAbs)) k3 from (hvc (hv 8 (by omega))).elim fun _ h => h)
      obtain ⟨Ax5x9, nx5x9, cx5x9, f9, Tx5x9⟩ := (show IsTr w7 _ (z3.natAbs % (Nat.gcd z2.natAbs z3.natAbs)) (max k2 k3) from (hvc (hv 9 (by omega))).elim fun _ h => h)
      simp only [putFn, Act.put, List.setIfInBounds_toArray, List.set_cons_zero, List.set_cons_succ, f0, f1, f2, f7, f10, f8, f9]
      replace M2 := M2.below hR
      replace N2 := N2.below hR
      replace M3 := M3.below hR
      replace N3 := N3.below hR
      replace Vx1x1 := Vx1x1.below hR
      replace Nx1x1 := Nx1x1.below hR
      replace Tx1x1 := Tx1x1.below hR
      replace Vx2x1 := Vx2x1.below hR
      replace Nx2x1 := Nx2x1.below hR
      replace Tx2x1 := Tx2x1.below hR
      replace Nx3x5 := Nx3x5.below hR
      replace Tx3x5 := Tx3x5.below hR
      replace Nx4x8 := Nx4x8.below hR
      replace Tx4x8 := Tx4x8.below hR
      replace Nx4x9 := Nx4x9.below hR
      replace Tx4x9 := Tx4x9.below hR
      replace P2 := P2.below hR
      replace P3 := P3.below hR
      replace P4 := P4.below hR
      replace BB := bl_trans BB hR
      clear hR hv
      have Nx5x8 := Tx5x8.nm
      have Nx5x9 := Tx5x9.nm
      go_upto_region 6 with (fail)
      have HN := Lib.hid (of_num Sx1x1.out Sx2x1.out HY.out)
      have HD := Lib.hid (of_den Sx1x1.out Sx2x1.out HY.out)
      refine wp_seq 10 ?_
      simp only [List.take_succ_cons, List.take_zero, List.drop_succ_cons, List.drop_zero]
      refine wp_seq_list (Ext := RB) (Rel := RBu) [fun v _ _ => v = .pointer (some ⟨w.heap.size, 0, none⟩), fun v _ _ => v = .bool bx1x1, fun v _ _ => v = .pointer (some ⟨(w.heap.size + 1), 0, none⟩), fun v _ _ => v = .bool bx2x1, fun v _ _ => v = .bool (bx1x1 != bx2x1), fun v _ _ => v = .slice Ax4x8 nx4x8 cx4x8, fun v _ w => IsM w v (zv ((bx1x1 != bx2x1)) (z2.natAbs / (Nat.gcd z2.natAbs z3.natAbs))) k2, fun v _ w => IsT w v (zv ((bx1x1 != bx2x1)) (z2.natAbs / (Nat.gcd z2.natAbs z3.natAbs))) k2, fun v _ _ => v = .slice Ax5x8 nx5x8 cx5x8, fun v _ w => IsQt w v (Rat.divInt z2 z3) (max k2 k3)] (n := 10) (by kernel_rfl) (by kernel_rfl) (by kernel_rfl) (by kernel_rfl) (by kernel_rfl) (by kernel_rfl) (by kernel_rfl) rb_refl rb_trans ⟨sC, ⟨sC, ⟨sC, ⟨sC, ⟨sC, ⟨sC, ⟨sM, ⟨sT, ⟨sC, ⟨sQt, trivial⟩⟩⟩⟩⟩⟩⟩⟩⟩⟩ ?_ ?_
      ·refine ⟨⟨⟨⟨⟨⟨⟨⟨⟨⟨trivial, ?_⟩, ?_⟩, ?_⟩, ?_⟩, ?_⟩, ?_⟩, ?_⟩, ?_⟩, ?_⟩, ?_⟩
       ·refine rs_plain rfl rfl fun a wr S => ?_
        have X := rbX S.ext
        exact wp_field0 (ev_of ((S.old 2 (by kernel_rfl)).trans rfl)) (done (by kernel_rfl) rbu_refl rfl)
       ·refine rs_plain rfl rfl fun a wr S => ?_
        have X := rbX S.ext
        obtain ⟨v0, e0, h0⟩ := S.got 0 (by kernel_rfl)
        exact wp_loadB ((ev_of (e0 37 (by kernel_rfl))).trans h0) (P2.below X) (done (by kernel_rfl) rbu_refl rfl)
       ·refine rs_plain rfl rfl fun a wr S => ?_
        have X := rbX S.ext
        exact wp_field0 (ev_of ((S.old 3 (by kernel_rfl)).trans rfl)) (done (by kernel_rfl) rbu_refl rfl)
       ·refine rs_plain rfl rfl fun a wr S => ?_
        have X := rbX S.ext
        obtain ⟨v2, e2, h2⟩ := S.got 2 (by kernel_rfl)
        exact wp_loadB ((ev_of (e2 39 (by kernel_rfl))).trans h2) (P3.below X) (done (by kernel_rfl) rbu_refl rfl)
       ·refine rs_plain rfl rfl fun a wr S => ?_
        have X := rbX S.ext
        obtain ⟨v1, e1, h1⟩ := S.got 1 (by kernel_rfl)
        obtain ⟨v3, e3, h3⟩ := S.got 3 (by kernel_rfl)
        exact wp_neB ((ev_of (e1 38 (by kernel_rfl))).trans h1) ((ev_of (e3 40 (by kernel_rfl))).trans h3) (done (by kernel_rfl) rbu_refl rfl)
       ·refine rs_plain rfl rfl fun a wr S => ?_
        have X := rbX S.ext
        exact wp_mv (ev_of ((S.old 6 (by kernel_rfl)).trans rfl)) (done (by kernel_rfl) rbu_refl rfl)
       ·refine rs_plain rfl rfl fun a wr S => ?_
        have X := rbX S.ext
        obtain ⟨v4, e4, h4⟩ := S.got 4 (by kernel_rfl)
        obtain ⟨v5, e5, h5⟩ := S.got 5 (by kernel_rfl)
        exact wp_bZ ((ev_of (e4 41 (by kernel_rfl))).trans h4) ((ev_of (e5 42 (by kernel_rfl))).trans h5) (done (by kernel_rfl) rbu_refl ⟨_, _, _, _, rfl, ⟨⟨_, Nx4x8.below X, rfl⟩⟩⟩)
       ·refine rs_plain rfl rfl fun a wr S => ?_
        have X := rbX S.ext
        obtain ⟨v6, e6, h6⟩ := S.got 6 (by kernel_rfl)
        exact st_call cf_ref03_whole (args1 (ev_of (e6 43 (by kernel_rfl)))) (by kernel_rfl) rb (cWhole3 (show IsM _ _ _ _ from h6) (by omega)) (fun _ _ _ h => h)
       ·refine rs_plain rfl rfl fun a wr S => ?_
        have X := rbX S.ext
        exact wp_mv (ev_of ((S.old 9 (by kernel_rfl)).trans rfl)) (done (by kernel_rfl) rbu_refl rfl)
       ·refine rs_plain rfl rfl fun a wr S => ?_
        have X := rbX S.ext
        obtain ⟨v7, e7, h7⟩ := S.got 7 (by kernel_rfl)
        obtain ⟨v8, e8, h8⟩ := S.got 8 (by kernel_rfl)
        obtain ⟨bb, AA, nn, cc, hvv, TT, ss⟩ := (show IsT wr _ (zv ((bx1x1 != bx2x1)) (z2.natAbs / (Nat.gcd z2.natAbs z3.natAbs))) k2 from h7)
        exact wp_bQ ((ev_of (e7 44 (by kernel_rfl))).trans hvv) ((ev_of (e8 45 (by kernel_rfl))).trans h8) (done (by kernel_rfl) rbu_refl ⟨_, _, _, _, _, _, _, rfl, by rw [← HN.out]; exact ⟨TT.rd, by have := TT.le; omega⟩, by rw [← HN.out]; exact ss, by rw [← HD.out]; exact ⟨(Tx5x8.below X).rd, by have := Tx5x8.le; omega⟩⟩)
      ·intro fw8 w8 hR hv hap
       clear hap
       replace hR := rbX hR
       have f0 : fw8 0 = .pointer (some ⟨w.heap.size, 0, none⟩) := (hvc (hv 0 (by omega))).elim fun _ h => h
       have f1 : fw8 1 = .bool bx1x1 := (hvc (hv 1 (by omega))).elim fun _ h => h
       have f2 : fw8 2 = .pointer (some ⟨(w.heap.size + 1), 0, none⟩) := (hvc (hv 2 (by omega))).elim fun _ h => h
       have f3 : fw8 3 = .bool bx2x1 := (hvc (hv 3 (by omega))).elim fun _ h => h
       have f4 : fw8 4 = .bool (bx1x1 != bx2x1) := (hvc (hv 4 (by omega))).elim fun _ h => h
       have f5 : fw8 5 = .slice Ax4x8 nx4x8 cx4x8 := (hvc (hv 5 (by omega))).elim fun _ h => h
       have f8 : fw8 8 = .slice Ax5x8 nx5x8 cx5x8 := (hvc (hv 8 (by omega))).elim fun _ h => h
       obtain ⟨bx6x9, Ax6x9, nx6x9, cx6x9, Bx6x9, mx6x9, dx6x9, f9, Tx6x9⟩ := (show IsQt w8 _ (Rat.divInt z2 z3) (max k2 k3) from (hvc (hv 9 (by omega))).elim fun _ h => h).opened
       simp only [putFn, Act.put, List.setIfInBounds_toArray, List.set_cons_zero, List.set_cons_succ, f0, f1, f2, f3, f4, f5, f8, f9]
       replace M2 := M2.below hR
       replace N2 := N2.below hR
       replace M3 := M3.below hR
       replace N3 := N3.below hR
       replace Vx1x1 := Vx1x1.below hR
       replace Nx1x1 := Nx1x1.below hR
       replace Tx1x1 := Tx1x1.below hR
       replace Vx2x1 := Vx2x1.below hR
       replace Nx2x1 := Nx2x1.below hR
       replace Tx2x1 := Tx2x1.below hR
       replace Nx3x5 := Nx3x5.below hR
       replace Tx3x5 := Tx3x5.below hR
       replace Nx4x8 := Nx4x8.below hR
       replace Tx4x8 := Tx4x8.below hR
       replace Nx4x9 := Nx4x9.below hR
       replace Tx4x9 := Tx4x9.below hR
       replace Nx5x8 := Nx5x8.below hR
       replace Tx5x8 := Tx5x8.below hR
       replace Nx5x9 := Nx5x9.below hR
       replace Tx5x9 := Tx5x9.below hR
       replace P2 := P2.below hR
       replace P3 := P3.below hR
       replace P4 := P4.below hR
       replace BB := bl_trans BB hR
       clear hR hv
       have r40 := P4.c0
       have t40 := P4.f 0
       have r41 := P4.c1
       have t41 := P4.f 1
       have r42 := P4.c2
       have t42 := P4.f 2
       go_wp2_with fail
       clear r40 t40 r41 t41 r42 t42
       have KR := kr_put3 (b' := bx6x9) (A' := Ax6x9) (n' := nx6x9) (c' := cx6x9) (B' := Bx6x9) (m' := mx6x9) (d' := dx6x9) P4
       replace M2 := M2.kr KR
       replace N2 := N2.kr KR
       replace M3 := M3.kr KR
       replace N3 := N3.kr KR
       replace Vx1x1 := Vx1x1.kr KR
       replace Nx1x1 := Nx1x1.kr KR
       replace Tx1x1 := Tx1x1.kr KR
       replace Vx2x1 := Vx2x1.kr KR
       replace Nx2x1 := Nx2x1.kr KR
       replace Tx2x1 := Tx2x1.kr KR
       replace Nx3x5 := Nx3x5.kr KR
       replace Tx3x5 := Tx3x5.kr KR
       replace Nx4x8 := Nx4x8.kr KR
       replace Tx4x8 := Tx4x8.kr KR
       replace Nx4x9 := Nx4x9.kr KR
       replace Tx4x9 := Tx4x9.kr KR
       replace Nx5x8 := Nx5x8.kr KR
       replace Tx5x8 := Tx5x8.kr KR
       replace Nx5x9 := Nx5x9.kr KR
       replace Tx5x9 := Tx5x9.kr KR
       replace Tx6x9 := Tx6x9.kr KR
       replace P2 := P2.put3 (g := (w.heap.size + 1 + 1)) (b' := bx6x9) (A' := Ax6x9) (n' := nx6x9) (c' := cx6x9) (B' := Bx6x9) (m' := mx6x9) (d' := dx6x9) (by omega)
       replace P3 := P3.put3 (g := (w.heap.size + 1 + 1)) (b' := bx6x9) (A' := Ax6x9) (n' := nx6x9) (c' := cx6x9) (B' := Bx6x9) (m' := mx6x9) (d' := dx6x9) (by omega)
       replace BB := Below.put3 (g := (w.heap.size + 1 + 1)) (b' := bx6x9) (A' := Ax6x9) (n' := nx6x9) (c' := cx6x9) (B' := Bx6x9) (m' := mx6x9) (d' := dx6x9) BB (by omega)
       replace P4 := P4.set3 (b' := bx6x9) (A' := Ax6x9) (n' := nx6x9) (c' := cx6x9) (B' := Bx6x9) (m' := mx6x9) (d' := dx6x9)
       clear KR
       generalize World.setCell _ ⟨w.heap.size + 1 + 1, 2, none⟩ _ = w9 at M2 N2 M3 N3 Vx1x1 Nx1x1 Tx1x1 Vx2x1 Nx2x1 Tx2x1 Nx3x5 Tx3x5 Nx4x8 Tx4x8 Nx4x9 Tx4x9 Nx5x8 Tx5x8 Nx5x9 Tx5x9 Tx6x9 P2 P3 P4 BB ⊢
       have rc0 := P4.c0
       have rc1 := P4.c1
       have rc2 := P4.c2
       exact bodyPost_ret (v := .agg #[.bool bx6x9, .slice Ax6x9 nx6x9 cx6x9, .slice Bx6x9 mx6x9 dx6x9]) (by simp [results, Tryz.results41, go_sem, rc0, rc1, rc2]) rfl ⟨_, rfl, BB, Tx6x9⟩
end
end Go.Proofs.YtbhgbilhoonopaaGreat
namespace Go.Proofs.YtbhgbilhoonopaaGreat
open Go.RowKit
set_option linter.unusedVariables false
set_option maxRecDepth 100000

theorem litTr1 (w : World) : IsTr (w.alloc (.cells #[.int .u32 1] 44)) (.slice (some ⟨w.heap.size, 0, none⟩) 1 1) 1 1 := ⟨_, _, _, rfl, litT1 w 1 1 (by rw [M.R_eq]; omega) (by omega) rfl⟩
theorem isT_nat {w : World} {A : Option Addr} {n c x k : Nat} (h : Tm w A n c x k) : IsT w (.agg #[.bool false, .slice A n c]) ((x : Nat) : Int) k := ⟨_, _, _, _, rfl, by rw [Int.natAbs_natCast]; exact h, by rw [decide_eq_false (by omega)]⟩
theorem dOf_int (y : Nat) : ((dOf y : Nat) : Int) ≠ 0 := by have := dOf_pos y; omega
section
variable {p q : Rat} {z u : Int} {y x t : Nat} {b : Bool}
theorem made_q (hq : q = mkRat z (dOf y)) : Rat.divInt z ((dOf y : Nat) : Int) = q := by rw [hq, Rat.divInt_ofNat]
end
section
variable {w : World} {A B : Option Addr} {n c m d k : Nat} {q : Rat} {b : Bool}
theorem IsQt.pn (h : IsQt w (.agg #[.bool b, .slice A n c, .slice B m d]) q k) : Tm w A n c q.num.natAbs k := by
 obtain ⟨_, _, _, _, _, _, _, e, h, _⟩ := h
 injection e with e; injection e with e; simp only [List.cons.injEq, Value.bool.injEq, Value.slice.injEq] at e
 obtain ⟨rfl, ⟨rfl, rfl, rfl⟩, ⟨rfl, rfl, rfl⟩, _⟩ := e
 exact h
theorem IsQt.pd (h : IsQt w (.agg #[.bool b, .slice A n c, .slice B m d]) q k) : Tm w B m d q.den k := by
 obtain ⟨_, _, _, _, _, _, _, e, _, _, h⟩ := h
 injection e with e; injection e with e; simp only [List.cons.injEq, Value.bool.injEq, Value.slice.injEq] at e
 obtain ⟨rfl, ⟨rfl, rfl, rfl⟩, ⟨rfl, rfl, rfl⟩, _⟩ := e
 exact h
theorem IsQt.pb (h : IsQt w (.agg #[.bool b, .slice A n c, .slice B m d]) q k) : b = decide (q.num < 0) := by
 obtain ⟨_, _, _, _, _, _, _, e, _, h, _⟩ := h
 injection e with e; injection e with e; simp only [List.cons.injEq, Value.bool.injEq, Value.slice.injEq] at e
 obtain ⟨rfl, _⟩ := e
 exact h
end
section
variable {w : World} {v v2 v3 v1 : Value} {q1 q2 q3 : Rat} {k k1 k2 k3 : Nat}
set_option maxHeartbeats 2000000
theorem cDown3 {b1 : Bool} {A1 B1 : Option Addr} {n1 c1 m1 d1 y1 : Nat} (D1 : Nm w B1 m1 d1 y1 k1) (hk1 : k1 ≤ 900) (g1 : 1 ≤ k1) : Calls Tryz.prog 52 #[.agg #[.bool b1, .slice A1 n1 c1, .slice B1 m1 d1]] w (Ans w fun w' v => IsT w' v ((dOf y1 : Nat) : Int) k1) := by
 have BB := (bl_trans (bl_alloc w (.cells #[.bool b1, .slice A1 n1 c1, .slice B1 m1 d1] 26)) (bl_alloc _ (.cells #[.bool false, .slice none 0 0] 24)))
 replace D1 := D1.below BB
 have P1 := (Bq.new w b1 A1 n1 c1 B1 m1 d1).alloc (.cells #[.bool false, .slice none 0 0] 24)
 have P2 := Bz.new (w.alloc (.cells #[.bool b1, .slice A1 n1 c1, .slice B1 m1 d1] 26)) false none 0 0
 simp only [hs_alloc] at P2
 go_enter Tryz.func52, Tryz.ntmps52
 go_upto_region 1 with (fail)
 generalize ((w.alloc (.cells #[.bool b1, .slice A1 n1 c1, .slice B1 m1 d1] 26)).alloc (.cells #[.bool false, .slice none 0 0] 24)) = w0 at D1 P1 P2 BB ⊢
 refine wp_seq 4 ?_
 simp only [List.take_succ_cons, List.take_zero, List.drop_succ_cons, List.drop_zero]
 refine wp_seq_list (Ext := RB) (Rel := RBu) [fun v _ _ => v = .pointer (some ⟨w.heap.size, 2, none⟩), fun v _ _ => v = .slice B1 m1 d1, fun v _ w => IsTr w v (y1) k1, fun v _ w => IsTr w v (y1) k1] (n := 4) (by kernel_rfl) (by kernel_rfl) (by kernel_rfl) (by kernel_rfl) (by kernel_rfl) (by kernel_rfl) (by kernel_rfl) rb_refl rb_trans ⟨sC, ⟨sC, ⟨sTr, ⟨sTr, trivial⟩⟩⟩⟩ ?_ ?_
 ·refine ⟨⟨⟨⟨trivial, ?_⟩, ?_⟩, ?_⟩, ?_⟩
  ·refine rs_plain rfl rfl fun a wr S => ?_
   have X := rbX S.ext
   exact wp_qf1 (ev_of ((S.old 1 (by kernel_rfl)).trans rfl)) (done (by kernel_rfl) rbu_refl rfl)
  ·refine rs_plain rfl rfl fun a wr S => ?_
   have X := rbX S.ext
   obtain ⟨v0, e0, h0⟩ := S.got 0 (by kernel_rfl)
   exact wp_qD ((ev_of (e0 4 (by kernel_rfl))).trans h0) (P1.below X) (done (by kernel_rfl) rbu_refl rfl)
  ·refine rs_plain rfl rfl fun a wr S => ?_
   have X := rbX S.ext
   obtain ⟨v1, e1, h1⟩ := S.got 1 (by kernel_rfl)
   exact st_call cf_ref01_Trim (args1 ((ev_of (e1 5 (by kernel_rfl))).trans h1)) (by kernel_rfl) rb (rTrim ⟨_, _, _, rfl, D1.below X⟩ (by omega)) (fun _ _ _ h => h)
  ·refine rs_plain rfl rfl fun a wr S => ?_
   have X := rbX S.ext
   obtain ⟨v2, e2, h2⟩ := S.got 2 (by kernel_rfl)
   exact wp_as (ev_of (e2 6 (by kernel_rfl))) (done (by kernel_rfl) rbu_refl h2)
 ·intro fw1 w1 hR hv hap
  clear hap
  replace hR := rbX hR
  have f0 : fw1 0 = .pointer (some ⟨w.heap.size, 2, none⟩) := (hvc (hv 0 (by omega))).elim fun _ h => h
  have f1 : fw1 1 = .slice B1 m1 d1 := (hvc (hv 1 (by omega))).elim fun _ h => h
  obtain ⟨Ax1x3, nx1x3, cx1x3, f3, Tx1x3⟩ := (show IsTr w1 _ (y1) k1 from (hvc (hv 3 (by omega))).elim fun _ h => h)
  simp only [putFn, Act.put, List.setIfInBounds_toArray, List.set_cons_zero, List.set_cons_succ, f0, f1, f3]
  replace D1 := D1.below hR
  replace P1 := P1.below hR
  replace P2 := P2.below hR
  replace BB := bl_trans BB hR
  clear hR hv
  have Nx1x3 := Tx1x3.nm
  go_upto_region 2 with (fail)
  by_cases hy : y1 = 0
  ·have HY := Lib.hid hy
   clear hy
   refine wp_seq 3 ?_
   simp only [List.take_succ_cons, List.take_zero, List.drop_succ_cons, List.drop_zero]
   refine wp_seq_list (Ext := RB) (Rel := RBu) [fun v _ _ => v = .slice Ax1x3 nx1x3 cx1x3, fun v _ _ => v = .int .i64 ((M.lims y1).length : Int), fun v _ _ => v = .bool true] (n := 3) (by kernel_rfl) (by kernel_rfl) (by kernel_rfl) (by kernel_rfl) (by kernel_rfl) (by kernel_rfl) (by kernel_rfl) rb_refl rb_trans ⟨sC, ⟨sC, ⟨sC, trivial⟩⟩⟩ ?_ ?_
   ·refine ⟨⟨⟨trivial, ?_⟩, ?_⟩, ?_⟩
    ·refine rs_plain rfl rfl fun a wr S => ?_
     have X := rbX S.ext
     exact wp_mv (ev_of ((S.old 3 (by kernel_rfl)).trans rfl)) (done (by kernel_rfl) rbu_refl rfl)
    ·refine rs_plain rfl rfl fun a wr S => ?_
     have X := rbX S.ext
     obtain ⟨v0, e0, h0⟩ := S.got 0 (by kernel_rfl)
     exact wp_lenR ((ev_of (e0 7 (by kernel_rfl))).trans h0) (done (by kernel_rfl) rbu_refl (congrArg (fun n : Nat => Value.int .i64 (n : Int)) (Tx1x3.below X).rd.len.symm))
    ·refine rs_plain rfl rfl fun a wr S => ?_
     have X := rbX S.ext
     obtain ⟨v1, e1, h1⟩ := S.got 1 (by kernel_rfl)
     exact wp_eqI ((ev_of (e1 8 (by kernel_rfl))).trans h1) rfl (Or.inl rfl) (done (by kernel_rfl) rbu_refl (congrArg Value.bool (by rw [len_zero]; exact decide_eq_true HY.out)))
   ·intro fw2 w2 hR hv hap
    clear hap
    replace hR := rbX hR
    have f0 : fw2 0 = .slice Ax1x3 nx1x3 cx1x3 := (hvc (hv 0 (by omega))).elim fun _ h => h
    have f1 : fw2 1 = .int .i64 ((M.lims y1).length : Int) := (hvc (hv 1 (by omega))).elim fun _ h => h
    have f2 : fw2 2 = .bool true := (hvc (hv 2 (by omega))).elim fun _ h => h
    simp only [putFn, Act.put, List.setIfInBounds_toArray, List.set_cons_zero, List.set_cons_succ, f0, f1, f2]
    replace D1 := D1.below hR
    replace Nx1x3 := Nx1x3.below hR
    replace Tx1x3 := Tx1x3.below hR
    replace P1 := P1.below hR
    replace P2 := P2.below hR
    replace BB := bl_trans BB hR
    clear hR hv
    go_upto_region 3 with (fail)
    refine wp_seq 2 ?_
    simp only [List.take_succ_cons, List.take_zero, List.drop_succ_cons, List.drop_zero]
    refine wp_seq_list (Ext := RB) (Rel := RBu) [fun v _ w => IsTr w v (1) 1, fun v _ w => IsTr w v (1) 1] (n := 2) (by kernel_rfl) (by kernel_rfl) (by kernel_rfl) (by kernel_rfl) (by kernel_rfl) (by kernel_rfl) (by kernel_rfl) rb_refl rb_trans ⟨sTr, ⟨sTr, trivial⟩⟩ ?_ ?_
    ·refine ⟨⟨trivial, ?_⟩, ?_⟩
     ·refine rs_plain rfl rfl fun a wr S => ?_
      have X := rbX S.ext
      exact wp_bsL1 (done' (by kernel_rfl) (rb _ _ _ (bl_alloc _ _)) (litTr1 wr))
     ·refine rs_plain rfl rfl fun a wr S => ?_
      have X := rbX S.ext
      obtain ⟨v0, e0, h0⟩ := S.got 0 (by kernel_rfl)
      exact wp_as (ev_of (e0 10 (by kernel_rfl))) (done (by kernel_rfl) rbu_refl h0)
    ·intro fw3 w3 hR hv hap
     clear hap
     replace hR := rbX hR
     obtain ⟨Ax3x1, nx3x1, cx3x1, f1, Tx3x1⟩ := (show IsTr w3 _ (1) 1 from (hvc (hv 1 (by omega))).elim fun _ h => h)
     simp only [putFn, Act.put, List.setIfInBounds_toArray, List.set_cons_zero, List.set_cons_succ, f1]
     replace D1 := D1.below hR
     replace Nx1x3 := Nx1x3.below hR
     replace Tx1x3 := Tx1x3.below hR
     replace P1 := P1.below hR
     replace P2 := P2.below hR
     replace BB := bl_trans BB hR
     clear hR hv
     have Nx3x1 := Tx3x1.nm
     go_upto_region 4 with (fail)
     refine wp_seq 2 ?_
     simp only [List.take_succ_cons, List.take_zero, List.drop_succ_cons, List.drop_zero]
     refine wp_seq_list (Ext := RB) (Rel := RBu) [fun v _ _ => v = .slice Ax3x1 nx3x1 cx3x1, fun v _ w => IsT w v (((1 : Nat) : Int)) 1] (n := 2) (by kernel_rfl) (by kernel_rfl) (by kernel_rfl) (by kernel_rfl) (by kernel_rfl) (by kernel_rfl) (by kernel_rfl) rb_refl rb_trans ⟨sC, ⟨sT, trivial⟩⟩ ?_ ?_
     ·refine ⟨⟨trivial, ?_⟩, ?_⟩
      ·refine rs_plain rfl rfl fun a wr S => ?_
       have X := rbX S.ext
       exact wp_mv (ev_of ((S.old 3 (by kernel_rfl)).trans rfl)) (done (by kernel_rfl) rbu_refl rfl)
      ·refine rs_plain rfl rfl fun a wr S => ?_
       have X := rbX S.ext
       obtain ⟨v0, e0, h0⟩ := S.got 0 (by kernel_rfl)
       exact wp_bZ1 ((ev_of (e0 11 (by kernel_rfl))).trans h0) (done (by kernel_rfl) rbu_refl (isT_nat (Tx3x1.below X)))
     ·intro fw4 w4 hR hv hap
      clear hap
      replace hR := rbX hR
      have f0 : fw4 0 = .slice Ax3x1 nx3x1 cx3x1 := (hvc (hv 0 (by omega))).elim fun _ h => h
      obtain ⟨bx4x1, Ax4x1, nx4x1, cx4x1, f1, Tx4x1, sx4x1⟩ := (show IsT w4 _ (((1 : Nat) : Int)) 1 from (hvc (hv 1 (by omega))).elim fun _ h => h)
      simp only [putFn, Act.put, List.setIfInBounds_toArray, List.set_cons_zero, List.set_cons_succ, f0, f1]
      replace D1 := D1.below hR
      replace Nx1x3 := Nx1x3.below hR
      replace Tx1x3 := Tx1x3.below hR
      replace Nx3x1 := Nx3x1.below hR
      replace Tx3x1 := Tx3x1.below hR
      replace P1 := P1.below hR
      replace P2 := P2.below hR
      replace BB := bl_trans BB hR
      clear hR hv
      have Vx4x1 : IsT w4 (.agg #[.bool bx4x1, .slice Ax4x1 nx4x1 cx4x1]) (((1 : Nat) : Int)) 1 := ⟨_, _, _, _, rfl, Tx4x1, sx4x1⟩
      have Nx4x1 := Tx4x1.nm
      have Sx4x1 := Lib.hid sx4x1
      clear sx4x1
      have r20 := P2.c0
      have t20 := P2.f 0
      have r21 := P2.c1
      have t21 := P2.f 1
      go_wp2_with fail
      clear r20 t20 r21 t21
      have KR := kr_put2 (b' := bx4x1) (A' := Ax4x1) (n' := nx4x1) (c' := cx4x1) P2
      replace D1 := D1.kr KR
      replace Nx1x3 := Nx1x3.kr KR
      replace Tx1x3 := Tx1x3.kr KR
      replace Nx3x1 := Nx3x1.kr KR
      replace Tx3x1 := Tx3x1.kr KR
      replace Vx4x1 := Vx4x1.kr KR
      replace Nx4x1 := Nx4x1.kr KR
      replace Tx4x1 := Tx4x1.kr KR
      replace P1 := P1.put2 (g := (w.heap.size + 1)) (b' := bx4x1) (A' := Ax4x1) (n' := nx4x1) (c' := cx4x1) (by omega)
      replace BB := Below.put2 (g := (w.heap.size + 1)) (b' := bx4x1) (A' := Ax4x1) (n' := nx4x1) (c' := cx4x1) BB (by omega)
      replace P2 := P2.set2 (b' := bx4x1) (A' := Ax4x1) (n' := nx4x1) (c' := cx4x1)
      clear KR
      generalize World.setCell _ ⟨w.heap.size + 1, 1, none⟩ _ = w5 at D1 Nx1x3 Tx1x3 Nx3x1 Tx3x1 Vx4x1 Nx4x1 Tx4x1 P1 P2 BB ⊢
      have rc0 := P2.c0
      have rc1 := P2.c1
      exact bodyPost_ret (v := .agg #[.bool bx4x1, .slice Ax4x1 nx4x1 cx4x1]) (by simp [results, Tryz.results52, go_sem, rc0, rc1]) rfl ⟨_, rfl, BB, by rw [show dOf y1 = 1 by rw [HY.out]; rfl]; exact Vx4x1.mono (by omega)⟩
  ·have HY := Lib.hid hy
   clear hy
   refine wp_seq 3 ?_
   simp only [List.take_succ_cons, List.take_zero, List.drop_succ_cons, List.drop_zero]
   refine wp_seq_list (Ext := RB) (Rel := RBu) [fun v _ _ => v = .slice Ax1x3 nx1x3 cx1x3, fun v _ _ => v = .int .i64 ((M.lims y1).length : Int), fun v _ _ => v = .bool false] (n := 3) (by kernel_rfl) (by kernel_rfl) (by kernel_rfl) (by kernel_rfl) (by kernel_rfl) (by kernel_rfl) (by kernel_rfl) rb_refl rb_trans ⟨sC, ⟨sC, ⟨sC, trivial⟩⟩⟩ ?_ ?_
   ·refine ⟨⟨⟨trivial, ?_⟩, ?_⟩, ?_⟩
    ·refine rs_plain rfl rfl fun a wr S => ?_
     have X := rbX S.ext
     exact wp_mv (ev_of ((S.old 3 (by kernel_rfl)).trans rfl)) (done (by kernel_rfl) rbu_refl rfl)
    ·refine rs_plain rfl rfl fun a wr S => ?_
     have X := rbX S.ext
     obtain ⟨v0, e0, h0⟩ := S.got 0 (by kernel_rfl)
     exact wp_lenR ((ev_of (e0 7 (by kernel_rfl))).trans h0) (done (by kernel_rfl) rbu_refl (congrArg (fun n : Nat => Value.int .i64 (n : Int)) (Tx1x3.below X).rd.len.symm))
    ·refine rs_plain rfl rfl fun a wr S => ?_
     have X := rbX S.ext
     obtain ⟨v1, e1, h1⟩ := S.got 1 (by kernel_rfl)
     exact wp_eqI ((ev_of (e1 8 (by kernel_rfl))).trans h1) rfl (Or.inl rfl) (done (by kernel_rfl) rbu_refl (congrArg Value.bool (by rw [len_zero]; exact decide_eq_false HY.out)))
   ·intro fw6 w6 hR hv hap
    clear hap
    replace hR := rbX hR
    have f0 : fw6 0 = .slice Ax1x3 nx1x3 cx1x3 := (hvc (hv 0 (by omega))).elim fun _ h => h
    have f1 : fw6 1 = .int .i64 ((M.lims y1).length : Int) := (hvc (hv 1 (by omega))).elim fun _ h => h
    have f2 : fw6 2 = .bool false := (hvc (hv 2 (by omega))).elim fun _ h => h
    simp only [putFn, Act.put, List.setIfInBounds_toArray, List.set_cons_zero, List.set_cons_succ, f0, f1, f2]
    replace D1 := D1.below hR
    replace Nx1x3 := Nx1x3.below hR
    replace Tx1x3 := Tx1x3.below hR
    replace P1 := P1.below hR
    replace P2 := P2.below hR
    replace BB := bl_trans BB hR
    clear hR hv
    go_upto_region 4 with (fail)
    refine wp_seq 2 ?_
    simp only [List.take_succ_cons, List.take_zero, List.drop_succ_cons, List.drop_zero]
    refine wp_seq_list (Ext := RB) (Rel := RBu) [fun v _ _ => v = .slice Ax1x3 nx1x3 cx1x3, fun v _ w => IsT w v (((y1 : Nat) : Int)) k1] (n := 2) (by kernel_rfl) (by kernel_rfl) (by kernel_rfl) (by kernel_rfl) (by kernel_rfl) (by kernel_rfl) (by kernel_rfl) rb_refl rb_trans ⟨sC, ⟨sT, trivial⟩⟩ ?_ ?_
    ·refine ⟨⟨trivial, ?_⟩, ?_⟩
     ·refine rs_plain rfl rfl fun a wr S => ?_
      have X := rbX S.ext
      exact wp_mv (ev_of ((S.old 3 (by kernel_rfl)).trans rfl)) (done (by kernel_rfl) rbu_refl rfl)
     ·refine rs_plain rfl rfl fun a wr S => ?_
      have X := rbX S.ext
      obtain ⟨v0, e0, h0⟩ := S.got 0 (by kernel_rfl)
      exact wp_bZ1 ((ev_of (e0 11 (by kernel_rfl))).trans h0) (done (by kernel_rfl) rbu_refl (isT_nat (Tx1x3.below X)))
    ·intro fw7 w7 hR hv hap
     clear hap
     replace hR := rbX hR
     have f0 : fw7 0 = .slice Ax1x3 nx1x3 cx1x3 := (hvc (hv 0 (by omega))).elim fun _ h => h
     obtain ⟨bx4x1, Ax4x1, nx4x1, cx4x1, f1, Tx4x1, sx4x1⟩ := (show IsT w7 _ (((y1 : Nat) : Int)) k1 from (hvc (hv 1 (by omega))).elim fun _ h => h)
     simp only [putFn, Act.put, List.setIfInBounds_toArray, List.set_cons_zero, List.set_cons_succ, f0, f1]
     replace D1 := D1.below hR
     replace Nx1x3 := Nx1x3.below hR
     replace Tx1x3 := Tx1x3.below hR
     replace P1 := P1.below hR
     replace P2 := P2.below hR
     replace BB := bl_trans BB hR
     clear hR hv
     have Vx4x1 : IsT w7 (.agg #[.bool bx4x1, .slice Ax4x1 nx4x1 cx4x1]) (((y1 : Nat) : Int)) k1 := ⟨_, _, _, _, rfl, Tx4x1, sx4x1⟩
     have Nx4x1 := Tx4x1.nm
     have Sx4x1 := Lib.hid sx4x1
     clear sx4x1
     have r20 := P2.c0
     have t20 := P2.f 0
     have r21 := P2.c1
     have t21 := P2.f 1
     go_wp2_with fail
     clear r20 t20 r21 t21
     have KR := kr_put2 (b' := bx4x1) (A' := Ax4x1) (n' := nx4x1) (c' := cx4x1) P2
     replace D1 := D1.kr KR
     replace Nx1x3 := Nx1x3.kr KR
     replace Tx1x3 := Tx1x3.kr KR
     replace Vx4x1 := Vx4x1.kr KR
     replace Nx4x1 := Nx4x1.kr KR
     replace Tx4x1 := Tx4x1.kr KR
     replace P1 := P1.put2 (g := (w.heap.size + 1)) (b' := bx4x1) (A' := Ax4x1) (n' := nx4x1) (c' := cx4x1) (by omega)
     replace BB := Below.put2 (g := (w.heap.size + 1)) (b' := bx4x1) (A' := Ax4x1) (n' := nx4x1) (c' := cx4x1) BB (by omega)
     replace P2 := P2.set2 (b' := bx4x1) (A' := Ax4x1) (n' := nx4x1) (c' := cx4x1)
     clear KR
     generalize World.setCell _ ⟨w.heap.size + 1, 1, none⟩ _ = w8 at D1 Nx1x3 Tx1x3 Vx4x1 Nx4x1 Tx4x1 P1 P2 BB ⊢
     have rc0 := P2.c0
     have rc1 := P2.c1
     exact bodyPost_ret (v := .agg #[.bool bx4x1, .slice Ax4x1 nx4x1 cx4x1]) (by simp [results, Tryz.results52, go_sem, rc0, rc1]) rfl ⟨_, rfl, BB, by rw [dOf_of HY.out]; exact Vx4x1⟩
theorem cMade3 (h1 : IsQm w v1 q1 k1) (hk1 : k1 ≤ 900) (g1 : 1 ≤ k1) : Calls Tryz.prog 16 #[v1] w (Ans w fun w' v => IsQt w' v (q1) k1) := by
 have M1 := h1
 obtain ⟨b1, A1, n1, c1, B1, m1, d1, rfl, z1, y1, zz, D1, hq1⟩ := h1
 have I1 : IsM w (.agg #[.bool b1, .slice A1 n1 c1]) z1 _ := ⟨_, _, _, _, rfl, zz⟩
 obtain ⟨x1, N1, hz1⟩ := zz.row
 have HQ1 := Lib.hid hq1
 have HZ1 := Lib.hid hz1
 clear zz hq1 hz1
 have BB := (bl_trans (bl_alloc w (.cells #[.bool b1, .slice A1 n1 c1, .slice B1 m1 d1] 26)) (bl_alloc _ (.cells #[.bool false, .slice none 0 0, .slice none 0 0] 26)))
 replace M1 := M1.below BB
 replace I1 := I1.below BB
 replace D1 := D1.below BB
 replace N1 := N1.below BB
 have P1 := (Bq.new w b1 A1 n1 c1 B1 m1 d1).alloc (.cells #[.bool false, .slice none 0 0, .slice none 0 0] 26)
 have P2 := Bq.new (w.alloc (.cells #[.bool b1, .slice A1 n1 c1, .slice B1 m1 d1] 26)) false none 0 0 none 0 0
 simp only [hs_alloc] at P2
 go_enter Tryz.func16, Tryz.ntmps16
 go_upto_region 1 with (fail)
 generalize ((w.alloc (.cells #[.bool b1, .slice A1 n1 c1, .slice B1 m1 d1] 26)).alloc (.cells #[.bool false, .slice none 0 0, .slice none 0 0] 26)) = w0 at M1 I1 D1 N1 P1 P2 BB ⊢
 refine wp_cut (by kernel_rfl) 5 ?_
 simp only [List.take_succ_cons, List.take_zero, List.drop_succ_cons, List.drop_zero]
 refine wp_cut_list (Ext := RB) (Rel := RBu) [fun v _ _ => v = .pointer (some ⟨w.heap.size, 0, none⟩), fun v _ _ => v = .agg #[.bool b1, .slice A1 n1 c1], fun v _ _ => v = .agg #[.bool b1, .slice A1 n1 c1, .slice B1 m1 d1], fun v _ w => IsT w v (((dOf y1 : Nat) : Int)) k1, fun v _ w => IsQt w v (q1) (max k1 k1)] (n := 5) (by kernel_rfl) (by kernel_rfl) (by kernel_rfl) (by kernel_rfl) (by kernel_rfl) (by kernel_rfl) (by kernel_rfl) (by kernel_rfl) (by kernel_rfl) rb_refl rb_trans ⟨sC, ⟨sC, ⟨sC, ⟨sT, ⟨sQt, trivial⟩⟩⟩⟩⟩ ?_ ?_
 ·refine ⟨⟨⟨⟨⟨trivial, ?_⟩, ?_⟩, ?_⟩, ?_⟩, ?_⟩
  ·refine rs_plain rfl rfl fun a wr S => ?_
   have X := undrew S.ext
   exact wp_qf0 (ev_of ((S.old 1 (by kernel_rfl)).trans rfl)) (done (by kernel_rfl) rbu_refl rfl)
  ·refine rs_plain rfl rfl fun a wr S => ?_
   have X := undrew S.ext
   obtain ⟨v0, e0, h0⟩ := S.got 0 (by kernel_rfl)
   exact wp_qN ((ev_of (e0 3 (by kernel_rfl))).trans h0) (P1.below X) (done (by kernel_rfl) rbu_refl rfl)
  ·refine rs_plain rfl rfl fun a wr S => ?_
   have X := undrew S.ext
   exact wp_qload (ev_of ((S.old 1 (by kernel_rfl)).trans rfl)) (P1.below X) (done (by kernel_rfl) rbu_refl rfl)
  ·refine rs_plain rfl rfl fun a wr S => ?_
   have X := undrew S.ext
   obtain ⟨v2, e2, h2⟩ := S.got 2 (by kernel_rfl)
   exact st_call cf_ref03_down (args1 ((ev_of (e2 5 (by kernel_rfl))).trans h2)) (by kernel_rfl) rb ((cDown3 (D1.below X) (by omega) (by omega)).mono ansT) (fun _ _ _ h => h)
  ·refine rs_plain rfl rfl fun a wr S => ?_
   have X := undrew S.ext
   obtain ⟨v1, e1, h1⟩ := S.got 1 (by kernel_rfl)
   obtain ⟨v3, e3, h3⟩ := S.got 3 (by kernel_rfl)
   exact st_call cf_ref03_Of (args2 ((ev_of (e1 4 (by kernel_rfl))).trans h1) (ev_of (e3 6 (by kernel_rfl)))) (by kernel_rfl) rb ((cOf3R (show IsM _ _ _ _ from (I1.below X)) (show IsM _ _ _ _ from h3.m) (by omega) (by omega) (dOf_int _)).mono (ansQe (made_q HQ1.out))) (fun _ _ _ h => h)
 ·intro fw1 w1 hR hv hap
  clear hap
  replace hR := undrew hR
  have f0 : fw1 0 = .pointer (some ⟨w.heap.size, 0, none⟩) := (hvc (hv 0 (by omega))).elim fun _ h => h
  have f1 : fw1 1 = .agg #[.bool b1, .slice A1 n1 c1] := (hvc (hv 1 (by omega))).elim fun _ h => h
  have f2 : fw1 2 = .agg #[.bool b1, .slice A1 n1 c1, .slice B1 m1 d1] := (hvc (hv 2 (by omega))).elim fun _ h => h
  obtain ⟨bx1x4, Ax1x4, nx1x4, cx1x4, Bx1x4, mx1x4, dx1x4, f4, Tx1x4⟩ := (show IsQt w1 _ (q1) (max k1 k1) from (hvc (hv 4 (by omega))).elim fun _ h => h).opened
  simp only [putFn, Act.put, List.setIfInBounds_toArray, List.set_cons_zero, List.set_cons_succ, f0, f1, f2, f4]
  replace M1 := M1.below hR
  replace I1 := I1.below hR
  replace D1 := D1.below hR
  replace N1 := N1.below hR
  replace P1 := P1.below hR
  replace P2 := P2.below hR
  replace BB := bl_trans BB hR
  clear hR hv
  have r20 := P2.c0
  have t20 := P2.f 0
  have r21 := P2.c1
  have t21 := P2.f 1
  have r22 := P2.c2
  have t22 := P2.f 2
  go_wp2_with fail
  clear r20 t20 r21 t21 r22 t22
  have KR := kr_put3 (b' := bx1x4) (A' := Ax1x4) (n' := nx1x4) (c' := cx1x4) (B' := Bx1x4) (m' := mx1x4) (d' := dx1x4) P2
  replace M1 := M1.kr KR
  replace I1 := I1.kr KR
  replace D1 := D1.kr KR
  replace N1 := N1.kr KR
  replace Tx1x4 := Tx1x4.kr KR
  replace P1 := P1.put3 (g := (w.heap.size + 1)) (t' := true) (b' := bx1x4) (A' := Ax1x4) (n' := nx1x4) (c' := cx1x4) (B' := Bx1x4) (m' := mx1x4) (d' := dx1x4) (by omega)
  replace BB := Below.put3 (g := (w.heap.size + 1)) (b' := bx1x4) (A' := Ax1x4) (n' := nx1x4) (c' := cx1x4) (B' := Bx1x4) (m' := mx1x4) (d' := dx1x4) BB (by omega)
  replace P2 := P2.set3 (b' := bx1x4) (A' := Ax1x4) (n' := nx1x4) (c' := cx1x4) (B' := Bx1x4) (m' := mx1x4) (d' := dx1x4)
  clear KR
  generalize World.setCell _ ⟨w.heap.size + 1, 2, none⟩ _ = w2 at M1 I1 D1 N1 Tx1x4 P1 P2 BB ⊢
  have rc0 := P2.c0
  have rc1 := P2.c1
  have rc2 := P2.c2
  exact bodyPost_ret (v := .agg #[.bool bx1x4, .slice Ax1x4 nx1x4 cx1x4, .slice Bx1x4 mx1x4 dx1x4]) (by simp [results, Tryz.results16, go_sem, rc0, rc1, rc2]) rfl ⟨_, rfl, BB, Tx1x4.mono (by omega)⟩
end
end Go.Proofs.YtbhgbilhoonopaaGreat
namespace Go.Proofs.YtbhgbilhoonopaaGreat
open Go.RowKit
set_option linter.unusedVariables false
set_option maxRecDepth 100000

section
variable {w : World} {v v' v1 : Value} {q1 : Rat} {x y k j k1 : Nat}
theorem cf_ref01_Same : CallsF 73 := fun args w => by go_simp
theorem rSame (h : IsTr w v x k) (g : IsTr w v' y j) (hk : k ≤ 1000) (hj : j ≤ 1000) : Calls Tryz.prog 73 #[v, v'] w (Ans w fun _ r => r = .bool (decide (x = y))) := by
 obtain ⟨A, n, c, rfl, h⟩ := h
 obtain ⟨B, m, d, rfl, g⟩ := g
 have hl := h.le
 have gl := g.le
 refine (Same_any _ _ _ _ _ _ _ _ _ h.rd g.rd (by omega) (by omega)).mono ?_
 rintro e w' ⟨rfl, hb⟩
 exact ⟨_, rfl, hb, congrArg Value.bool (decide_eq_decide.2 M.lims_inj)⟩
theorem txtQ_of (s : Bool) (hs : s = decide (q1.num < 0)) : (if q1.den = 1 then (if s then [45] ++ M.txt q1.num.natAbs else M.txt q1.num.natAbs) else (if s then [45] ++ M.txt q1.num.natAbs else M.txt q1.num.natAbs) ++ [47] ++ M.txt q1.den) = txtQ q1 := by
 have e : (if s then [45] ++ M.txt q1.num.natAbs else M.txt q1.num.natAbs) = txtZ q1.num := by
  subst hs
  unfold txtZ
  by_cases h : q1.num < 0
  ·rw [decide_eq_true h, if_pos rfl, if_pos h]; rfl
  ·rw [decide_eq_false h, if_neg (by decide), if_neg h]
 rw [e]
 rfl
set_option maxHeartbeats 2000000
theorem cText3 (h1 : IsQm w v1 q1 k1) (hk1 : k1 ≤ 900) (g1 : 1 ≤ k1) : Calls Tryz.prog 38 #[v1] w (Ans w fun _ v => IsS v (txtQ q1)) := by
 have M1 := h1
 obtain ⟨b1, A1, n1, c1, B1, m1, d1, rfl, z1, y1, zz, D1, hq1⟩ := h1
 have I1 : IsM w (.agg #[.bool b1, .slice A1 n1 c1]) z1 _ := ⟨_, _, _, _, rfl, zz⟩
 obtain ⟨x1, N1, hz1⟩ := zz.row
 have HQ1 := Lib.hid hq1
 have HZ1 := Lib.hid hz1
 clear zz hq1 hz1
 have BB := (bl_alloc w (.cells #[.bool b1, .slice A1 n1 c1, .slice B1 m1 d1] 26))
 replace M1 := M1.below BB
 replace I1 := I1.below BB
 replace D1 := D1.below BB
 replace N1 := N1.below BB
 have P1 := Bq.new w b1 A1 n1 c1 B1 m1 d1
 go_enter Tryz.func38, Tryz.ntmps38
 go_upto_region 1 with (fail)
 generalize (w.alloc (.cells #[.bool b1, .slice A1 n1 c1, .slice B1 m1 d1] 26)) = w0 at M1 I1 D1 N1 P1 BB ⊢
 refine wp_seq 2 ?_
 simp only [List.take_succ_cons, List.take_zero, List.drop_succ_cons, List.drop_zero]
 refine wp_seq_list (Ext := RB) (Rel := RBu) [fun v _ _ => v = .agg #[.bool b1, .slice A1 n1 c1, .slice B1 m1 d1], fun v _ w => IsQt w v (q1) k1] (n := 2) (by kernel_rfl) (by kernel_rfl) (by kernel_rfl) (by kernel_rfl) (by kernel_rfl) (by kernel_rfl) (by kernel_rfl) rb_refl rb_trans ⟨sC, ⟨sQt, trivial⟩⟩ ?_ ?_
 ·refine ⟨⟨trivial, ?_⟩, ?_⟩
  ·refine rs_plain rfl rfl fun a wr S => ?_
   have X := rbX S.ext
   exact wp_qload (ev_of ((S.old 1 (by kernel_rfl)).trans rfl)) (P1.below X) (done (by kernel_rfl) rbu_refl rfl)
  ·refine rs_plain rfl rfl fun a wr S => ?_
   have X := rbX S.ext
   obtain ⟨v0, e0, h0⟩ := S.got 0 (by kernel_rfl)
   exact st_call cf_ref03_Made (args1 ((ev_of (e0 4 (by kernel_rfl))).trans h0)) (by kernel_rfl) rb (cMade3 (show IsQm _ _ _ _ from (M1.below X)) (by omega) (by omega)) (fun _ _ _ h => h)
 ·intro fw1 w1 hR hv hap
  clear hap
  replace hR := rbX hR
  have f0 : fw1 0 = .agg #[.bool b1, .slice A1 n1 c1, .slice B1 m1 d1] := (hvc (hv 0 (by omega))).elim fun _ h => h
  obtain ⟨bx1x1, Ax1x1, nx1x1, cx1x1, Bx1x1, mx1x1, dx1x1, f1, Tx1x1⟩ := (show IsQt w1 _ (q1) k1 from (hvc (hv 1 (by omega))).elim fun _ h => h).opened
  simp only [putFn, Act.put, List.setIfInBounds_toArray, List.set_cons_zero, List.set_cons_succ, f0, f1]
  replace M1 := M1.below hR
  replace I1 := I1.below hR
  replace D1 := D1.below hR
  replace N1 := N1.below hR
  replace P1 := P1.below hR
  replace BB := bl_trans BB hR
  clear hR hv
  have r10 := P1.c0
  have t10 := P1.f 0
  have r11 := P1.c1
  have t11 := P1.f 1
  have r12 := P1.c2
  have t12 := P1.f 2
  go_upto_region 2 with (fail)
  clear r10 t10 r11 t11 r12 t12
  have KR := kr_put3 (b' := bx1x1) (A' := Ax1x1) (n' := nx1x1) (c' := cx1x1) (B' := Bx1x1) (m' := mx1x1) (d' := dx1x1) P1
  replace M1 := M1.kr KR
  replace I1 := I1.kr KR
  replace D1 := D1.kr KR
  replace N1 := N1.kr KR
  replace Tx1x1 := Tx1x1.kr KR
  replace BB := Below.put3 (g := w.heap.size) (b' := bx1x1) (A' := Ax1x1) (n' := nx1x1) (c' := cx1x1) (B' := Bx1x1) (m' := mx1x1) (d' := dx1x1) BB (by omega)
  replace P1 := P1.set3 (b' := bx1x1) (A' := Ax1x1) (n' := nx1x1) (c' := cx1x1) (B' := Bx1x1) (m' := mx1x1) (d' := dx1x1)
  clear KR
  generalize World.setCell _ ⟨w.heap.size, 2, none⟩ _ = w2 at M1 I1 D1 N1 Tx1x1 P1 BB ⊢
  have HB := Lib.hid (txtQ_of _ Tx1x1.pb)
  have L1 := txt_len Tx1x1.num_lt
  have L2 := txt_len Tx1x1.den_lt
  have Un := Tx1x1.pn.nm
  have Ud := Tx1x1.pd.nm
  have Td := Tx1x1.pd
  refine wp_seq 5 ?_
  simp only [List.take_succ_cons, List.take_zero, List.drop_succ_cons, List.drop_zero]
  refine wp_seq_list (Ext := RB) (Rel := RBu) [fun v _ _ => v = .pointer (some ⟨w.heap.size, 0, none⟩), fun v _ _ => v = .pointer (some ⟨w.heap.size, 1, none⟩), fun v _ _ => v = .slice Ax1x1 nx1x1 cx1x1, fun v _ _ => IsS v (M.txt q1.num.natAbs), fun v _ _ => IsS v (M.txt q1.num.natAbs)] (n := 5) (by kernel_rfl) (by kernel_rfl) (by kernel_rfl) (by kernel_rfl) (by kernel_rfl) (by kernel_rfl) (by kernel_rfl) rb_refl rb_trans ⟨sC, ⟨sC, ⟨sC, ⟨sS, ⟨sS, trivial⟩⟩⟩⟩⟩ ?_ ?_
  ·refine ⟨⟨⟨⟨⟨trivial, ?_⟩, ?_⟩, ?_⟩, ?_⟩, ?_⟩
   ·refine rs_plain rfl rfl fun a wr S => ?_
    have X := rbX S.ext
    exact wp_qf0 (ev_of ((S.old 1 (by kernel_rfl)).trans rfl)) (done (by kernel_rfl) rbu_refl rfl)
   ·refine rs_plain rfl rfl fun a wr S => ?_
    have X := rbX S.ext
    obtain ⟨v0, e0, h0⟩ := S.got 0 (by kernel_rfl)
    exact wp_field1 ((ev_of (e0 6 (by kernel_rfl))).trans h0) (done (by kernel_rfl) rbu_refl rfl)
   ·refine rs_plain rfl rfl fun a wr S => ?_
    have X := rbX S.ext
    obtain ⟨v1, e1, h1⟩ := S.got 1 (by kernel_rfl)
    exact wp_qM ((ev_of (e1 7 (by kernel_rfl))).trans h1) (P1.below X) (done (by kernel_rfl) rbu_refl rfl)
   ·refine rs_plain rfl rfl fun a wr S => ?_
    have X := rbX S.ext
    obtain ⟨v2, e2, h2⟩ := S.got 2 (by kernel_rfl)
    exact st_call cf_ref01_Text (args1 ((ev_of (e2 8 (by kernel_rfl))).trans h2)) (by kernel_rfl) rb (rText ⟨_, _, _, rfl, Un.below X⟩ (by omega)) (fun _ _ _ h => h)
   ·refine rs_plain rfl rfl fun a wr S => ?_
    have X := rbX S.ext
    obtain ⟨v3, e3, h3⟩ := S.got 3 (by kernel_rfl)
    exact wp_as (ev_of (e3 9 (by kernel_rfl))) (done (by kernel_rfl) rbu_refl h3)
  ·intro fw3 w3 hR hv hap
   clear hap
   replace hR := rbX hR
   have f0 : fw3 0 = .pointer (some ⟨w.heap.size, 0, none⟩) := (hvc (hv 0 (by omega))).elim fun _ h => h
   have f1 : fw3 1 = .pointer (some ⟨w.heap.size, 1, none⟩) := (hvc (hv 1 (by omega))).elim fun _ h => h
   have f2 : fw3 2 = .slice Ax1x1 nx1x1 cx1x1 := (hvc (hv 2 (by omega))).elim fun _ h => h
   obtain ⟨sx2x4, f4, hx2x4⟩ := (show IsS _ _ from (hvc (hv 4 (by omega))).elim fun _ h => h)
   simp only [putFn, Act.put, List.setIfInBounds_toArray, List.set_cons_zero, List.set_cons_succ, f0, f1, f2, f4]
   replace M1 := M1.below hR
   replace I1 := I1.below hR
   replace D1 := D1.below hR
   replace N1 := N1.below hR
   replace Tx1x1 := Tx1x1.below hR
   replace Un := Un.below hR
   replace Ud := Ud.below hR
   replace Td := Td.below hR
   replace P1 := P1.below hR
   replace BB := bl_trans BB hR
   clear hR hv
   have Hx2x4 := Lib.hid hx2x4
   clear hx2x4
   go_upto_region 3 with (fail)
   cases bx1x1
   ·by_cases hd : q1.den = 1
    ·have HE := Lib.hid hd
     have HT := HB.out
     rw [if_pos hd] at HT
     simp only [Bool.false_eq_true, if_false] at HT
     have HT := Lib.hid HT
     clear hd HB
     refine wp_seq 3 ?_
     simp only [List.take_succ_cons, List.take_zero, List.drop_succ_cons, List.drop_zero]
     refine wp_seq_list (Ext := RB) (Rel := RBu) [fun v _ _ => v = .pointer (some ⟨w.heap.size, 0, none⟩), fun v _ _ => v = .pointer (some ⟨w.heap.size, 0, none⟩), fun v _ _ => v = .bool false] (n := 3) (by kernel_rfl) (by kernel_rfl) (by kernel_rfl) (by kernel_rfl) (by kernel_rfl) (by kernel_rfl) (by kernel_rfl) rb_refl rb_trans ⟨sC, ⟨sC, ⟨sC, trivial⟩⟩⟩ ?_ ?_
     ·refine ⟨⟨⟨trivial, ?_⟩, ?_⟩, ?_⟩
      ·refine rs_plain rfl rfl fun a wr S => ?_
       have X := rbX S.ext
       exact wp_qf0 (ev_of ((S.old 1 (by kernel_rfl)).trans rfl)) (done (by kernel_rfl) rbu_refl rfl)
      ·refine rs_plain rfl rfl fun a wr S => ?_
       have X := rbX S.ext
       obtain ⟨v0, e0, h0⟩ := S.got 0 (by kernel_rfl)
       exact wp_field0 ((ev_of (e0 10 (by kernel_rfl))).trans h0) (done (by kernel_rfl) rbu_refl rfl)
      ·refine rs_plain rfl rfl fun a wr S => ?_
       have X := rbX S.ext
       obtain ⟨v1, e1, h1⟩ := S.got 1 (by kernel_rfl)
       exact wp_qB ((ev_of (e1 11 (by kernel_rfl))).trans h1) (P1.below X) (done (by kernel_rfl) rbu_refl rfl)
     ·intro fw4 w4 hR hv hap
      clear hap
      replace hR := rbX hR
      have f0 : fw4 0 = .pointer (some ⟨w.heap.size, 0, none⟩) := (hvc (hv 0 (by omega))).elim fun _ h => h
      have f1 : fw4 1 = .pointer (some ⟨w.heap.size, 0, none⟩) := (hvc (hv 1 (by omega))).elim fun _ h => h
      have f2 : fw4 2 = .bool false := (hvc (hv 2 (by omega))).elim fun _ h => h
      simp only [putFn, Act.put, List.setIfInBounds_toArray, List.set_cons_zero, List.set_cons_succ, f0, f1, f2]
      replace M1 := M1.below hR
      replace I1 := I1.below hR
      replace D1 := D1.below hR
      replace N1 := N1.below hR
      replace Tx1x1 := Tx1x1.below hR
      replace Un := Un.below hR
      replace Ud := Ud.below hR
      replace Td := Td.below hR
      replace P1 := P1.below hR
      replace BB := bl_trans BB hR
      clear hR hv
      go_upto_region 5 with (fail)
      refine wp_seq 5 ?_
      simp only [List.take_succ_cons, List.take_zero, List.drop_succ_cons, List.drop_zero]
      refine wp_seq_list (Ext := RB) (Rel := RBu) [fun v _ _ => v = .pointer (some ⟨w.heap.size, 2, none⟩), fun v _ _ => v = .slice Bx1x1 mx1x1 dx1x1, fun v _ w => IsTr w v (1) 1, fun v _ _ => v = .bool true, fun v _ _ => v = .bool false] (n := 5) (by kernel_rfl) (by kernel_rfl) (by kernel_rfl) (by kernel_rfl) (by kernel_rfl) (by kernel_rfl) (by kernel_rfl) rb_refl rb_trans ⟨sC, ⟨sC, ⟨sTr, ⟨sC, ⟨sC, trivial⟩⟩⟩⟩⟩ ?_ ?_
      ·refine ⟨⟨⟨⟨⟨trivial, ?_⟩, ?_⟩, ?_⟩, ?_⟩, ?_⟩
       ·refine rs_plain rfl rfl fun a wr S => ?_
        have X := rbX S.ext
        exact wp_qf1 (ev_of ((S.old 1 (by kernel_rfl)).trans rfl)) (done (by kernel_rfl) rbu_refl rfl)
       ·refine rs_plain rfl rfl fun a wr S => ?_
        have X := rbX S.ext
        obtain ⟨v0, e0, h0⟩ := S.got 0 (by kernel_rfl)
        exact wp_qD ((ev_of (e0 15 (by kernel_rfl))).trans h0) (P1.below X) (done (by kernel_rfl) rbu_refl rfl)
       ·refine rs_plain rfl rfl fun a wr S => ?_
        have X := rbX S.ext
        exact wp_bsL1 (done' (by kernel_rfl) (rb _ _ _ (bl_alloc _ _)) (litTr1 wr))
       ·refine rs_plain rfl rfl fun a wr S => ?_
        have X := rbX S.ext
        obtain ⟨v1, e1, h1⟩ := S.got 1 (by kernel_rfl)
        obtain ⟨v2, e2, h2⟩ := S.got 2 (by kernel_rfl)
        exact st_call cf_ref01_Same (args2 ((ev_of (e1 16 (by kernel_rfl))).trans h1) (ev_of (e2 17 (by kernel_rfl)))) (by kernel_rfl) rb ((rSame (show IsTr _ _ _ _ from ⟨_, _, _, rfl, Td.below X⟩) (show IsTr _ _ _ _ from h2) (by omega) (by omega)).mono (ansB (decide_eq_true HE.out))) (fun _ _ _ h => h)
       ·refine rs_plain rfl rfl fun a wr S => ?_
        have X := rbX S.ext
        obtain ⟨v3, e3, h3⟩ := S.got 3 (by kernel_rfl)
        exact wp_not ((ev_of (e3 18 (by kernel_rfl))).trans h3) (done (by kernel_rfl) rbu_refl rfl)
      ·intro fw5 w5 hR hv hap
       clear hap
       replace hR := rbX hR
       have f0 : fw5 0 = .pointer (some ⟨w.heap.size, 2, none⟩) := (hvc (hv 0 (by omega))).elim fun _ h => h
       have f1 : fw5 1 = .slice Bx1x1 mx1x1 dx1x1 := (hvc (hv 1 (by omega))).elim fun _ h => h
       have f3 : fw5 3 = .bool true := (hvc (hv 3 (by omega))).elim fun _ h => h
       have f4 : fw5 4 = .bool false := (hvc (hv 4 (by omega))).elim fun _ h => h
       simp only [putFn, Act.put, List.setIfInBounds_toArray, List.set_cons_zero, List.set_cons_succ, f0, f1, f3, f4]
       replace M1 := M1.below hR
       replace I1 := I1.below hR
       replace D1 := D1.below hR
       replace N1 := N1.below hR
       replace Tx1x1 := Tx1x1.below hR
       replace Un := Un.below hR
       replace Ud := Ud.below hR
       replace Td := Td.below hR
       replace P1 := P1.below hR
       replace BB := bl_trans BB hR
       clear hR hv
       go_upto_region 7 with (fail)
       refine wp_seq 2 ?_
       simp only [List.take_succ_cons, List.take_zero, List.drop_succ_cons, List.drop_zero]
       refine wp_seq_list (Ext := RB) (Rel := RBu) [fun v _ _ => v = .string sx2x4, fun v _ _ => v = .string sx2x4] (n := 2) (by kernel_rfl) (by kernel_rfl) (by kernel_rfl) (by kernel_rfl) (by kernel_rfl) (by kernel_rfl) (by kernel_rfl) rb_refl rb_trans ⟨sC, ⟨sC, trivial⟩⟩ ?_ ?_
       ·refine ⟨⟨trivial, ?_⟩, ?_⟩
        ·refine rs_plain rfl rfl fun a wr S => ?_
         have X := rbX S.ext
         exact wp_mv (ev_of ((S.old 3 (by kernel_rfl)).trans rfl)) (done (by kernel_rfl) rbu_refl rfl)
        ·refine rs_plain rfl rfl fun a wr S => ?_
         have X := rbX S.ext
         obtain ⟨v0, e0, h0⟩ := S.got 0 (by kernel_rfl)
         exact wp_as ((ev_of (e0 26 (by kernel_rfl))).trans h0) (done (by kernel_rfl) rbu_refl rfl)
       ·intro fw6 w6 hR hv hap
        clear hap
        replace hR := rbX hR
        have f0 : fw6 0 = .string sx2x4 := (hvc (hv 0 (by omega))).elim fun _ h => h
        have f1 : fw6 1 = .string sx2x4 := (hvc (hv 1 (by omega))).elim fun _ h => h
        simp only [putFn, Act.put, List.setIfInBounds_toArray, List.set_cons_zero, List.set_cons_succ, f0, f1]
        replace M1 := M1.below hR
        replace I1 := I1.below hR
        replace D1 := D1.below hR
        replace N1 := N1.below hR
        replace Tx1x1 := Tx1x1.below hR
        replace Un := Un.below hR
        replace Ud := Ud.below hR
        replace Td := Td.below hR
        replace P1 := P1.below hR
        replace BB := bl_trans BB hR
        clear hR hv
        go_wp2_with fail
        go_ret
        exact ⟨_, rfl, BB, by rw [← HT.out]; exact ⟨_, rfl, Hx2x4.out⟩⟩
    ·have HE := Lib.hid hd
     have HT := HB.out
     rw [if_neg hd] at HT
     simp only [Bool.false_eq_true, if_false] at HT
     have HT := Lib.hid HT
     clear hd HB
     refine wp_seq 3 ?_
     simp only [List.take_succ_cons, List.take_zero, List.drop_succ_cons, List.drop_zero]
     refine wp_seq_list (Ext := RB) (Rel := RBu) [fun v _ _ => v = .pointer (some ⟨w.heap.size, 0, none⟩), fun v _ _ => v = .pointer (some ⟨w.heap.size, 0, none⟩), fun v _ _ => v = .bool false] (n := 3) (by kernel_rfl) (by kernel_rfl) (by kernel_rfl) (by kernel_rfl) (by kernel_rfl) (by kernel_rfl) (by kernel_rfl) rb_refl rb_trans ⟨sC, ⟨sC, ⟨sC, trivial⟩⟩⟩ ?_ ?_
     ·refine ⟨⟨⟨trivial, ?_⟩, ?_⟩, ?_⟩
      ·refine rs_plain rfl rfl fun a wr S => ?_
       have X := rbX S.ext
       exact wp_qf0 (ev_of ((S.old 1 (by kernel_rfl)).trans rfl)) (done (by kernel_rfl) rbu_refl rfl)
      ·refine rs_plain rfl rfl fun a wr S => ?_
       have X := rbX S.ext
       obtain ⟨v0, e0, h0⟩ := S.got 0 (by kernel_rfl)
       exact wp_field0 ((ev_of (e0 10 (by kernel_rfl))).trans h0) (done (by kernel_rfl) rbu_refl rfl)
      ·refine rs_plain rfl rfl fun a wr S => ?_
       have X := rbX S.ext
       obtain ⟨v1, e1, h1⟩ := S.got 1 (by kernel_rfl)
       exact wp_qB ((ev_of (e1 11 (by kernel_rfl))).trans h1) (P1.below X) (done (by kernel_rfl) rbu_refl rfl)
     ·intro fw7 w7 hR hv hap
      clear hap
      replace hR := rbX hR
      have f0 : fw7 0 = .pointer (some ⟨w.heap.size, 0, none⟩) := (hvc (hv 0 (by omega))).elim fun _ h => h
      have f1 : fw7 1 = .pointer (some ⟨w.heap.size, 0, none⟩) := (hvc (hv 1 (by omega))).elim fun _ h => h
      have f2 : fw7 2 = .bool false := (hvc (hv 2 (by omega))).elim fun _ h => h
      simp only [putFn, Act.put, List.setIfInBounds_toArray, List.set_cons_zero, List.set_cons_succ, f0, f1, f2]
      replace M1 := M1.below hR
      replace I1 := I1.below hR
      replace D1 := D1.below hR
      replace N1 := N1.below hR
      replace Tx1x1 := Tx1x1.below hR
      replace Un := Un.below hR
      replace Ud := Ud.below hR
      replace Td := Td.below hR
      replace P1 := P1.below hR
      replace BB := bl_trans BB hR
      clear hR hv
      go_upto_region 5 with (fail)
      refine wp_seq 5 ?_
      simp only [List.take_succ_cons, List.take_zero, List.drop_succ_cons, List.drop_zero]
      refine wp_seq_list (Ext := RB) (Rel := RBu) [fun v _ _ => v = .pointer (some ⟨w.heap.size, 2, none⟩), fun v _ _ => v = .slice Bx1x1 mx1x1 dx1x1, fun v _ w => IsTr w v (1) 1, fun v _ _ => v = .bool false, fun v _ _ => v = .bool true] (n := 5) (by kernel_rfl) (by kernel_rfl) (by kernel_rfl) (by kernel_rfl) (by kernel_rfl) (by kernel_rfl) (by kernel_rfl) rb_refl rb_trans ⟨sC, ⟨sC, ⟨sTr, ⟨sC, ⟨sC, trivial⟩⟩⟩⟩⟩ ?_ ?_
      ·refine ⟨⟨⟨⟨⟨trivial, ?_⟩, ?_⟩, ?_⟩, ?_⟩, ?_⟩
       ·refine rs_plain rfl rfl fun a wr S => ?_
        have X := rbX S.ext
        exact wp_qf1 (ev_of ((S.old 1 (by kernel_rfl)).trans rfl)) (done (by kernel_rfl) rbu_refl rfl)
       ·refine rs_plain rfl rfl fun a wr S => ?_
        have X := rbX S.ext
        obtain ⟨v0, e0, h0⟩ := S.got 0 (by kernel_rfl)
        exact wp_qD ((ev_of (e0 15 (by kernel_rfl))).trans h0) (P1.below X) (done (by kernel_rfl) rbu_refl rfl)
       ·refine rs_plain rfl rfl fun a wr S => ?_
        have X := rbX S.ext
        exact wp_bsL1 (done' (by kernel_rfl) (rb _ _ _ (bl_alloc _ _)) (litTr1 wr))
       ·refine rs_plain rfl rfl fun a wr S => ?_
        have X := rbX S.ext
        obtain ⟨v1, e1, h1⟩ := S.got 1 (by kernel_rfl)
        obtain ⟨v2, e2, h2⟩ := S.got 2 (by kernel_rfl)
        exact st_call cf_ref01_Same (args2 ((ev_of (e1 16 (by kernel_rfl))).trans h1) (ev_of (e2 17 (by kernel_rfl)))) (by kernel_rfl) rb ((rSame (show IsTr _ _ _ _ from ⟨_, _, _, rfl, Td.below X⟩) (show IsTr _ _ _ _ from h2) (by omega) (by omega)).mono (ansB (decide_eq_false HE.out))) (fun _ _ _ h => h)
       ·refine rs_plain rfl rfl fun a wr S => ?_
        have X := rbX S.ext
        obtain ⟨v3, e3, h3⟩ := S.got 3 (by kernel_rfl)
        exact wp_not ((ev_of (e3 18 (by kernel_rfl))).trans h3) (done (by kernel_rfl) rbu_refl rfl)
      ·intro fw8 w8 hR hv hap
       clear hap
       replace hR := rbX hR
       have f0 : fw8 0 = .pointer (some ⟨w.heap.size, 2, none⟩) := (hvc (hv 0 (by omega))).elim fun _ h => h
       have f1 : fw8 1 = .slice Bx1x1 mx1x1 dx1x1 := (hvc (hv 1 (by omega))).elim fun _ h => h
       have f3 : fw8 3 = .bool false := (hvc (hv 3 (by omega))).elim fun _ h => h
       have f4 : fw8 4 = .bool true := (hvc (hv 4 (by omega))).elim fun _ h => h
       simp only [putFn, Act.put, List.setIfInBounds_toArray, List.set_cons_zero, List.set_cons_succ, f0, f1, f3, f4]
       replace M1 := M1.below hR
       replace I1 := I1.below hR
       replace D1 := D1.below hR
       replace N1 := N1.below hR
       replace Tx1x1 := Tx1x1.below hR
       replace Un := Un.below hR
       replace Ud := Ud.below hR
       replace Td := Td.below hR
       replace P1 := P1.below hR
       replace BB := bl_trans BB hR
       clear hR hv
       go_upto_region 6 with (fail)
       refine wp_seq 7 ?_
       simp only [List.take_succ_cons, List.take_zero, List.drop_succ_cons, List.drop_zero]
       refine wp_seq_list (Ext := RB) (Rel := RBu) [fun v _ _ => v = .string sx2x4, fun v _ _ => IsS v (M.txt q1.num.natAbs ++ [47]), fun v _ _ => v = .pointer (some ⟨w.heap.size, 2, none⟩), fun v _ _ => v = .slice Bx1x1 mx1x1 dx1x1, fun v _ _ => IsS v (M.txt q1.den), fun v _ _ => IsS v (M.txt q1.num.natAbs ++ [47] ++ M.txt q1.den), fun v _ _ => IsS v (M.txt q1.num.natAbs ++ [47] ++ M.txt q1.den)] (n := 7) (by kernel_rfl) (by kernel_rfl) (by kernel_rfl) (by kernel_rfl) (by kernel_rfl) (by kernel_rfl) (by kernel_rfl) rb_refl rb_trans ⟨sC, ⟨sS, ⟨sC, ⟨sC, ⟨sS, ⟨sS, ⟨sS, trivial⟩⟩⟩⟩⟩⟩⟩ ?_ ?_
       ·refine ⟨⟨⟨⟨⟨⟨⟨trivial, ?_⟩, ?_⟩, ?_⟩, ?_⟩, ?_⟩, ?_⟩, ?_⟩
        ·refine rs_plain rfl rfl fun a wr S => ?_
         have X := rbX S.ext
         exact wp_mv (ev_of ((S.old 3 (by kernel_rfl)).trans rfl)) (done (by kernel_rfl) rbu_refl rfl)
        ·refine rs_plain rfl rfl fun a wr S => ?_
         have X := rbX S.ext
         obtain ⟨v0, e0, h0⟩ := S.got 0 (by kernel_rfl)
         exact wp_addSS ((ev_of (e0 20 (by kernel_rfl))).trans h0) ⟨_, rfl, Hx2x4.out⟩ rfl (show IsS _ [47] from ⟨_, rfl, rfl⟩) (by first | omega | (simp only [List.length_cons, List.length_nil]; omega) | (simp only [List.length_append, List.length_cons, List.length_nil]; omega)) (by first | omega | (simp only [List.length_cons, List.length_nil]; omega) | (simp only [List.length_append, List.length_cons, List.length_nil]; omega)) (fun r hr => done (by kernel_rfl) rbu_refl hr)
        ·refine rs_plain rfl rfl fun a wr S => ?_
         have X := rbX S.ext
         exact wp_qf1 (ev_of ((S.old 1 (by kernel_rfl)).trans rfl)) (done (by kernel_rfl) rbu_refl rfl)
        ·refine rs_plain rfl rfl fun a wr S => ?_
         have X := rbX S.ext
         obtain ⟨v2, e2, h2⟩ := S.got 2 (by kernel_rfl)
         exact wp_qD ((ev_of (e2 22 (by kernel_rfl))).trans h2) (P1.below X) (done (by kernel_rfl) rbu_refl rfl)
        ·refine rs_plain rfl rfl fun a wr S => ?_
         have X := rbX S.ext
         obtain ⟨v3, e3, h3⟩ := S.got 3 (by kernel_rfl)
         exact st_call cf_ref01_Text (args1 ((ev_of (e3 23 (by kernel_rfl))).trans h3)) (by kernel_rfl) rb (rText ⟨_, _, _, rfl, Ud.below X⟩ (by omega)) (fun _ _ _ h => h)
        ·refine rs_plain rfl rfl fun a wr S => ?_
         have X := rbX S.ext
         obtain ⟨v1, e1, h1⟩ := S.got 1 (by kernel_rfl)
         obtain ⟨v4, e4, h4⟩ := S.got 4 (by kernel_rfl)
         exact wp_addSS (ev_of (e1 21 (by kernel_rfl))) (show IsS _ _ from h1) (ev_of (e4 24 (by kernel_rfl))) (show IsS _ _ from h4) (by first | omega | (simp only [List.length_cons, List.length_nil]; omega) | (simp only [List.length_append, List.length_cons, List.length_nil]; omega)) (by first | omega | (simp only [List.length_cons, List.length_nil]; omega) | (simp only [List.length_append, List.length_cons, List.length_nil]; omega)) (fun r hr => done (by kernel_rfl) rbu_refl hr)
        ·refine rs_plain rfl rfl fun a wr S => ?_
         have X := rbX S.ext
         obtain ⟨v5, e5, h5⟩ := S.got 5 (by kernel_rfl)
         exact wp_as (ev_of (e5 25 (by kernel_rfl))) (done (by kernel_rfl) rbu_refl h5)
       ·intro fw9 w9 hR hv hap
        clear hap
        replace hR := rbX hR
        have f0 : fw9 0 = .string sx2x4 := (hvc (hv 0 (by omega))).elim fun _ h => h
        have f2 : fw9 2 = .pointer (some ⟨w.heap.size, 2, none⟩) := (hvc (hv 2 (by omega))).elim fun _ h => h
        have f3 : fw9 3 = .slice Bx1x1 mx1x1 dx1x1 := (hvc (hv 3 (by omega))).elim fun _ h => h
        obtain ⟨sx6x6, f6, hx6x6⟩ := (show IsS _ _ from (hvc (hv 6 (by omega))).elim fun _ h => h)
        simp only [putFn, Act.put, List.setIfInBounds_toArray, List.set_cons_zero, List.set_cons_succ, f0, f2, f3, f6]
        replace M1 := M1.below hR
        replace I1 := I1.below hR
        replace D1 := D1.below hR
        replace N1 := N1.below hR
        replace Tx1x1 := Tx1x1.below hR
        replace Un := Un.below hR
        replace Ud := Ud.below hR
        replace Td := Td.below hR
        replace P1 := P1.below hR
        replace BB := bl_trans BB hR
        clear hR hv
        have Hx6x6 := Lib.hid hx6x6
        clear hx6x6
        go_upto_region 7 with (fail)
        refine wp_seq 2 ?_
        simp only [List.take_succ_cons, List.take_zero, List.drop_succ_cons, List.drop_zero]
        refine wp_seq_list (Ext := RB) (Rel := RBu) [fun v _ _ => v = .string sx6x6, fun v _ _ => v = .string sx6x6] (n := 2) (by kernel_rfl) (by kernel_rfl) (by kernel_rfl) (by kernel_rfl) (by kernel_rfl) (by kernel_rfl) (by kernel_rfl) rb_refl rb_trans ⟨sC, ⟨sC, trivial⟩⟩ ?_ ?_
        ·refine ⟨⟨trivial, ?_⟩, ?_⟩
         ·refine rs_plain rfl rfl fun a wr S => ?_
          have X := rbX S.ext
          exact wp_mv (ev_of ((S.old 3 (by kernel_rfl)).trans rfl)) (done (by kernel_rfl) rbu_refl rfl)
         ·refine rs_plain rfl rfl fun a wr S => ?_
          have X := rbX S.ext
          obtain ⟨v0, e0, h0⟩ := S.got 0 (by kernel_rfl)
          exact wp_as ((ev_of (e0 26 (by kernel_rfl))).trans h0) (done (by kernel_rfl) rbu_refl rfl)
        ·intro fw10 w10 hR hv hap
         clear hap
         replace hR := rbX hR
         have f0 : fw10 0 = .string sx6x6 := (hvc (hv 0 (by omega))).elim fun _ h => h
         have f1 : fw10 1 = .string sx6x6 := (hvc (hv 1 (by omega))).elim fun _ h => h
         simp only [putFn, Act.put, List.setIfInBounds_toArray, List.set_cons_zero, List.set_cons_succ, f0, f1]
         replace M1 := M1.below hR
         replace I1 := I1.below hR
         replace D1 := D1.below hR
         replace N1 := N1.below hR
         replace Tx1x1 := Tx1x1.below hR
         replace Un := Un.below hR
         replace Ud := Ud.below hR
         replace Td := Td.below hR
         replace P1 := P1.below hR
         replace BB := bl_trans BB hR
         clear hR hv
         go_wp2_with fail
         go_ret
         exact ⟨_, rfl, BB, by rw [← HT.out]; exact ⟨_, rfl, Hx6x6.out⟩⟩
   ·by_cases hd : q1.den = 1
    ·have HE := Lib.hid hd
     have HT := HB.out
     rw [if_pos hd] at HT
     simp only [if_true] at HT
     have HT := Lib.hid HT
     clear hd HB
     refine wp_seq 3 ?_
     simp only [List.take_succ_cons, List.take_zero, List.drop_succ_cons, List.drop_zero]
     refine wp_seq_list (Ext := RB) (Rel := RBu) [fun v _ _ => v = .pointer (some ⟨w.heap.size, 0, none⟩), fun v _ _ => v = .pointer (some ⟨w.heap.size, 0, none⟩), fun v _ _ => v = .bool true] (n := 3) (by kernel_rfl) (by kernel_rfl) (by kernel_rfl) (by kernel_rfl) (by kernel_rfl) (by kernel_rfl) (by kernel_rfl) rb_refl rb_trans ⟨sC, ⟨sC, ⟨sC, trivial⟩⟩⟩ ?_ ?_
     ·refine ⟨⟨⟨trivial, ?_⟩, ?_⟩, ?_⟩
      ·refine rs_plain rfl rfl fun a wr S => ?_
       have X := rbX S.ext
       exact wp_qf0 (ev_of ((S.old 1 (by kernel_rfl)).trans rfl)) (done (by kernel_rfl) rbu_refl rfl)
      ·refine rs_plain rfl rfl fun a wr S => ?_
       have X := rbX S.ext
       obtain ⟨v0, e0, h0⟩ := S.got 0 (by kernel_rfl)
       exact wp_field0 ((ev_of (e0 10 (by kernel_rfl))).trans h0) (done (by kernel_rfl) rbu_refl rfl)
      ·refine rs_plain rfl rfl fun a wr S => ?_
       have X := rbX S.ext
       obtain ⟨v1, e1, h1⟩ := S.got 1 (by kernel_rfl)
       exact wp_qB ((ev_of (e1 11 (by kernel_rfl))).trans h1) (P1.below X) (done (by kernel_rfl) rbu_refl rfl)
     ·intro fw11 w11 hR hv hap
      clear hap
      replace hR := rbX hR
      have f0 : fw11 0 = .pointer (some ⟨w.heap.size, 0, none⟩) := (hvc (hv 0 (by omega))).elim fun _ h => h
      have f1 : fw11 1 = .pointer (some ⟨w.heap.size, 0, none⟩) := (hvc (hv 1 (by omega))).elim fun _ h => h
      have f2 : fw11 2 = .bool true := (hvc (hv 2 (by omega))).elim fun _ h => h
      simp only [putFn, Act.put, List.setIfInBounds_toArray, List.set_cons_zero, List.set_cons_succ, f0, f1, f2]
      replace M1 := M1.below hR
      replace I1 := I1.below hR
      replace D1 := D1.below hR
      replace N1 := N1.below hR
      replace Tx1x1 := Tx1x1.below hR
      replace Un := Un.below hR
      replace Ud := Ud.below hR
      replace Td := Td.below hR
      replace P1 := P1.below hR
      replace BB := bl_trans BB hR
      clear hR hv
      go_upto_region 4 with (fail)
      refine wp_seq 3 ?_
      simp only [List.take_succ_cons, List.take_zero, List.drop_succ_cons, List.drop_zero]
      refine wp_seq_list (Ext := RB) (Rel := RBu) [fun v _ _ => v = .string sx2x4, fun v _ _ => IsS v ([45] ++ M.txt q1.num.natAbs), fun v _ _ => IsS v ([45] ++ M.txt q1.num.natAbs)] (n := 3) (by kernel_rfl) (by kernel_rfl) (by kernel_rfl) (by kernel_rfl) (by kernel_rfl) (by kernel_rfl) (by kernel_rfl) rb_refl rb_trans ⟨sC, ⟨sS, ⟨sS, trivial⟩⟩⟩ ?_ ?_
      ·refine ⟨⟨⟨trivial, ?_⟩, ?_⟩, ?_⟩
       ·refine rs_plain rfl rfl fun a wr S => ?_
        have X := rbX S.ext
        exact wp_mv (ev_of ((S.old 3 (by kernel_rfl)).trans rfl)) (done (by kernel_rfl) rbu_refl rfl)
       ·refine rs_plain rfl rfl fun a wr S => ?_
        have X := rbX S.ext
        obtain ⟨v0, e0, h0⟩ := S.got 0 (by kernel_rfl)
        exact wp_addSS rfl (show IsS _ [45] from ⟨_, rfl, rfl⟩) ((ev_of (e0 13 (by kernel_rfl))).trans h0) ⟨_, rfl, Hx2x4.out⟩ (by first | omega | (simp only [List.length_cons, List.length_nil]; omega) | (simp only [List.length_append, List.length_cons, List.length_nil]; omega)) (by first | omega | (simp only [List.length_cons, List.length_nil]; omega) | (simp only [List.length_append, List.length_cons, List.length_nil]; omega)) (fun r hr => done (by kernel_rfl) rbu_refl hr)
       ·refine rs_plain rfl rfl fun a wr S => ?_
        have X := rbX S.ext
        obtain ⟨v1, e1, h1⟩ := S.got 1 (by kernel_rfl)
        exact wp_as (ev_of (e1 14 (by kernel_rfl))) (done (by kernel_rfl) rbu_refl h1)
      ·intro fw12 w12 hR hv hap
       clear hap
       replace hR := rbX hR
       have f0 : fw12 0 = .string sx2x4 := (hvc (hv 0 (by omega))).elim fun _ h => h
       obtain ⟨sx4x2, f2, hx4x2⟩ := (show IsS _ _ from (hvc (hv 2 (by omega))).elim fun _ h => h)
       simp only [putFn, Act.put, List.setIfInBounds_toArray, List.set_cons_zero, List.set_cons_succ, f0, f2]
       replace M1 := M1.below hR
       replace I1 := I1.below hR
       replace D1 := D1.below hR
       replace N1 := N1.below hR
       replace Tx1x1 := Tx1x1.below hR
       replace Un := Un.below hR
       replace Ud := Ud.below hR
       replace Td := Td.below hR
       replace P1 := P1.below hR
       replace BB := bl_trans BB hR
       clear hR hv
       have Hx4x2 := Lib.hid hx4x2
       clear hx4x2
       go_upto_region 5 with (fail)
       refine wp_seq 5 ?_
       simp only [List.take_succ_cons, List.take_zero, List.drop_succ_cons, List.drop_zero]
       refine wp_seq_list (Ext := RB) (Rel := RBu) [fun v _ _ => v = .pointer (some ⟨w.heap.size, 2, none⟩), fun v _ _ => v = .slice Bx1x1 mx1x1 dx1x1, fun v _ w => IsTr w v (1) 1, fun v _ _ => v = .bool true, fun v _ _ => v = .bool false] (n := 5) (by kernel_rfl) (by kernel_rfl) (by kernel_rfl) (by kernel_rfl) (by kernel_rfl) (by kernel_rfl) (by kernel_rfl) rb_refl rb_trans ⟨sC, ⟨sC, ⟨sTr, ⟨sC, ⟨sC, trivial⟩⟩⟩⟩⟩ ?_ ?_
       ·refine ⟨⟨⟨⟨⟨trivial, ?_⟩, ?_⟩, ?_⟩, ?_⟩, ?_⟩
        ·refine rs_plain rfl rfl fun a wr S => ?_
         have X := rbX S.ext
         exact wp_qf1 (ev_of ((S.old 1 (by kernel_rfl)).trans rfl)) (done (by kernel_rfl) rbu_refl rfl)
        ·refine rs_plain rfl rfl fun a wr S => ?_
         have X := rbX S.ext
         obtain ⟨v0, e0, h0⟩ := S.got 0 (by kernel_rfl)
         exact wp_qD ((ev_of (e0 15 (by kernel_rfl))).trans h0) (P1.below X) (done (by kernel_rfl) rbu_refl rfl)
        ·refine rs_plain rfl rfl fun a wr S => ?_
         have X := rbX S.ext
         exact wp_bsL1 (done' (by kernel_rfl) (rb _ _ _ (bl_alloc _ _)) (litTr1 wr))
        ·refine rs_plain rfl rfl fun a wr S => ?_
         have X := rbX S.ext
         obtain ⟨v1, e1, h1⟩ := S.got 1 (by kernel_rfl)
         obtain ⟨v2, e2, h2⟩ := S.got 2 (by kernel_rfl)
         exact st_call cf_ref01_Same (args2 ((ev_of (e1 16 (by kernel_rfl))).trans h1) (ev_of (e2 17 (by kernel_rfl)))) (by kernel_rfl) rb ((rSame (show IsTr _ _ _ _ from ⟨_, _, _, rfl, Td.below X⟩) (show IsTr _ _ _ _ from h2) (by omega) (by omega)).mono (ansB (decide_eq_true HE.out))) (fun _ _ _ h => h)
        ·refine rs_plain rfl rfl fun a wr S => ?_
         have X := rbX S.ext
         obtain ⟨v3, e3, h3⟩ := S.got 3 (by kernel_rfl)
         exact wp_not ((ev_of (e3 18 (by kernel_rfl))).trans h3) (done (by kernel_rfl) rbu_refl rfl)
       ·intro fw13 w13 hR hv hap
        clear hap
        replace hR := rbX hR
        have f0 : fw13 0 = .pointer (some ⟨w.heap.size, 2, none⟩) := (hvc (hv 0 (by omega))).elim fun _ h => h
        have f1 : fw13 1 = .slice Bx1x1 mx1x1 dx1x1 := (hvc (hv 1 (by omega))).elim fun _ h => h
        have f3 : fw13 3 = .bool true := (hvc (hv 3 (by omega))).elim fun _ h => h
        have f4 : fw13 4 = .bool false := (hvc (hv 4 (by omega))).elim fun _ h => h
        simp only [putFn, Act.put, List.setIfInBounds_toArray, List.set_cons_zero, List.set_cons_succ, f0, f1, f3, f4]
        replace M1 := M1.below hR
        replace I1 := I1.below hR
        replace D1 := D1.below hR
        replace N1 := N1.below hR
        replace Tx1x1 := Tx1x1.below hR
        replace Un := Un.below hR
        replace Ud := Ud.below hR
        replace Td := Td.below hR
        replace P1 := P1.below hR
        replace BB := bl_trans BB hR
        clear hR hv
        go_upto_region 7 with (fail)
        refine wp_seq 2 ?_
        simp only [List.take_succ_cons, List.take_zero, List.drop_succ_cons, List.drop_zero]
        refine wp_seq_list (Ext := RB) (Rel := RBu) [fun v _ _ => v = .string sx4x2, fun v _ _ => v = .string sx4x2] (n := 2) (by kernel_rfl) (by kernel_rfl) (by kernel_rfl) (by kernel_rfl) (by kernel_rfl) (by kernel_rfl) (by kernel_rfl) rb_refl rb_trans ⟨sC, ⟨sC, trivial⟩⟩ ?_ ?_
        ·refine ⟨⟨trivial, ?_⟩, ?_⟩
         ·refine rs_plain rfl rfl fun a wr S => ?_
          have X := rbX S.ext
          exact wp_mv (ev_of ((S.old 3 (by kernel_rfl)).trans rfl)) (done (by kernel_rfl) rbu_refl rfl)
         ·refine rs_plain rfl rfl fun a wr S => ?_
          have X := rbX S.ext
          obtain ⟨v0, e0, h0⟩ := S.got 0 (by kernel_rfl)
          exact wp_as ((ev_of (e0 26 (by kernel_rfl))).trans h0) (done (by kernel_rfl) rbu_refl rfl)
        ·intro fw14 w14 hR hv hap
         clear hap
         replace hR := rbX hR
         have f0 : fw14 0 = .string sx4x2 := (hvc (hv 0 (by omega))).elim fun _ h => h
         have f1 : fw14 1 = .string sx4x2 := (hvc (hv 1 (by omega))).elim fun _ h => h
         simp only [putFn, Act.put, List.setIfInBounds_toArray, List.set_cons_zero, List.set_cons_succ, f0, f1]
         replace M1 := M1.below hR
         replace I1 := I1.below hR
         replace D1 := D1.below hR
         replace N1 := N1.below hR
         replace Tx1x1 := Tx1x1.below hR
         replace Un := Un.below hR
         replace Ud := Ud.below hR
         replace Td := Td.below hR
         replace P1 := P1.below hR
         replace BB := bl_trans BB hR
         clear hR hv
         go_wp2_with fail
         go_ret
         exact ⟨_, rfl, BB, by rw [← HT.out]; exact ⟨_, rfl, Hx4x2.out⟩⟩
    ·have HE := Lib.hid hd
     have HT := HB.out
     rw [if_neg hd] at HT
     simp only [if_true] at HT
     have HT := Lib.hid HT
     clear hd HB
     refine wp_seq 3 ?_
     simp only [List.take_succ_cons, List.take_zero, List.drop_succ_cons, List.drop_zero]
     refine wp_seq_list (Ext := RB) (Rel := RBu) [fun v _ _ => v = .pointer (some ⟨w.heap.size, 0, none⟩), fun v _ _ => v = .pointer (some ⟨w.heap.size, 0, none⟩), fun v _ _ => v = .bool true] (n := 3) (by kernel_rfl) (by kernel_rfl) (by kernel_rfl) (by kernel_rfl) (by kernel_rfl) (by kernel_rfl) (by kernel_rfl) rb_refl rb_trans ⟨sC, ⟨sC, ⟨sC, trivial⟩⟩⟩ ?_ ?_
     ·refine ⟨⟨⟨trivial, ?_⟩, ?_⟩, ?_⟩
      ·refine rs_plain rfl rfl fun a wr S => ?_
       have X := rbX S.ext
       exact wp_qf0 (ev_of ((S.old 1 (by kernel_rfl)).trans rfl)) (done (by kernel_rfl) rbu_refl rfl)
      ·refine rs_plain rfl rfl fun a wr S => ?_
       have X := rbX S.ext
       obtain ⟨v0, e0, h0⟩ := S.got 0 (by kernel_rfl)
       exact wp_field0 ((ev_of (e0 10 (by kernel_rfl))).trans h0) (done (by kernel_rfl) rbu_refl rfl)
      ·refine rs_plain rfl rfl fun a wr S => ?_
       have X := rbX S.ext
       obtain ⟨v1, e1, h1⟩ := S.got 1 (by kernel_rfl)
       exact wp_qB ((ev_of (e1 11 (by kernel_rfl))).trans h1) (P1.below X) (done (by kernel_rfl) rbu_refl rfl)
     ·intro fw15 w15 hR hv hap
      clear hap
      replace hR := rbX hR
      have f0 : fw15 0 = .pointer (some ⟨w.heap.size, 0, none⟩) := (hvc (hv 0 (by omega))).elim fun _ h => h
      have f1 : fw15 1 = .pointer (some ⟨w.heap.size, 0, none⟩) := (hvc (hv 1 (by omega))).elim fun _ h => h
      have f2 : fw15 2 = .bool true := (hvc (hv 2 (by omega))).elim fun _ h => h
      simp only [putFn, Act.put, List.setIfInBounds_toArray, List.set_cons_zero, List.set_cons_succ, f0, f1, f2]
      replace M1 := M1.below hR
      replace I1 := I1.below hR
      replace D1 := D1.below hR
      replace N1 := N1.below hR
      replace Tx1x1 := Tx1x1.below hR
      replace Un := Un.below hR
      replace Ud := Ud.below hR
      replace Td := Td.below hR
      replace P1 := P1.below hR
      replace BB := bl_trans BB hR
      clear hR hv
      go_upto_region 4 with (fail)
      refine wp_seq 3 ?_
      simp only [List.take_succ_cons, List.take_zero, List.drop_succ_cons, List.drop_zero]
      refine wp_seq_list (Ext := RB) (Rel := RBu) [fun v _ _ => v = .string sx2x4, fun v _ _ => IsS v ([45] ++ M.txt q1.num.natAbs), fun v _ _ => IsS v ([45] ++ M.txt q1.num.natAbs)] (n := 3) (by kernel_rfl) (by kernel_rfl) (by kernel_rfl) (by kernel_rfl) (by kernel_rfl) (by kernel_rfl) (by kernel_rfl) rb_refl rb_trans ⟨sC, ⟨sS, ⟨sS, trivial⟩⟩⟩ ?_ ?_
      ·refine ⟨⟨⟨trivial, ?_⟩, ?_⟩, ?_⟩
       ·refine rs_plain rfl rfl fun a wr S => ?_
        have X := rbX S.ext
        exact wp_mv (ev_of ((S.old 3 (by kernel_rfl)).trans rfl)) (done (by kernel_rfl) rbu_refl rfl)
       ·refine rs_plain rfl rfl fun a wr S => ?_
        have X := rbX S.ext
        obtain ⟨v0, e0, h0⟩ := S.got 0 (by kernel_rfl)
        exact wp_addSS rfl (show IsS _ [45] from ⟨_, rfl, rfl⟩) ((ev_of (e0 13 (by kernel_rfl))).trans h0) ⟨_, rfl, Hx2x4.out⟩ (by first | omega | (simp only [List.length_cons, List.length_nil]; omega) | (simp only [List.length_append, List.length_cons, List.length_nil]; omega)) (by first | omega | (simp only [List.length_cons, List.length_nil]; omega) | (simp only [List.length_append, List.length_cons, List.length_nil]; omega)) (fun r hr => done (by kernel_rfl) rbu_refl hr)
       ·refine rs_plain rfl rfl fun a wr S => ?_
        have X := rbX S.ext
        obtain ⟨v1, e1, h1⟩ := S.got 1 (by kernel_rfl)
        exact wp_as (ev_of (e1 14 (by kernel_rfl))) (done (by kernel_rfl) rbu_refl h1)
      ·intro fw16 w16 hR hv hap
       clear hap
       replace hR := rbX hR
       have f0 : fw16 0 = .string sx2x4 := (hvc (hv 0 (by omega))).elim fun _ h => h
       obtain ⟨sx4x2, f2, hx4x2⟩ := (show IsS _ _ from (hvc (hv 2 (by omega))).elim fun _ h => h)
       simp only [putFn, Act.put, List.setIfInBounds_toArray, List.set_cons_zero, List.set_cons_succ, f0, f2]
       replace M1 := M1.below hR
       replace I1 := I1.below hR
       replace D1 := D1.below hR
       replace N1 := N1.below hR
       replace Tx1x1 := Tx1x1.below hR
       replace Un := Un.below hR
       replace Ud := Ud.below hR
       replace Td := Td.below hR
       replace P1 := P1.below hR
       replace BB := bl_trans BB hR
       clear hR hv
       have Hx4x2 := Lib.hid hx4x2
       clear hx4x2
       go_upto_region 5 with (fail)
       refine wp_seq 5 ?_
       simp only [List.take_succ_cons, List.take_zero, List.drop_succ_cons, List.drop_zero]
       refine wp_seq_list (Ext := RB) (Rel := RBu) [fun v _ _ => v = .pointer (some ⟨w.heap.size, 2, none⟩), fun v _ _ => v = .slice Bx1x1 mx1x1 dx1x1, fun v _ w => IsTr w v (1) 1, fun v _ _ => v = .bool false, fun v _ _ => v = .bool true] (n := 5) (by kernel_rfl) (by kernel_rfl) (by kernel_rfl) (by kernel_rfl) (by kernel_rfl) (by kernel_rfl) (by kernel_rfl) rb_refl rb_trans ⟨sC, ⟨sC, ⟨sTr, ⟨sC, ⟨sC, trivial⟩⟩⟩⟩⟩ ?_ ?_
       ·refine ⟨⟨⟨⟨⟨trivial, ?_⟩, ?_⟩, ?_⟩, ?_⟩, ?_⟩
        ·refine rs_plain rfl rfl fun a wr S => ?_
         have X := rbX S.ext
         exact wp_qf1 (ev_of ((S.old 1 (by kernel_rfl)).trans rfl)) (done (by kernel_rfl) rbu_refl rfl)
        ·refine rs_plain rfl rfl fun a wr S => ?_
         have X := rbX S.ext
         obtain ⟨v0, e0, h0⟩ := S.got 0 (by kernel_rfl)
         exact wp_qD ((ev_of (e0 15 (by kernel_rfl))).trans h0) (P1.below X) (done (by kernel_rfl) rbu_refl rfl)
        ·refine rs_plain rfl rfl fun a wr S => ?_
         have X := rbX S.ext
         exact wp_bsL1 (done' (by kernel_rfl) (rb _ _ _ (bl_alloc _ _)) (litTr1 wr))
        ·refine rs_plain rfl rfl fun a wr S => ?_
         have X := rbX S.ext
         obtain ⟨v1, e1, h1⟩ := S.got 1 (by kernel_rfl)
         obtain ⟨v2, e2, h2⟩ := S.got 2 (by kernel_rfl)
         exact st_call cf_ref01_Same (args2 ((ev_of (e1 16 (by kernel_rfl))).trans h1) (ev_of (e2 17 (by kernel_rfl)))) (by kernel_rfl) rb ((rSame (show IsTr _ _ _ _ from ⟨_, _, _, rfl, Td.below X⟩) (show IsTr _ _ _ _ from h2) (by omega) (by omega)).mono (ansB (decide_eq_false HE.out))) (fun _ _ _ h => h)
        ·refine rs_plain rfl rfl fun a wr S => ?_
         have X := rbX S.ext
         obtain ⟨v3, e3, h3⟩ := S.got 3 (by kernel_rfl)
         exact wp_not ((ev_of (e3 18 (by kernel_rfl))).trans h3) (done (by kernel_rfl) rbu_refl rfl)
       ·intro fw17 w17 hR hv hap
        clear hap
        replace hR := rbX hR
        have f0 : fw17 0 = .pointer (some ⟨w.heap.size, 2, none⟩) := (hvc (hv 0 (by omega))).elim fun _ h => h
        have f1 : fw17 1 = .slice Bx1x1 mx1x1 dx1x1 := (hvc (hv 1 (by omega))).elim fun _ h => h
        have f3 : fw17 3 = .bool false := (hvc (hv 3 (by omega))).elim fun _ h => h
        have f4 : fw17 4 = .bool true := (hvc (hv 4 (by omega))).elim fun _ h => h
        simp only [putFn, Act.put, List.setIfInBounds_toArray, List.set_cons_zero, List.set_cons_succ, f0, f1, f3, f4]
        replace M1 := M1.below hR
        replace I1 := I1.below hR
        replace D1 := D1.below hR
        replace N1 := N1.below hR
        replace Tx1x1 := Tx1x1.below hR
        replace Un := Un.below hR
        replace Ud := Ud.below hR
        replace Td := Td.below hR
        replace P1 := P1.below hR
        replace BB := bl_trans BB hR
        clear hR hv
        go_upto_region 6 with (fail)
        refine wp_seq 7 ?_
        simp only [List.take_succ_cons, List.take_zero, List.drop_succ_cons, List.drop_zero]
        refine wp_seq_list (Ext := RB) (Rel := RBu) [fun v _ _ => v = .string sx4x2, fun v _ _ => IsS v ([45] ++ M.txt q1.num.natAbs ++ [47]), fun v _ _ => v = .pointer (some ⟨w.heap.size, 2, none⟩), fun v _ _ => v = .slice Bx1x1 mx1x1 dx1x1, fun v _ _ => IsS v (M.txt q1.den), fun v _ _ => IsS v ([45] ++ M.txt q1.num.natAbs ++ [47] ++ M.txt q1.den), fun v _ _ => IsS v ([45] ++ M.txt q1.num.natAbs ++ [47] ++ M.txt q1.den)] (n := 7) (by kernel_rfl) (by kernel_rfl) (by kernel_rfl) (by kernel_rfl) (by kernel_rfl) (by kernel_rfl) (by kernel_rfl) rb_refl rb_trans ⟨sC, ⟨sS, ⟨sC, ⟨sC, ⟨sS, ⟨sS, ⟨sS, trivial⟩⟩⟩⟩⟩⟩⟩ ?_ ?_
        ·refine ⟨⟨⟨⟨⟨⟨⟨trivial, ?_⟩, ?_⟩, ?_⟩, ?_⟩, ?_⟩, ?_⟩, ?_⟩
         ·refine rs_plain rfl rfl fun a wr S => ?_
          have X := rbX S.ext
          exact wp_mv (ev_of ((S.old 3 (by kernel_rfl)).trans rfl)) (done (by kernel_rfl) rbu_refl rfl)
         ·refine rs_plain rfl rfl fun a wr S => ?_
          have X := rbX S.ext
          obtain ⟨v0, e0, h0⟩ := S.got 0 (by kernel_rfl)
          exact wp_addSS ((ev_of (e0 20 (by kernel_rfl))).trans h0) ⟨_, rfl, Hx4x2.out⟩ rfl (show IsS _ [47] from ⟨_, rfl, rfl⟩) (by first | omega | (simp only [List.length_cons, List.length_nil]; omega) | (simp only [List.length_append, List.length_cons, List.length_nil]; omega)) (by first | omega | (simp only [List.length_cons, List.length_nil]; omega) | (simp only [List.length_append, List.length_cons, List.length_nil]; omega)) (fun r hr => done (by kernel_rfl) rbu_refl hr)
         ·refine rs_plain rfl rfl fun a wr S => ?_
          have X := rbX S.ext
          exact wp_qf1 (ev_of ((S.old 1 (by kernel_rfl)).trans rfl)) (done (by kernel_rfl) rbu_refl rfl)
         ·refine rs_plain rfl rfl fun a wr S => ?_
          have X := rbX S.ext
          obtain ⟨v2, e2, h2⟩ := S.got 2 (by kernel_rfl)
          exact wp_qD ((ev_of (e2 22 (by kernel_rfl))).trans h2) (P1.below X) (done (by kernel_rfl) rbu_refl rfl)
         ·refine rs_plain rfl rfl fun a wr S => ?_
          have X := rbX S.ext
          obtain ⟨v3, e3, h3⟩ := S.got 3 (by kernel_rfl)
          exact st_call cf_ref01_Text (args1 ((ev_of (e3 23 (by kernel_rfl))).trans h3)) (by kernel_rfl) rb (rText ⟨_, _, _, rfl, Ud.below X⟩ (by omega)) (fun _ _ _ h => h)
         ·refine rs_plain rfl rfl fun a wr S => ?_
          have X := rbX S.ext
          obtain ⟨v1, e1, h1⟩ := S.got 1 (by kernel_rfl)
          obtain ⟨v4, e4, h4⟩ := S.got 4 (by kernel_rfl)
          exact wp_addSS (ev_of (e1 21 (by kernel_rfl))) (show IsS _ _ from h1) (ev_of (e4 24 (by kernel_rfl))) (show IsS _ _ from h4) (by first | omega | (simp only [List.length_cons, List.length_nil]; omega) | (simp only [List.length_append, List.length_cons, List.length_nil]; omega)) (by first | omega | (simp only [List.length_cons, List.length_nil]; omega) | (simp only [List.length_append, List.length_cons, List.length_nil]; omega)) (fun r hr => done (by kernel_rfl) rbu_refl hr)
         ·refine rs_plain rfl rfl fun a wr S => ?_
          have X := rbX S.ext
          obtain ⟨v5, e5, h5⟩ := S.got 5 (by kernel_rfl)
          exact wp_as (ev_of (e5 25 (by kernel_rfl))) (done (by kernel_rfl) rbu_refl h5)
        ·intro fw18 w18 hR hv hap
         clear hap
         replace hR := rbX hR
         have f0 : fw18 0 = .string sx4x2 := (hvc (hv 0 (by omega))).elim fun _ h => h
         have f2 : fw18 2 = .pointer (some ⟨w.heap.size, 2, none⟩) := (hvc (hv 2 (by omega))).elim fun _ h => h
         have f3 : fw18 3 = .slice Bx1x1 mx1x1 dx1x1 := (hvc (hv 3 (by omega))).elim fun _ h => h
         obtain ⟨sx6x6, f6, hx6x6⟩ := (show IsS _ _ from (hvc (hv 6 (by omega))).elim fun _ h => h)
         simp only [putFn, Act.put, List.setIfInBounds_toArray, List.set_cons_zero, List.set_cons_succ, f0, f2, f3, f6]
         replace M1 := M1.below hR
         replace I1 := I1.below hR
         replace D1 := D1.below hR
         replace N1 := N1.below hR
         replace Tx1x1 := Tx1x1.below hR
         replace Un := Un.below hR
         replace Ud := Ud.below hR
         replace Td := Td.below hR
         replace P1 := P1.below hR
         replace BB := bl_trans BB hR
         clear hR hv
         have Hx6x6 := Lib.hid hx6x6
         clear hx6x6
         go_upto_region 7 with (fail)
         refine wp_seq 2 ?_
         simp only [List.take_succ_cons, List.take_zero, List.drop_succ_cons, List.drop_zero]
         refine wp_seq_list (Ext := RB) (Rel := RBu) [fun v _ _ => v = .string sx6x6, fun v _ _ => v = .string sx6x6] (n := 2) (by kernel_rfl) (by kernel_rfl) (by kernel_rfl) (by kernel_rfl) (by kernel_rfl) (by kernel_rfl) (by kernel_rfl) rb_refl rb_trans ⟨sC, ⟨sC, trivial⟩⟩ ?_ ?_
         ·refine ⟨⟨trivial, ?_⟩, ?_⟩
          ·refine rs_plain rfl rfl fun a wr S => ?_
           have X := rbX S.ext
           exact wp_mv (ev_of ((S.old 3 (by kernel_rfl)).trans rfl)) (done (by kernel_rfl) rbu_refl rfl)
          ·refine rs_plain rfl rfl fun a wr S => ?_
           have X := rbX S.ext
           obtain ⟨v0, e0, h0⟩ := S.got 0 (by kernel_rfl)
           exact wp_as ((ev_of (e0 26 (by kernel_rfl))).trans h0) (done (by kernel_rfl) rbu_refl rfl)
         ·intro fw19 w19 hR hv hap
          clear hap
          replace hR := rbX hR
          have f0 : fw19 0 = .string sx6x6 := (hvc (hv 0 (by omega))).elim fun _ h => h
          have f1 : fw19 1 = .string sx6x6 := (hvc (hv 1 (by omega))).elim fun _ h => h
          simp only [putFn, Act.put, List.setIfInBounds_toArray, List.set_cons_zero, List.set_cons_succ, f0, f1]
          replace M1 := M1.below hR
          replace I1 := I1.below hR
          replace D1 := D1.below hR
          replace N1 := N1.below hR
          replace Tx1x1 := Tx1x1.below hR
          replace Un := Un.below hR
          replace Ud := Ud.below hR
          replace Td := Td.below hR
          replace P1 := P1.below hR
          replace BB := bl_trans BB hR
          clear hR hv
          go_wp2_with fail
          go_ret
          exact ⟨_, rfl, BB, by rw [← HT.out]; exact ⟨_, rfl, Hx6x6.out⟩⟩
end
end Go.Proofs.YtbhgbilhoonopaaGreat
namespace Go.Proofs.YtbhgbilhoonopaaGreat
open Go.RowKit
set_option linter.unusedVariables false
set_option maxRecDepth 100000

theorem isZ_txt {s : ByteArray} (h : isZ s) : M.bytes s = txtZ (valZ s) := by
 unfold valZ
 rcases bytes_cut s with ⟨h1, h2⟩ | ⟨h1, h2⟩
 ·have hd := h.2 h1
  rw [h1, zv_true, txtZ_neg (by omega), Int.natAbs_neg, Int.natAbs_natCast, txt_dec h.1]
  exact h2
 ·have hd := h.1
  rw [h2] at hd
  rw [h1, h2, zv_false, txtZ_pos (by omega), Int.natAbs_natCast, txt_dec hd]
theorem ten60 : 10 ^ 60 ≤ M.R ^ 7 := by rw [M.R_eq]; decide
theorem dec_small {l : List Nat} (h : M.Digits l) (hl : l.length ≤ 60) : M.dec 0 l < M.R ^ 7 :=
 Nat.lt_of_lt_of_le (M.dec_lt h.2.2) (Nat.le_trans (Nat.pow_le_pow_right (by omega) hl) ten60)
theorem valZ_small {s : ByteArray} (h : isZ s) (hs : s.size ≤ 60) : (valZ s).natAbs < M.R ^ 7 := by
 unfold valZ
 rw [zv_abs]
 refine dec_small h.1 ?_
 rw [M.bytes_len]
 have := cut_size s
 omega
theorem txt_small {n : Nat} (h : (M.txt n).length ≤ 60) : n < M.R ^ 7 := by
 have := dec_small (M.txt_digits n) h
 rw [M.dec_txt] at this
 exact this
theorem txtZ_small {z : Int} (h : (txtZ z).length ≤ 60) : z.natAbs < M.R ^ 7 := by
 by_cases hn : z < 0
 ·rw [txtZ_neg hn, List.length_cons] at h; exact txt_small (by omega)
 ·rw [txtZ_pos hn] at h; exact txt_small h
theorem txtQ_small {q : Rat} (h : (txtQ q).length ≤ 60) : q.num.natAbs < M.R ^ 7 ∧ q.den < M.R ^ 7 := by
 by_cases hd : q.den = 1
 ·rw [txtQ_one hd] at h
  refine ⟨txtZ_small h, ?_⟩
  rw [hd]
  exact Nat.one_lt_pow (by omega) (by rw [M.R_eq]; omega)
 ·rw [txtQ_two hd, List.length_append, List.length_cons] at h
  exact ⟨txtZ_small (by omega), txt_small (by omega)⟩
theorem split47 : ∀ {l1 l2 m1 m2 : List Nat}, 47 ∉ l1 → 47 ∉ m1 → l1 ++ 47 :: l2 = m1 ++ 47 :: m2 → l1 = m1 ∧ l2 = m2
 | [], _, [], _, _, _, e => ⟨rfl, by injection e⟩
 | [], _, y :: ys, _, _, h, e => by injection e with e _; exact absurd (e ▸ List.mem_cons_self) h
 | x :: xs, _, [], _, h, _, e => by injection e with e _; exact absurd (e ▸ List.mem_cons_self) h
 | x :: xs, _, y :: ys, _, h1, h2, e => by
  injection e with e1 e2
  obtain ⟨a, b⟩ := split47 (fun h => h1 (List.mem_cons_of_mem _ h)) (fun h => h2 (List.mem_cons_of_mem _ h)) e2
  exact ⟨by rw [e1, a], b⟩
theorem at47 : ∀ {l : List Nat}, 47 ∈ l → ∃ l1 l2, l = l1 ++ 47 :: l2 ∧ 47 ∉ l1
 | x :: xs, h => by
  by_cases e : x = 47
  ·exact ⟨[], xs, by rw [e]; rfl, by simp⟩
  ·obtain ⟨l1, l2, h1, h2⟩ := at47 (l := xs) (by rcases List.mem_cons.1 h with h | h; exact absurd h.symm e; exact h)
   exact ⟨x :: l1, l2, by rw [h1]; rfl, by intro h; rcases List.mem_cons.1 h with h | h; exact e h.symm; exact h2 h⟩

/-- rat.Parse, of all texts of sixty bytes at most. -/
theorem cQParseY {s : ByteArray} {q : Rat} (hs : s.size ≤ 60) (hq : M.bytes s = txtQ q) (w : World) : Calls Tryz.prog 44 #[.string s] w (Ans w fun w' v => IsQB w.heap.size w' v q 7 true) := by
 have hl := M.bytes_len s
 rw [hq] at hl
 obtain ⟨h1, h2⟩ := txtQ_small (q := q) (by omega)
 exact cQParseT s hq h1 h2 (by omega) (by omega)
theorem cQParseN {s : ByteArray} (hs : s.size ≤ 60) (hn : ∀ q, M.bytes s ≠ txtQ q) (w : World) : Calls Tryz.prog 44 #[.string s] w (Ans w fun w' v => IsQB w.heap.size w' v 0 1 false) := by
 have hl := M.bytes_len s
 by_cases h47 : 47 ∈ M.bytes s
 ·obtain ⟨l1, l2, h, h1⟩ := at47 h47
  have hb := bytes_take s h
  have hl2 := congrArg List.length h
  rw [List.length_append, List.length_cons] at hl2
  by_cases hz : isZ (s.extract 0 l1.length)
  ·have ht := isZ_txt hz
   rw [hb.1] at ht
   have hv := valZ_small hz (by rw [ByteArray.size_extract]; omega)
   by_cases hd : M.Digits l2
   ·have hv2 := dec_small hd (by omega)
    by_cases h1' : M.dec 0 l2 = 1
    ·exact cQParseA s (by omega) h h1 hz hd _ _ rfl rfl h1' hv hv2 (by omega) (by omega)
    ·by_cases hr : (mkRat (valZ (s.extract 0 l1.length)) (dOf (M.dec 0 l2))).num = valZ (s.extract 0 l1.length) ∧ (mkRat (valZ (s.extract 0 l1.length)) (dOf (M.dec 0 l2))).den = M.dec 0 l2
     ·exfalso
      refine hn (mkRat (valZ (s.extract 0 l1.length)) (dOf (M.dec 0 l2))) (h.trans ?_)
      rw [txtQ_two (by rw [hr.2]; exact h1'), hr.1, hr.2, ← ht, txt_dec hd]
     ·exact cQParseB s (by omega) h h1 hz hd _ _ rfl rfl h1' hr hv hv2 (by omega) (by omega)
   ·exact cQParseD s (by omega) h h1 hz hd _ rfl hv (by omega) (by omega)
  ·exact cQParseC2 s (by omega) h h1 hz
 ·by_cases hz : isZ s
  ·exfalso
   refine hn ((valZ s : Int) : Rat) ?_
   rw [txtQ_one rfl]
   exact isZ_txt hz
  ·exact cQParseC1 s (by omega) h47 hz

/-- What a text that is a fraction's has ahead of the stroke, and behind it. -/
theorem sign_part {sb : Bool} {a : List Nat} {z : Int} (h : (if sb then [45] else []) ++ a = txtZ z) (hs : sb = false → a[0]? ≠ some 45) : M.Digits a ∧ zv sb (M.dec 0 a) = z := by
 cases sb
 ·rw [if_neg (by decide), List.nil_append] at h
  have hz : ¬ z < 0 := fun hz => by
   rw [txtZ_neg hz] at h
   exact hs rfl (by rw [h]; rfl)
  rw [txtZ_pos hz] at h
  rw [h, M.dec_txt, zv_false]
  exact ⟨M.txt_digits _, by omega⟩
 ·rw [if_pos rfl] at h
  by_cases hz : z < 0
  ·rw [txtZ_neg hz] at h
   have h : a = M.txt z.natAbs := by injection h
   rw [h, M.dec_txt, zv_true]
   exact ⟨M.txt_digits _, by omega⟩
  ·exfalso
   rw [txtZ_pos hz] at h
   have hd := (M.txt_digits z.natAbs).2.2
   rw [← h] at hd
   have := hd 45 (by simp)
   omega
theorem leaf2 {sb : Bool} {a b l : List Nat} {q : Rat} (hl : l = ((if sb then [45] else []) ++ a) ++ 47 :: b) (h47 : 47 ∉ ((if sb then [45] else []) ++ a)) (hs : sb = false → a[0]? ≠ some 45) (hq : l = txtQ q) : M.Digits a ∧ M.Digits b ∧ mkRat (zv sb (M.dec 0 a)) (dOf (M.dec 0 b)) = q := by
 by_cases hd : q.den = 1
 ·exfalso
  rw [txtQ_one hd] at hq
  exact txtZ_no q.num (by rw [← hq, hl]; simp)
 ·rw [txtQ_two hd, hl] at hq
  obtain ⟨h1, h2⟩ := split47 h47 (txtZ_no _) hq
  obtain ⟨h3, h4⟩ := sign_part h1 hs
  rw [h2, h4, M.dec_txt, dOf_of (Rat.den_nz q)]
  exact ⟨h3, M.txt_digits _, Rat.mkRat_self q⟩
theorem leaf1 {sb : Bool} {a l : List Nat} {q : Rat} (hl : l = (if sb then [45] else []) ++ a) (h47 : 47 ∉ l) (hs : sb = false → a[0]? ≠ some 45) (hq : l = txtQ q) : M.Digits a ∧ mkRat (zv sb (M.dec 0 a)) (dOf 1) = q := by
 by_cases hd : q.den = 1
 ·rw [txtQ_one hd, hl] at hq
  obtain ⟨h3, h4⟩ := sign_part hq hs
  refine ⟨h3, ?_⟩
  rw [h4, dOf_of (by omega), ← hd]
  exact Rat.mkRat_self q
 ·exfalso
  rw [txtQ_two hd] at hq
  exact h47 (by rw [hq]; simp)
end Go.Proofs.YtbhgbilhoonopaaGreat
