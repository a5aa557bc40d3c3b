/- Fractions (api.Rat) as the program holds them: what a value is worth; nat's functions by rows that are the call's own; variables that hold a fraction. -/
import Derived.Test.YtbhgbilhoonopaaGreatQMath
import Derived.Test.YtbhgbilhoonopaaGreatZCut
import Derived.Test.YtbhgbilhoonopaaGreatZD
namespace Go.Proofs.YtbhgbilhoonopaaGreat
open Go.RowKit
set_option linter.unusedVariables false
set_option maxRecDepth 100000

/-- A trimmed row of the call's own. -/
def IsD (N : Nat) (w : World) (v : Value) (x k : Nat) : Prop := ∃ A n c, v = .slice A n c ∧ Own w N A n c (M.lims x) ∧ n ≤ k
section
variable {w w' : World} {v v' : Value} {x y k j N N' : Nat}
theorem IsN.below (h : IsN w v x k) (hb : Below w.heap.size w w') : IsN w' v x k := by
  obtain ⟨A, n, c, rfl, h⟩ := h
  exact ⟨A, n, c, rfl, h.below hb⟩
theorem IsD.below (h : IsD N w v x k) (hb : Below w.heap.size w w') : IsD N w' v x k := by
  obtain ⟨A, n, c, rfl, h, l⟩ := h
  exact ⟨A, n, c, rfl, h.below hb, l⟩
theorem IsD.n (h : IsD N w v x k) : IsN w v x k := by
  obtain ⟨A, n, c, rfl, h, l⟩ := h
  exact ⟨A, n, c, rfl, ⟨⟨_, h.rd, M.val_lims x⟩, l⟩⟩
theorem IsD.base (h : IsD N w v x k) (hN : N' ≤ N) : IsD N' w v x k := by
  obtain ⟨A, n, c, rfl, h, l⟩ := h
  exact ⟨A, n, c, rfl, h.mono hN, l⟩
theorem IsD.lt (h : IsD N w v x k) : x < M.R ^ k := by
  obtain ⟨A, n, c, rfl, h, l⟩ := h
  rw [← M.lims_length_le, h.len]
  exact l
theorem IsD.mono (h : IsD N w v x k) (hx : x < M.R ^ j) : IsD N w v x j := by
  obtain ⟨A, n, c, rfl, h, l⟩ := h
  refine ⟨A, n, c, rfl, h, ?_⟩
  rw [← h.len]
  exact M.lims_length_le.2 hx
theorem sD : Stab RBu fun v _ w => IsD N w v x k := fun _ _ _ _ _ r _ h => h.below r
theorem ansD {e : Ending} (hN : N ≤ w.heap.size) (hx : x < M.R ^ k) (h : Gives w (M.lims x) e w') : Ans w (fun w' v => IsD N w' v x k) e w' := by
  obtain ⟨A, c, rfl, ho, hb⟩ := h
  exact ⟨_, rfl, hb, A, _, c, rfl, ho.mono hN, M.lims_length_le.2 hx⟩
theorem IsN.lt (h : IsN w v x k) : x < M.R ^ k := by
  obtain ⟨A, n, c, rfl, h⟩ := h
  exact h.lt

theorem cGcd (h : IsN w v x k) (g : IsN w v' y j) (hk : k ≤ 1000) (hj : j ≤ 1000) (hN : N ≤ w.heap.size) : Calls Tryz.prog 99 #[v, v'] w (Ans w fun w' v => IsD N w' v (x.gcd y) (max k j)) := by
  have hx := h.lt
  have hy := g.lt
  obtain ⟨A, n, c, rfl, h⟩ := h
  obtain ⟨B, m, d, rfl, g⟩ := g
  have hl := h.le
  have gl := g.le
  obtain ⟨xs, hx', rfl⟩ := h.row
  obtain ⟨ys, hy', rfl⟩ := g.row
  refine (gcd_all _ _ _ _ _ _ _ _ _ hx' hy' (by omega) (by omega)).mono fun e w' r => ansD hN ?_ r
  rcases Nat.eq_zero_or_pos (M.val xs) with h0 | h0
  · rw [h0, Nat.gcd_zero_left]
    exact Nat.lt_of_lt_of_le hy (Nat.pow_le_pow_right M.R_pos (by omega))
  · exact Nat.lt_of_le_of_lt (Nat.gcd_le_left _ h0) (Nat.lt_of_lt_of_le hx (Nat.pow_le_pow_right M.R_pos (by omega)))
theorem cMulD (h : IsN w v x k) (g : IsN w v' y j) (hk : k ≤ 1000) (hj : j ≤ 1000) (hm : min k j < 40) (hN : N ≤ w.heap.size) : Calls Tryz.prog 68 #[v, v'] w (Ans w fun w' v => IsD N w' v (x * y) (k + j)) := by
  have hx := h.lt
  have hy := g.lt
  obtain ⟨A, n, c, rfl, h⟩ := h
  obtain ⟨B, m, d, rfl, g⟩ := g
  have hl := h.le
  have gl := g.le
  obtain ⟨xs, hx', rfl⟩ := h.row
  obtain ⟨ys, hy', rfl⟩ := g.row
  have e1 := M.lims_length_le.2 hx
  have e2 := M.lims_length_le.2 hy
  exact (mul_few _ _ _ _ _ _ _ _ _ hx' hy' (by omega) (by omega) (by omega)).mono fun e w' r => ansD hN (mul_lt_pow hx hy) r
theorem cFromD (n : Nat) (hn : n < 4294967296) (hN : N ≤ w.heap.size) : Calls Tryz.prog 90 #[.int .u64 (n : Int)] w (Ans w fun w' v => IsD N w' v n 1) :=
  (from_any n w (by omega) (by omega)).mono fun e w' r => ansD hN (by rw [Nat.pow_one, M.R_eq]; exact hn) (by simpa using r)
set_option maxHeartbeats 1000000 in
theorem cWithout (h : IsN w v x k) (g : IsN w v' y j) (hk : k ≤ 1000) (hj : j ≤ 1000) (hy0 : y ≠ 0) (hN : N ≤ w.heap.size) : Calls Tryz.prog 100 #[v, v'] w (Ans w fun w' v => IsD N w' v (x / y) k) := by
  have hx := h.lt
  obtain ⟨A, n, c, rfl, h⟩ := h
  obtain ⟨B, m, d, rfl, g⟩ := g
  have hl := h.le
  have gl := g.le
  obtain ⟨xs, hx', rfl⟩ := h.row
  obtain ⟨ys, hy', rfl⟩ := g.row
  have H := Lib.hid (div_all A n c xs B m d ys w hx' hy' (by omega) (by omega) hy0)
  clear h g hx' hy' hy0
  go_enter Tryz.func100, Tryz.ntmps100
  go_wp2_with fail
  refine H.out.mono ?_
  rintro e w1 ⟨A1, c1, B1, d1, rfl, ho, _, _, hb⟩
  have HO := Lib.hid ho
  have HB := Lib.hid hb
  clear ho hb H
  go_wp2_with fail
  go_ret
  exact ⟨_, rfl, HB.out, A1, _, c1, rfl, HO.out.mono hN, M.lims_length_le.2 (Nat.lt_of_le_of_lt (Nat.div_le_self _ _) hx)⟩
set_option maxHeartbeats 1000000 in
theorem cUnsigned (A : Option Addr) (n c : Nat) : Calls Tryz.prog 77 #[.slice A n c] w (Ans w fun _ v => v = .agg #[.bool false, .slice A n c]) := by
  go_enter Tryz.func77, Tryz.ntmps77
  go_wp2
  exact bodyPost_ret (v := .agg #[.bool false, .slice A n c]) (by simp [results, Tryz.results77, go_sem]) rfl ⟨_, rfl, bl_alloc _ _, rfl⟩
set_option maxHeartbeats 1000000 in
theorem cIsOne (h : IsN w v x k) (hk : k ≤ 1000) : Calls Tryz.prog 83 #[v] w (Ans w fun _ v => v = .bool (decide (x = 1))) := by
  obtain ⟨A, n, c, rfl, h⟩ := h
  have H := Lib.hid h
  clear h
  go_enter Tryz.func83, Tryz.ntmps83
  go_wp2_with fail
  refine (cFromD (N := 0) 1 (by omega) (Nat.zero_le _)).mono ?_
  rintro e w1 ⟨_, rfl, hb1, B, m, d, rfl, ho, hl⟩
  have HO := Lib.hid ho
  have HB := Lib.hid hb1
  clear ho hb1
  go_wp2_with fail
  refine (cmpN (H.out.below HB.out) (show Nm w1 B m d 1 1 from ⟨⟨_, HO.out.rd, M.val_lims 1⟩, hl⟩) (by omega) (by omega)).mono ?_
  rintro e w2 ⟨rfl, hb2⟩
  have HB2 := Lib.hid (bl_trans HB.out hb2)
  have hcmp : (cmpV x 1 == 0) = decide (x = 1) := by
    rcases Nat.lt_trichotomy x 1 with h | h | h
    · rw [cmpV_lt h, decide_eq_false (by omega)]; rfl
    · subst h; rw [cmpV_eq, decide_eq_true rfl]; rfl
    · rw [cmpV_gt h, decide_eq_false (by omega)]; rfl
  have HC := Lib.hid hcmp
  clear hb2 hcmp
  go_wp2_with fail
  go_ret
  exact ⟨_, rfl, HB2.out, congrArg Value.bool HC.out⟩
end

/-- A fraction as it comes. -/
def IsQm (w : World) (v : Value) (q : Rat) (k : Nat) : Prop := ∃ b A n c B m d, v = .agg #[.bool b, .slice A n c, .slice B m d] ∧ ∃ z y, Zm w b A n c z k ∧ Nm w B m d y k ∧ q = mkRat z (dOf y)
/-- A right one. -/
def IsQt (w : World) (v : Value) (q : Rat) (k : Nat) : Prop := ∃ b A n c B m d, v = .agg #[.bool b, .slice A n c, .slice B m d] ∧ Tm w A n c q.num.natAbs k ∧ b = decide (q.num < 0) ∧ Tm w B m d q.den k
/-- A right one whose limbs are the call's own. -/
def IsQ (N : Nat) (w : World) (v : Value) (q : Rat) (k : Nat) : Prop := ∃ b A n c B m d, v = .agg #[.bool b, .slice A n c, .slice B m d] ∧ Zt w N b A n c q.num k ∧ Own w N B m d (M.lims q.den) ∧ m ≤ k
section
variable {w w' : World} {v v' : Value} {q p : Rat} {k j N N' : Nat}
theorem IsQm.below (h : IsQm w v q k) (hb : Below w.heap.size w w') : IsQm w' v q k := by
  obtain ⟨b, A, n, c, B, m, d, rfl, z, y, h1, h2, h3⟩ := h
  exact ⟨b, A, n, c, B, m, d, rfl, z, y, h1.below hb, h2.below hb, h3⟩
theorem IsQt.below (h : IsQt w v q k) (hb : Below w.heap.size w w') : IsQt w' v q k := by
  obtain ⟨b, A, n, c, B, m, d, rfl, h1, h2, h3⟩ := h
  exact ⟨b, A, n, c, B, m, d, rfl, h1.below hb, h2, h3.below hb⟩
theorem IsQ.below (h : IsQ N w v q k) (hb : Below w.heap.size w w') : IsQ N w' v q k := by
  obtain ⟨b, A, n, c, B, m, d, rfl, h1, h2, h3⟩ := h
  exact ⟨b, A, n, c, B, m, d, rfl, h1.below hb, h2.below hb, h3⟩
theorem IsQ.t (h : IsQ N w v q k) : IsQt w v q k := by
  obtain ⟨b, A, n, c, B, m, d, rfl, h1, h2, h3⟩ := h
  exact ⟨b, A, n, c, B, m, d, rfl, h1.tm, h1.neg, h2.rd, h3⟩
theorem IsQt.m (h : IsQt w v q k) : IsQm w v q k := by
  obtain ⟨b, A, n, c, B, m, d, rfl, h1, rfl, h3⟩ := h
  refine ⟨_, A, n, c, B, m, d, rfl, q.num, q.den, ⟨⟨_, h1.nm, ?_⟩⟩, h3.nm, ?_⟩
  · by_cases h : q.num < 0
    · rw [decide_eq_true h, zv_true]; omega
    · rw [decide_eq_false h, zv_false]; omega
  · rw [dOf_of q.den_nz, Rat.mkRat_self]
theorem IsQ.m (h : IsQ N w v q k) : IsQm w v q k := h.t.m
theorem IsQ.base (h : IsQ N w v q k) (hN : N' ≤ N) : IsQ N' w v q k := by
  obtain ⟨b, A, n, c, B, m, d, rfl, h1, h2, h3⟩ := h
  exact ⟨b, A, n, c, B, m, d, rfl, h1.mono hN, h2.mono hN, h3⟩
theorem IsQ.mono (h : IsQ N w v q k) (hk : k ≤ j) : IsQ N w v q j := by
  obtain ⟨b, A, n, c, B, m, d, rfl, h1, h2, h3⟩ := h
  exact ⟨b, A, n, c, B, m, d, rfl, h1.monoK hk, h2, by omega⟩
theorem IsQt.mono (h : IsQt w v q k) (hk : k ≤ j) : IsQt w v q j := by
  obtain ⟨b, A, n, c, B, m, d, rfl, h1, h2, h3⟩ := h
  exact ⟨b, A, n, c, B, m, d, rfl, ⟨h1.rd, by have := h1.le; omega⟩, h2, ⟨h3.rd, by have := h3.le; omega⟩⟩
/-- By how great both are. -/
theorem IsQ.fit (h : IsQ N w v q k) (hn : q.num.natAbs < M.R ^ j) (hd : q.den < M.R ^ j) : IsQ N w v q j := by
  obtain ⟨b, A, n, c, B, m, d, rfl, h1, h2, h3⟩ := h
  refine ⟨b, A, n, c, B, m, d, rfl, ⟨h1.own, ?_, h1.neg⟩, h2, ?_⟩
  · rw [← h1.own.len]; exact M.lims_length_le.2 hn
  · rw [← h2.len]; exact M.lims_length_le.2 hd
theorem IsQt.num_lt (h : IsQt w v q k) : q.num.natAbs < M.R ^ k := by
  obtain ⟨b, A, n, c, B, m, d, rfl, h1, h2, h3⟩ := h
  exact h1.nm.lt
theorem IsQt.den_lt (h : IsQt w v q k) : q.den < M.R ^ k := by
  obtain ⟨b, A, n, c, B, m, d, rfl, h1, h2, h3⟩ := h
  exact h3.nm.lt
/-- A number and a D, put together. -/
theorem isQ_mk {b : Bool} {A B : Option Addr} {n c m d : Nat} (h : Zt w N b A n c q.num k) (g : Own w N B m d (M.lims q.den)) (hm : m ≤ k) : IsQ N w (.agg #[.bool b, .slice A n c, .slice B m d]) q k := ⟨b, A, n, c, B, m, d, rfl, h, g, hm⟩
/-- Behind a store into a variable that is older. -/
theorem IsQ.stored (h : IsQ N w v q k) {g : Nat} (hg : g < N) (i : Nat) (u : Value) : IsQ N (w.setCell ⟨g, i, none⟩ u) v q k := by
  obtain ⟨b, A, n, c, B, m, d, rfl, h1, h2, h3⟩ := h
  refine ⟨b, A, n, c, B, m, d, rfl, h1.stored hg i u, h2.grown (grownBy_setCell w ⟨g, i, none⟩ u) (fun p hp e => ?_), h3⟩
  injection e with e
  have := (OwK.lt h2 hp).1
  dsimp only at e
  omega
theorem sQm : Stab RBu fun v _ w => IsQm w v q k := fun _ _ _ _ _ r _ h => h.below r
theorem sQt : Stab RBu fun v _ w => IsQt w v q k := fun _ _ _ _ _ r _ h => h.below r
theorem sQ : Stab RBu fun v _ w => IsQ N w v q k := fun _ _ _ _ _ r _ h => h.below r
end

/-- Block g holds an api.Rat. -/
structure Bq (w : World) (g : Nat) (b : Bool) (A : Option Addr) (n c : Nat) (B : Option Addr) (m d : Nat) : Prop where
  row : w.heap[g]? = some (.cells #[.bool b, .slice A n c, .slice B m d] 26 (0, 0))
section
variable {w w' : World} {g : Nat} {b : Bool} {A B : Option Addr} {n c m d : Nat}
theorem Bq.lt (h : Bq w g b A n c B m d) : g < w.heap.size := (Array.getElem?_eq_some_iff.1 h.row).1
theorem Bq.below (h : Bq w g b A n c B m d) (hb : Below w.heap.size w w') : Bq w' g b A n c B m d := ⟨(hb.block g h.lt).trans h.row⟩
theorem Bq.alloc (h : Bq w g b A n c B m d) (o : Obj) : Bq (w.alloc o) g b A n c B m d := h.below (bl_alloc w o)
theorem Bq.new (w : World) (b : Bool) (A : Option Addr) (n c : Nat) (B : Option Addr) (m d : Nat) : Bq (w.alloc (.cells #[.bool b, .slice A n c, .slice B m d] 26)) w.heap.size b A n c B m d := ⟨heap_alloc_new w _⟩
theorem Bq.new2 (w : World) (o : Obj) (b : Bool) (A : Option Addr) (n c : Nat) (B : Option Addr) (m d : Nat) : Bq ((w.alloc o).alloc (.cells #[.bool b, .slice A n c, .slice B m d] 26)) (w.heap.size + 1) b A n c B m d := by
  have := Bq.new (w.alloc o) b A n c B m d
  rw [hs_alloc] at this
  exact this
theorem Bq.new3 (w : World) (o o' : Obj) (b : Bool) (A : Option Addr) (n c : Nat) (B : Option Addr) (m d : Nat) : Bq (((w.alloc o).alloc o').alloc (.cells #[.bool b, .slice A n c, .slice B m d] 26)) (w.heap.size + 1 + 1) b A n c B m d := by
  have := Bq.new2 (w.alloc o) o' b A n c B m d
  rw [hs_alloc] at this
  exact this
theorem Bq.new4 (w : World) (o o' o'' : Obj) (b : Bool) (A : Option Addr) (n c : Nat) (B : Option Addr) (m d : Nat) : Bq ((((w.alloc o).alloc o').alloc o'').alloc (.cells #[.bool b, .slice A n c, .slice B m d] 26)) (w.heap.size + 1 + 1 + 1) b A n c B m d := by
  have := Bq.new3 (w.alloc o) o' o'' b A n c B m d
  rw [hs_alloc] at this
  exact this
theorem Bq.drew (h : Bq w g b A n c B m d) : Bq w.drew g b A n c B m d := ⟨h.row⟩
theorem Bq.c0 (h : Bq w g b A n c B m d) : w.cell? ⟨g, 0, none⟩ = some (.bool b) := by
  rw [cell_of_row _ _ _ _ _ _ h.row]; rfl
theorem Bq.c1 (h : Bq w g b A n c B m d) : w.cell? ⟨g, 1, none⟩ = some (.slice A n c) := by
  rw [cell_of_row _ _ _ _ _ _ h.row]; rfl
theorem Bq.c2 (h : Bq w g b A n c B m d) : w.cell? ⟨g, 2, none⟩ = some (.slice B m d) := by
  rw [cell_of_row _ _ _ _ _ _ h.row]; rfl
theorem Bq.f (h : Bq w g b A n c B m d) (i : Nat) : w.frozen? ⟨g, i, none⟩ = false := frozen_of_row _ _ _ _ _ h.row
/-- Its D alone is written. -/
theorem Bq.setD (h : Bq w g b A n c B m d) (B' : Option Addr) (m' d' : Nat) : Bq (w.setCell ⟨g, 2, none⟩ (.slice B' m' d')) g b A n c B' m' d' :=
  ⟨heap_setCell_same w g 2 #[.bool b, .slice A n c, .slice B m d] 26 (.slice B' m' d') h.row⟩
theorem Bq.other (h : Bq w g b A n c B m d) {g' i : Nat} {v : Value} (hne : g ≠ g') : Bq (w.setCell ⟨g', i, none⟩ v) g b A n c B m d := ⟨(heap_setCell_other _ ⟨g', i, none⟩ g _ hne).trans h.row⟩
theorem Bz.other {w : World} {g : Nat} {b : Bool} {A : Option Addr} {n c : Nat} (h : Bz w g b A n c) {g' i : Nat} {v : Value} (hne : g ≠ g') : Bz (w.setCell ⟨g', i, none⟩ v) g b A n c := ⟨(heap_setCell_other _ ⟨g', i, none⟩ g _ hne).trans h.row⟩
end
/-- Behind the store of a result: what was answered stands. -/
theorem fin_q {w w2 : World} {v : Value} {q : Rat} {k N g : Nat} (h : IsQ N w2 v q k) (hb : Below w.heap.size w w2) (hg : w.heap.size ≤ g) (hgb : g < N) (x y z : Value) :
    Ans w (fun w' v => IsQ w.heap.size w' v q k) (.returned v) (((w2.setCell ⟨g, 0, none⟩ x).setCell ⟨g, 1, none⟩ y).setCell ⟨g, 2, none⟩ z) :=
  ⟨v, rfl, ((hb.setCell (p := ⟨g, 0, none⟩) hg x).setCell (p := ⟨g, 1, none⟩) hg y).setCell (p := ⟨g, 2, none⟩) hg z, (((h.stored hgb 0 x).stored hgb 1 y).stored hgb 2 z).base (by omega)⟩

end Go.Proofs.YtbhgbilhoonopaaGreat
