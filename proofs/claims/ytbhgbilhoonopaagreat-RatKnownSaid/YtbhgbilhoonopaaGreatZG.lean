/- What values are, as predicates; big's functions by these. -/
import Derived.Test.YtbhgbilhoonopaaGreatZAdd
import Derived.Test.YtbhgbilhoonopaaGreatZC
import Derived.Test.YtbhgbilhoonopaaGreatZText
import Derived.Test.YtbhgbilhoonopaaGreatZE
import Derived.Test.YtbhgbilhoonopaaGreatMC
namespace Go.Proofs.YtbhgbilhoonopaaGreat
open Go.RowKit
set_option linter.unusedVariables false
set_option maxRecDepth 100000

theorem lims_last (n : Nat) : ∀ l, (M.lims n).getLast? = some l → l ≠ 0 := by
  refine M.lims_ind (fun n => ∀ l, (M.lims n).getLast? = some l → l ≠ 0) ?_ ?_ n
  · intro l h
    rw [M.lims_zero] at h
    cases h
  · intro n hn ih l h
    rw [M.lims_pos hn] at h
    by_cases h0 : n / M.R = 0
    · rw [h0, M.lims_zero] at h
      have hlt : n < M.R := (Nat.div_eq_zero_iff_lt M.R_pos).1 h0
      simp only [List.getLast?_singleton, Option.some.injEq] at h
      rw [Nat.mod_eq_of_lt hlt] at h
      omega
    · have hne : M.lims (n / M.R) ≠ [] := fun e => h0 (M.lims_eq_nil.1 e)
      rw [List.getLast?_cons_of_ne_nil hne] at h
      exact ih l h

/-- A number as it comes; a right one; a right one of the call's own. -/
def IsM (w : World) (v : Value) (z : Int) (k : Nat) : Prop := ∃ b A n c, v = .agg #[.bool b, .slice A n c] ∧ Zm w b A n c z k
def IsT (w : World) (v : Value) (z : Int) (k : Nat) : Prop := ∃ b A n c, v = .agg #[.bool b, .slice A n c] ∧ Tm w A n c z.natAbs k ∧ b = decide (z < 0)
def IsZ (N : Nat) (w : World) (v : Value) (z : Int) (k : Nat) : Prop := ∃ b A n c, v = .agg #[.bool b, .slice A n c] ∧ Zt w N b A n c z k
def IsZE (N : Nat) (w : World) (v : Value) (z : Int) (k : Nat) (o : Int) : Prop := ∃ b A n c, v = .tuple #[.agg #[.bool b, .slice A n c], .int .i64 o] ∧ Zt w N b A n c z k
def IsZB (N : Nat) (w : World) (v : Value) (z : Int) (k : Nat) (o : Bool) : Prop := ∃ b A n c, v = .tuple #[.agg #[.bool b, .slice A n c], .bool o] ∧ Zt w N b A n c z k
/-- Rows of one, of two numbers. -/
def IsR1 (w : World) (v : Value) (z : Int) (k : Nat) : Prop := ∃ g b A n c, v = .slice (some ⟨g, 0, none⟩) 1 1 ∧ Bz w g b A n c ∧ Zm w b A n c z k
def IsR2 (w : World) (v : Value) (z : Int) (k : Nat) (u : Int) (j : Nat) : Prop := ∃ g s A n c t B m d, v = .slice (some ⟨g, 0, none⟩) 2 2 ∧
  w.heap[g]? = some (.cells #[.bool s, .slice A n c, .bool t, .slice B m d] 24 (0, 0)) ∧ Zm w s A n c z k ∧ Zm w t B m d u j
def IsS (v : Value) (l : List Nat) : Prop := ∃ s, v = .string s ∧ M.bytes s = l

section
variable {w w' : World} {v v' : Value} {z u : Int} {k j N : Nat} {o : Int} {p : Bool}
theorem IsZ.t (h : IsZ N w v z k) : IsT w v z k := by
  obtain ⟨b, A, n, c, rfl, Z⟩ := h
  exact ⟨b, A, n, c, rfl, Z.tm, Z.neg⟩
theorem IsT.m (h : IsT w v z k) : IsM w v z k := by
  obtain ⟨b, A, n, c, rfl, T, hb⟩ := h
  refine ⟨b, A, n, c, rfl, ⟨⟨_, T.nm, ?_⟩⟩⟩
  rw [hb]
  by_cases hz : z < 0
  · rw [decide_eq_true hz, zv_true]; omega
  · rw [decide_eq_false hz, zv_false]; omega
theorem IsZ.m (h : IsZ N w v z k) : IsM w v z k := h.t.m
theorem IsM.below (h : IsM w v z k) (hb : Below w.heap.size w w') : IsM w' v z k := by
  obtain ⟨b, A, n, c, rfl, Z⟩ := h
  exact ⟨b, A, n, c, rfl, Z.below hb⟩
theorem IsT.below (h : IsT w v z k) (hb : Below w.heap.size w w') : IsT w' v z k := by
  obtain ⟨b, A, n, c, rfl, Z, e⟩ := h
  exact ⟨b, A, n, c, rfl, Z.below hb, e⟩
theorem IsZ.below (h : IsZ N w v z k) (hb : Below w.heap.size w w') : IsZ N w' v z k := by
  obtain ⟨b, A, n, c, rfl, Z⟩ := h
  exact ⟨b, A, n, c, rfl, Z.below hb⟩
theorem IsZE.below (h : IsZE N w v z k o) (hb : Below w.heap.size w w') : IsZE N w' v z k o := by
  obtain ⟨b, A, n, c, rfl, Z⟩ := h
  exact ⟨b, A, n, c, rfl, Z.below hb⟩
theorem IsZB.below (h : IsZB N w v z k p) (hb : Below w.heap.size w w') : IsZB N w' v z k p := by
  obtain ⟨b, A, n, c, rfl, Z⟩ := h
  exact ⟨b, A, n, c, rfl, Z.below hb⟩
theorem IsR1.below (h : IsR1 w v z k) (hb : Below w.heap.size w w') : IsR1 w' v z k := by
  obtain ⟨g, b, A, n, c, rfl, B, Z⟩ := h
  exact ⟨g, b, A, n, c, rfl, B.below hb, Z.below hb⟩
theorem IsR2.below (h : IsR2 w v z k u j) (hb : Below w.heap.size w w') : IsR2 w' v z k u j := by
  obtain ⟨g, s, A, n, c, t, B, m, d, rfl, r, Z, Z'⟩ := h
  exact ⟨g, s, A, n, c, t, B, m, d, rfl, (hb.block g (Array.getElem?_eq_some_iff.1 r).1).trans r, Z.below hb, Z'.below hb⟩
theorem IsT.zero (w : World) (k : Nat) : IsT w (.agg #[.bool false, .slice none 0 0]) 0 k := ⟨_, _, _, _, rfl, ⟨by rw [show M.lims (Int.natAbs 0) = [] from M.lims_zero]; exact RdK.empty _ _ _ (fun _ => rfl), Nat.zero_le _⟩, rfl⟩

/-- As a row is made. -/
theorem IsR1.new {s : Bool} {A : Option Addr} {n c : Nat} (h : Zm w s A n c z k) : IsR1 (w.alloc (.cells #[.bool s, .slice A n c] 24)) (.slice (some ⟨w.heap.size, 0, none⟩) 1 1) z k := ⟨_, _, _, _, _, rfl, Bz.new w s A n c, h.alloc _⟩
theorem IsR2.new {s t : Bool} {A B : Option Addr} {n c m d : Nat} (h : Zm w s A n c z k) (h' : Zm w t B m d u j) : IsR2 (w.alloc (.cells #[.bool s, .slice A n c, .bool t, .slice B m d] 24)) (.slice (some ⟨w.heap.size, 0, none⟩) 2 2) z k u j := ⟨_, _, _, _, _, _, _, _, _, rfl, heap_alloc_new w _, h.alloc _, h'.alloc _⟩

theorem givZ_ans {e : Ending} (hN : N ≤ w.heap.size) (h : GivZ w z k e w') : Ans w (fun w' v => IsZ N w' v z k) e w' := by
  obtain ⟨b, A, n, c, rfl, Z, hb⟩ := h
  exact ⟨_, rfl, hb, b, A, n, c, rfl, Z.mono hN⟩
theorem givZE_ans {e : Ending} (hN : N ≤ w.heap.size) (h : GivZE w z k o e w') : Ans w (fun w' v => IsZE N w' v z k o) e w' := by
  obtain ⟨b, A, n, c, rfl, Z, hb⟩ := h
  exact ⟨_, rfl, hb, b, A, n, c, rfl, Z.mono hN⟩
theorem givZB_ans {e : Ending} (hN : N ≤ w.heap.size) (h : GivZB w z k p e w') : Ans w (fun w' v => IsZB N w' v z k p) e w' := by
  obtain ⟨b, A, n, c, rfl, Z, hb⟩ := h
  exact ⟨_, rfl, hb, b, A, n, c, rfl, Z.mono hN⟩

theorem cAdd2 (h : IsR2 w v z k u j) (hk : k ≤ 1000) (hj : j ≤ 1000) (hN : N ≤ w.heap.size) : Calls Tryz.prog 105 #[v] w (Ans w fun w' v => IsZ N w' v (z + u) (max k j + 1)) := by
  obtain ⟨g, s, A, n, c, t, B, m, d, rfl, r, Z, Z'⟩ := h
  have r' : (w.alloc (.cells #[.bool false, .slice none 0 0] 24)).heap[g]? = _ := ((bl_alloc w (.cells #[.bool false, .slice none 0 0] 24)).block g (Array.getElem?_eq_some_iff.1 r).1).trans r
  refine (add_of_fold (fold_plus2 (o := 0) (Z.alloc _) (Z'.alloc _) hk hj ?_ ?_ ?_ ?_ 2)).mono fun e w' r => givZ_ans hN r
  all_goals (rw [cell_of_row _ _ _ _ _ _ r']; rfl)
theorem cAdd1 (h : IsR1 w v z k) (hk : k ≤ 1000) (hN : N ≤ w.heap.size) : Calls Tryz.prog 105 #[v] w (Ans w fun w' v => IsZ N w' v z (max 2 k + 1)) := by
  obtain ⟨g, b, A, n, c, rfl, B, Z⟩ := h
  have P := B.alloc (.cells #[.bool false, .slice none 0 0] 24)
  have := add_of_fold (fold_plus1 (Zm.zero _ _) (Z.alloc _) hk P.c0 P.c1 1)
  rw [Int.zero_add] at this
  exact this.mono fun e w' r => givZ_ans hN r
theorem cMul2 (h : IsR2 w v z k u j) (hk : k ≤ 1000) (hj : j ≤ 1000) (hm : min k j < 40) (hN : N ≤ w.heap.size) : Calls Tryz.prog 67 #[v] w (Ans w fun w' v => IsZ N w' v (z * u) (k + j)) := by
  obtain ⟨g, s, A, n, c, t, B, m, d, rfl, r, Z, Z'⟩ := h
  refine (mul_of_fold (z := z * u) (k := k + j) fun W b0 A0 n0 c0 hW hs hZ => ?_).mono fun e w' r => givZ_ans hN r
  have r' : W.heap[g]? = _ := (hW.block g (Array.getElem?_eq_some_iff.1 r).1).trans r
  refine (fold_times2 (o := 0) (Z.below hW) (Z'.below hW) hk hj hm ?_ ?_ ?_ ?_ 2).mono ?_
  · rw [cell_of_row _ _ _ _ _ _ r']; rfl
  · rw [cell_of_row _ _ _ _ _ _ r']; rfl
  · rw [cell_of_row _ _ _ _ _ _ r']; rfl
  · rw [cell_of_row _ _ _ _ _ _ r']; rfl
  · rintro e w' ⟨b, A, n, c, rfl, Z, hb⟩
    exact ⟨b, A, n, c, rfl, Z.mono hs, hb⟩
theorem cMul1 (h : IsR1 w v z k) (hk : k ≤ 1000) (hN : N ≤ w.heap.size) : Calls Tryz.prog 67 #[v] w (Ans w fun w' v => IsZ N w' v z (2 + k)) := by
  obtain ⟨g, b, A, n, c, rfl, B, Z⟩ := h
  refine (mul_of_fold (z := z) (k := 2 + k) fun W b0 A0 n0 c0 hW hs hZ => ?_).mono fun e w' r => givZ_ans hN r
  have P := B.below hW
  have := fold_times1 hZ.zm (Z.below hW) hk P.c0 P.c1 1
  rw [Int.one_mul] at this
  refine this.mono ?_
  rintro e w' ⟨b, A, n, c, rfl, Z, hb⟩
  exact ⟨b, A, n, c, rfl, Z.mono hs, hb⟩
theorem cAdd0 (hN : N ≤ w.heap.size) : Calls Tryz.prog 105 #[.slice none 0 0] w (Ans w fun w' v => IsZ N w' v 0 0) := (addZ0 none 0).mono fun e w' r => givZ_ans hN r
theorem cMul0 (hN : N ≤ w.heap.size) : Calls Tryz.prog 67 #[.slice none 0 0] w (Ans w fun w' v => IsZ N w' v 1 2) := (mulZ0 none 0).mono fun e w' r => givZ_ans hN r
theorem cNeg (h : IsM w v z k) (hk : k ≤ 1000) (hN : N ≤ w.heap.size) : Calls Tryz.prog 59 #[v] w (Ans w fun w' v => IsZ N w' v (-z) k) := by
  obtain ⟨b, A, n, c, rfl, Z⟩ := h
  exact (negZ Z hk).mono fun e w' r => givZ_ans hN r
theorem cFrom (x : Int) (h0 : -9223372036854775808 ≤ x) (h1 : x < 9223372036854775808) (hN : N ≤ w.heap.size) : Calls Tryz.prog 91 #[.int .i64 x] w (Ans w fun w' v => IsZ N w' v x 2) := (fromZ x w h0 h1).mono fun e w' r => givZ_ans hN r
theorem cSign {q : Int} (h : IsM w v z k) (hk : k ≤ 1000) (hq : sgn z = q) : Calls Tryz.prog 72 #[v] w (Ans w fun _ v => v = .int .i64 q) := by
  obtain ⟨b, A, n, c, rfl, Z⟩ := h
  exact (signZ' Z hk hq).mono fun e w' r => ⟨_, r.1, r.2, rfl⟩
theorem cCmp {q : Int} (h : IsM w v z k) (g : IsM w v' u j) (hk : k ≤ 1000) (hj : j ≤ 1000) (hq : cmpI z u = q) : Calls Tryz.prog 71 #[v, v'] w (Ans w fun _ v => v = .int .i64 q) := by
  obtain ⟨b, A, n, c, rfl, Z⟩ := h
  obtain ⟨b', A', n', c', rfl, Z'⟩ := g
  rw [← hq]
  exact (cmpZ Z Z' hk hj).mono fun e w' r => ⟨_, r.1, r.2, rfl⟩
theorem cDiv (h : IsM w v z k) (g : IsM w v' u j) (hk : k ≤ 1000) (hj : j ≤ 1000) (hu : u ≠ 0) (hN : N ≤ w.heap.size) : Calls Tryz.prog 76 #[v, v'] w (Ans w fun w' v => IsZE N w' v (dq z u) (k + 1) 0) := by
  obtain ⟨b, A, n, c, rfl, Z⟩ := h
  obtain ⟨b', A', n', c', rfl, Z'⟩ := g
  exact (divZ Z Z' hk hj hu).mono fun e w' r => givZE_ans hN r
theorem cDiv0 (h : IsM w v z k) (g : IsM w v' u j) (hk : k ≤ 1000) (hj : j ≤ 1000) (hu : u = 0) (hN : N ≤ w.heap.size) : Calls Tryz.prog 76 #[v, v'] w (Ans w fun w' v => IsZE N w' v 0 0 3) := by
  obtain ⟨b, A, n, c, rfl, Z⟩ := h
  obtain ⟨b', A', n', c', rfl, Z'⟩ := g
  exact (divZ0 Z Z' hk hj hu).mono fun e w' r => givZE_ans hN r
theorem cText (h : IsM w v z k) (hk : k ≤ 1000) : Calls Tryz.prog 84 #[v] w (Ans w fun _ v => IsS v (txtZ z)) := by
  obtain ⟨b, A, n, c, rfl, Z⟩ := h
  refine (textZ Z hk).mono ?_
  rintro e w' ⟨s, rfl, hs, hb⟩
  exact ⟨_, rfl, hb, s, rfl, hs⟩
theorem cParse_no (s : ByteArray) (hs : s.size ≤ 1048576) (h : ¬ isZ s) (hN : N ≤ w.heap.size) : Calls Tryz.prog 93 #[.string s] w (Ans w fun w' v => IsZB N w' v 0 0 false) := (parseZ_no s w hs h).mono fun e w' r => givZB_ans hN r
theorem cParse (s : ByteArray) (hs : s.size ≤ 1048576) (h : isZ s) (hv : (valZ s).natAbs < M.R ^ k) (hN : N ≤ w.heap.size) : Calls Tryz.prog 93 #[.string s] w (Ans w fun w' v => IsZB N w' v (valZ s) k true) := (parseZ_yes s w hs h hv).mono fun e w' r => givZB_ans hN r
theorem cOf (s : Bool) {A : Option Addr} {n c x : Nat} (h : Nm w A n c x k) (hk : k ≤ 1000) (hN : N ≤ w.heap.size) : Calls Tryz.prog 89 #[.bool s, .slice A n c] w (Ans w fun w' v => IsZ N w' v (zv s x) k) := (ofZ s h hk).mono fun e w' r => givZ_ans hN r

end

end Go.Proofs.YtbhgbilhoonopaaGreat

/- litmusref02.Same, litmuslaw02.same, is, few, limbs. -/
namespace Go.Proofs.YtbhgbilhoonopaaGreat
open Go.RowKit
set_option linter.unusedVariables false
set_option maxRecDepth 100000

section
variable {w w' : World} {v v' : Value} {z u : Int} {k j N : Nat}
set_option maxHeartbeats 1000000

theorem few_zm {s : Bool} {A : Option Addr} {n c : Nat} {xs : List Nat} (h : Rd w A n c xs) (q : Nat) : Zm w s A (min n q) c (zv s (M.val (xs.take (min n q)))) q := ⟨⟨_, ⟨⟨_, h.take (by omega), rfl⟩, by omega⟩, rfl⟩⟩

end

end Go.Proofs.YtbhgbilhoonopaaGreat
