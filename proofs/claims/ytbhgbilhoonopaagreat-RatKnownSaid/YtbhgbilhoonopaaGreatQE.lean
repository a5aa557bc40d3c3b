/- rat.Of; Div's closure, and ofTwo with it: all older blocks stay but the one of the error. -/
import Derived.Test.YtbhgbilhoonopaaGreatQCut
namespace Go.Proofs.YtbhgbilhoonopaaGreat
open Go.RowKit
set_option linter.unusedVariables false
set_option maxRecDepth 100000

/-- All older blocks but one stay. -/
structure BlE (ge : Nat) (w w' : World) : Prop where
  os : w'.os = w.os
  tape : w'.tape = w.tape
  output : w'.output = w.output
  size : w.heap.size ≤ w'.heap.size
  block : ∀ i, i < w.heap.size → i ≠ ge → w'.heap[i]? = w.heap[i]?
def AnsE (ge : Nat) (w : World) (Post : World → Value → Prop) (e : Ending) (w' : World) : Prop := ∃ v, e = .returned v ∧ BlE ge w w' ∧ Post w' v
/-- The error's variable. -/
structure Be (w : World) (ge : Nat) (o : Int) : Prop where
  row : w.heap[ge]? = some (.cells #[.int .i64 o] 28 (0, 0))
section
variable {w w' w2 : World} {ge g : Nat} {o : Int} {b : Bool} {A B : Option Addr} {n c m d : Nat}
theorem BlE.of (h : Below w.heap.size w w') (k : BlE ge w' w2) : BlE ge w w2 :=
  ⟨k.os.trans h.os, k.tape.trans h.tape, k.output.trans h.output, Nat.le_trans h.size k.size, fun i hi hne => (k.block i (Nat.lt_of_lt_of_le hi h.size) hne).trans (h.block i hi)⟩
theorem BlE.bl (h : Below w.heap.size w w') : BlE ge w w' := ⟨h.os, h.tape, h.output, h.size, fun i hi _ => h.block i hi⟩
theorem BlE.setCell (h : BlE ge w w') {p : Addr} (hp : w.heap.size ≤ p.block ∨ p.block = ge) (v : Value) : BlE ge w (w'.setCell p v) := by
  refine ⟨h.os, h.tape, h.output, by simp [World.setCell]; exact h.size, fun i hi hne => ?_⟩
  rw [heap_setCell_other w' p i v (by rcases hp with hp | hp <;> omega)]
  exact h.block i hi hne
theorem BlE.below (h : BlE ge w w') (hg : w2.heap.size ≤ ge) (hb : Below w2.heap.size w2 w) : Below w2.heap.size w2 w' :=
  ⟨h.os.trans hb.os, h.tape.trans hb.tape, h.output.trans hb.output, Nat.le_trans hb.size h.size, fun i hi => (h.block i (Nat.lt_of_lt_of_le hi hb.size) (by omega)).trans (hb.block i hi)⟩
theorem Bq.blE (h : Bq w g b A n c B m d) (k : BlE ge w w') (hne : g ≠ ge) : Bq w' g b A n c B m d := ⟨(k.block g h.lt hne).trans h.row⟩
theorem Bq.set3 {b' : Bool} {A' B' : Option Addr} {n' c' m' d' : Nat} (h : Bq w g b A n c B m d) : Bq (((w.setCell ⟨g, 0, none⟩ (.bool b')).setCell ⟨g, 1, none⟩ (.slice A' n' c')).setCell ⟨g, 2, none⟩ (.slice B' m' d')) g b' A' n' c' B' m' d' := by
  have h1 := heap_setCell_same w g 0 #[.bool b, .slice A n c, .slice B m d] 26 (.bool b') h.row
  have h2 := heap_setCell_same _ g 1 _ 26 (.slice A' n' c') h1
  exact ⟨heap_setCell_same _ g 2 _ 26 (.slice B' m' d') h2⟩
theorem Be.lt (h : Be w ge o) : ge < w.heap.size := (Array.getElem?_eq_some_iff.1 h.row).1
theorem Be.below (h : Be w ge o) (hb : Below w.heap.size w w') : Be w' ge o := ⟨(hb.block ge h.lt).trans h.row⟩
theorem Be.new (w : World) (o : Int) : Be (w.alloc (.cells #[.int .i64 o] 28)) w.heap.size o := ⟨heap_alloc_new w _⟩
theorem Be.new4 (w : World) (o1 o2 o3 : Obj) (o : Int) : Be ((((w.alloc o1).alloc o2).alloc o3).alloc (.cells #[.int .i64 o] 28)) (w.heap.size + 1 + 1 + 1) o := by
  have := Be.new (((w.alloc o1).alloc o2).alloc o3) o
  simp only [hs_alloc] at this
  exact this
theorem Be.c0 (h : Be w ge o) : w.cell? ⟨ge, 0, none⟩ = some (.int .i64 o) := by
  rw [cell_of_row _ _ _ _ _ _ h.row]; rfl
theorem Be.f (h : Be w ge o) (i : Nat) : w.frozen? ⟨ge, i, none⟩ = false := frozen_of_row _ _ _ _ _ h.row
theorem Be.set (h : Be w ge o) (o' : Int) : Be (w.setCell ⟨ge, 0, none⟩ (.int .i64 o')) ge o' := ⟨heap_setCell_same w ge 0 #[.int .i64 o] 28 (.int .i64 o') h.row⟩
theorem Be.other (h : Be w ge o) {g' i : Nat} {v : Value} (hne : ge ≠ g') : Be (w.setCell ⟨g', i, none⟩ v) ge o := ⟨(heap_setCell_other _ ⟨g', i, none⟩ ge _ hne).trans h.row⟩
theorem fin_qE {v : Value} {q : Rat} {k N : Nat} (h : IsQ N w2 v q k) (he : Be w2 ge o) (hb : BlE ge w w2) (hge : ge < w.heap.size) (hg : w.heap.size ≤ g) (hgb : g < N) (x y z : Value) :
    AnsE ge w (fun w' v => IsQ w.heap.size w' v q k ∧ Be w' ge o) (.returned v) (((w2.setCell ⟨g, 0, none⟩ x).setCell ⟨g, 1, none⟩ y).setCell ⟨g, 2, none⟩ z) :=
  ⟨v, rfl, ((hb.setCell (p := ⟨g, 0, none⟩) (.inl hg) x).setCell (p := ⟨g, 1, none⟩) (.inl hg) y).setCell (p := ⟨g, 2, none⟩) (.inl hg) z, (((h.stored hgb 0 x).stored hgb 1 y).stored hgb 2 z).base (by omega), ((he.other (by omega)).other (by omega)).other (by omega)⟩
theorem ansE_base {q : Rat} {k N : Nat} (hN : N ≤ w.heap.size) (e : Ending) (w' : World) (h : AnsE ge w (fun w' v => IsQ w.heap.size w' v q k ∧ Be w' ge o) e w') : AnsE ge w (fun w' v => IsQ N w' v q k ∧ Be w' ge o) e w' := by
  obtain ⟨v, rfl, hb, h, he⟩ := h
  exact ⟨v, rfl, hb, h.base hN, he⟩
end
def IsQE (N : Nat) (w : World) (v : Value) (q : Rat) (k : Nat) (o : Int) : Prop := ∃ b A n c B m d, v = .tuple #[.agg #[.bool b, .slice A n c, .slice B m d], .int .i64 o] ∧ IsQ N w (.agg #[.bool b, .slice A n c, .slice B m d]) q k
theorem of_divInt (b t : Bool) (x : Nat) {y : Nat} (hy : y ≠ 0) : mkRat (zv (b != t) x) y = Rat.divInt (zv b x) (zv t y) := by
  cases b <;> cases t
  · rw [show (false != false) = false from rfl, zv_false, zv_false, Rat.divInt_ofNat]
  · rw [show (false != true) = true from rfl, zv_true, zv_false, zv_true, Rat.divInt_neg', Rat.divInt_ofNat]
  · rw [show (true != false) = true from rfl, zv_true, zv_false, Rat.divInt_ofNat]
  · rw [show (true != true) = false from rfl, zv_false, zv_true, zv_true, Rat.neg_divInt_neg, Rat.divInt_ofNat]
theorem two_div (a b : Rat) : Rat.divInt (a.num * (ofA a b : Int)) (b.num * (ofB a b : Int)) = a / b := by
  have hg : ((a.den.gcd b.den : Nat) : Int) ≠ 0 := by have := two_g a b; omega
  rw [← Rat.divInt_mul_right hg, Int.mul_assoc, Int.mul_assoc, ← Int.natCast_mul, ← Int.natCast_mul, two_A, two_B, Rat.div_def, Rat.inv_def]
  conv => rhs; lhs; rw [← Rat.num_divInt_den a]
  rw [Rat.divInt_mul_divInt, Int.mul_comm (a.den : Int) b.num]
section
variable {w w' : World} {v v' v'' : Value} {z u : Int} {y k j i N : Nat}
set_option maxHeartbeats 2000000
theorem cOfQ (h : IsM w v z k) (h' : IsM w v' u j) (hk : k ≤ 900) (hj : j ≤ 900) (hu : u ≠ 0) : Calls Tryz.prog 40 #[v, v'] w (Ans w fun w' v => IsQE w.heap.size w' v (Rat.divInt z u) (max k j) 0) := by
  obtain ⟨b, A, n, c, rfl, h⟩ := h
  obtain ⟨t, B, m, d, rfl, h'⟩ := h'
  obtain ⟨x, hx, rfl⟩ := h.row
  obtain ⟨y, hy, rfl⟩ := h'.row
  have hy0 : y ≠ 0 := by
    intro e
    subst e
    apply hu
    cases t <;> rfl
  have HE := Lib.hid (of_divInt b t x hy0)
  rw [← HE.out]
  have PA := ((Bz.new w b A n c).alloc (.cells #[.bool t, .slice B m d] 24)).alloc (.cells #[.bool false, .slice none 0 0, .slice none 0 0] 26)
  have PB := (Bz.new2 w (.cells #[.bool b, .slice A n c] 24) t B m d).alloc (.cells #[.bool false, .slice none 0 0, .slice none 0 0] 26)
  have PR := Bq.new3 w (.cells #[.bool b, .slice A n c] 24) (.cells #[.bool t, .slice B m d] 24) false none 0 0 none 0 0
  have BB := bl_trans (bl_trans (bl_alloc w (.cells #[.bool b, .slice A n c] 24)) (bl_alloc _ (.cells #[.bool t, .slice B m d] 24))) (bl_alloc _ (.cells #[.bool false, .slice none 0 0, .slice none 0 0] 26))
  have NX := hx.below BB
  have NY := hy.below BB
  have ZB := h'.below BB
  obtain ⟨sg, hsg, hs0⟩ : ∃ sg, sgn (zv t y) = sg ∧ sg ≠ 0 := ⟨_, rfl, by
    rcases Int.lt_trichotomy (zv t y) 0 with h | h | h
    · rw [sgn_neg h]; omega
    · exact absurd h hu
    · rw [sgn_pos h]; omega⟩
  have HS := Lib.hid hsg
  have HY := Lib.hid hy0
  clear h h' hx hy hu hsg hy0 HE
  have b0 := PB.c0
  have b1 := PB.c1
  cases b <;> cases t
  all_goals
    go_enter Tryz.func40, Tryz.ntmps40
    go_wp2_with fail
    refine (cSign ⟨_, _, _, _, rfl, ZB⟩ (by omega) HS.out).mono ?_
    rintro e w1 ⟨_, rfl, hb1, rfl⟩
    have hs1 := hb1.size
    simp only [hs_alloc] at hs1
    replace PA := PA.below hb1
    replace PB := PB.below hb1
    replace PR := PR.below hb1
    replace NX := NX.below hb1
    replace NY := NY.below hb1
    replace BB := bl_trans BB hb1
    clear hb1 b0 b1 ZB
    have a0 := PA.c0
    have a1 := PA.c1
    have b0 := PB.c0
    have b1 := PB.c1
    go_wp2_with fail
    refine (cLowest ⟨_, _, _, _, rfl, ⟨⟨_, NX, rfl⟩⟩⟩ ⟨_, _, _, rfl, NY⟩ (by omega) (by omega) HY.out).mono ?_
    rintro e w2 ⟨_, rfl, hb2, q2⟩
    obtain ⟨b2, A2, n2, c2, B2, m2, d2, rfl, yy⟩ := id q2
    clear yy
    have hs2 := hb2.size
    replace PR := PR.below hb2
    replace BB := bl_trans BB hb2
    have r0 := PR.c0
    have r1 := PR.c1
    have r2 := PR.c2
    have f0 := PR.f 0
    have f1 := PR.f 1
    have f2 := PR.f 2
    clear hb2 a0 a1 b0 b1 PA PB NX NY
    go_wp2_with fail
    have fq := fin_q (g := w.heap.size + 1 + 1) q2 BB (by omega) (by omega) (.bool b2) (.slice A2 n2 c2) (.slice B2 m2 d2)
    obtain ⟨_, e1, fb, fq⟩ := fq
    cases e1
    exact bodyPost_ret (v := .tuple #[.agg #[.bool b2, .slice A2 n2 c2, .slice B2 m2 d2], .int .i64 0]) (by simp [results, Tryz.results40, go_sem, *]) rfl ⟨_, rfl, fb, _, _, _, _, _, _, _, rfl, fq⟩

theorem zero_cast : ((0 : Int) : Rat) = 0 := rfl
/-- The 0 that is answered beside an error. -/
theorem IsQ.zero1 (h : IsQ N w v ((0 : Int) : Rat) k) : IsQ N w v 0 1 := by
  rw [zero_cast] at h
  exact h.fit (by rw [Nat.pow_one, M.R_eq]; decide) (by rw [Nat.pow_one, M.R_eq]; decide)
theorem cOfQ0 (h : IsM w v z k) (h' : IsM w v' u j) (hj : j ≤ 900) (hu : u = 0) : Calls Tryz.prog 40 #[v, v'] w (Ans w fun w' v => IsQE w.heap.size w' v 0 1 3) := by
  obtain ⟨b, A, n, c, rfl, h⟩ := h
  obtain ⟨t, B, m, d, rfl, h'⟩ := h'
  have PB := (Bz.new2 w (.cells #[.bool b, .slice A n c] 24) t B m d).alloc (.cells #[.bool false, .slice none 0 0, .slice none 0 0] 26)
  have PR := Bq.new3 w (.cells #[.bool b, .slice A n c] 24) (.cells #[.bool t, .slice B m d] 24) false none 0 0 none 0 0
  have BB := bl_trans (bl_trans (bl_alloc w (.cells #[.bool b, .slice A n c] 24)) (bl_alloc _ (.cells #[.bool t, .slice B m d] 24))) (bl_alloc _ (.cells #[.bool false, .slice none 0 0, .slice none 0 0] 26))
  have ZB := h'.below BB
  have HS := Lib.hid (show sgn u = 0 by rw [hu]; rfl)
  clear h h' hu
  have b0 := PB.c0
  have b1 := PB.c1
  go_enter Tryz.func40, Tryz.ntmps40
  go_wp2_with fail
  refine (cSign ⟨_, _, _, _, rfl, ZB⟩ (by omega) HS.out).mono ?_
  rintro e w1 ⟨_, rfl, hb1, rfl⟩
  have hs1 := hb1.size
  simp only [hs_alloc] at hs1
  replace PR := PR.below hb1
  replace BB := bl_trans BB hb1
  clear hb1 b0 b1 ZB PB
  go_wp2_with fail
  refine (cQFrom 0 (by omega) (by omega)).mono ?_
  rintro e w2 ⟨_, rfl, hb2, q2⟩
  replace q2 := q2.zero1
  obtain ⟨b2, A2, n2, c2, B2, m2, d2, rfl, yy⟩ := id q2
  clear yy
  have hs2 := hb2.size
  replace PR := PR.below hb2
  replace BB := bl_trans BB hb2
  have r0 := PR.c0
  have r1 := PR.c1
  have r2 := PR.c2
  have f0 := PR.f 0
  have f1 := PR.f 1
  have f2 := PR.f 2
  clear hb2
  go_wp2_with fail
  have fq := fin_q (g := w.heap.size + 1 + 1) q2 BB (by omega) (by omega) (.bool b2) (.slice A2 n2 c2) (.slice B2 m2 d2)
  obtain ⟨_, e1, fb, fq⟩ := fq
  cases e1
  exact bodyPost_ret (v := .tuple #[.agg #[.bool b2, .slice A2 n2 c2, .slice B2 m2 d2], .int .i64 3]) (by simp [results, Tryz.results40, go_sem, *]) rfl ⟨_, rfl, fb, _, _, _, _, _, _, _, rfl, fq⟩
/-- The error beside a quotient. -/
def eO (u : Int) : Int := if u = 0 then 3 else 0
def eQ (q : Rat) : Int := if q = 0 then 3 else 0
theorem cOfQA (h : IsM w v z k) (h' : IsM w v' u j) (hk : k ≤ 900) (hj : j ≤ 900) (hk1 : 1 ≤ k) : Calls Tryz.prog 40 #[v, v'] w (Ans w fun w' v => IsQE w.heap.size w' v (Rat.divInt z u) (max k j) (eO u)) := by
  by_cases hu : u = 0
  · refine (cOfQ0 h h' hj hu).mono ?_
    rintro e w1 ⟨_, rfl, hb1, b, A, n, c, B, m, d, rfl, q⟩
    unfold eO
    rw [if_pos hu, hu, Rat.divInt_zero]
    exact ⟨_, rfl, hb1, b, A, n, c, B, m, d, rfl, q.mono (by omega)⟩
  · unfold eO
    rw [if_neg hu]
    exact cOfQ h h' hk hj hu

theorem cDiv1e {ge : Nat} {o : Int} (h : IsM w v z k) (h' : IsM w v' u j) (PE : Be w ge o) (hk : k ≤ 900) (hj : j ≤ 900) (hk1 : 1 ≤ k) : Calls Tryz.prog 49 #[v, v', v'', .pointer (some ⟨ge, 0, none⟩)] w (AnsE ge w fun w' v => IsQ w.heap.size w' v (Rat.divInt z u) (max k j) ∧ Be w' ge (eO u)) := by
  obtain ⟨b, A, n, c, rfl, h⟩ := h
  obtain ⟨t, B, m, d, rfl, h'⟩ := h'
  have hge := PE.lt
  have PA := ((Bz.new w b A n c).alloc (.cells #[.bool t, .slice B m d] 24)).alloc (.cells #[.bool false, .slice none 0 0, .slice none 0 0] 26)
  have PB := (Bz.new2 w (.cells #[.bool b, .slice A n c] 24) t B m d).alloc (.cells #[.bool false, .slice none 0 0, .slice none 0 0] 26)
  have PR := Bq.new3 w (.cells #[.bool b, .slice A n c] 24) (.cells #[.bool t, .slice B m d] 24) false none 0 0 none 0 0
  have BB := bl_trans (bl_trans (bl_alloc w (.cells #[.bool b, .slice A n c] 24)) (bl_alloc _ (.cells #[.bool t, .slice B m d] 24))) (bl_alloc _ (.cells #[.bool false, .slice none 0 0, .slice none 0 0] 26))
  have ZA := h.below BB
  have ZB := h'.below BB
  replace PE := PE.below BB
  have a0 := PA.c0
  have a1 := PA.c1
  have b0 := PB.c0
  have b1 := PB.c1
  have H0 := Lib.hid (cOfQA (w := ((w.alloc (.cells #[.bool b, .slice A n c] 24)).alloc (.cells #[.bool t, .slice B m d] 24)).alloc (.cells #[.bool false, .slice none 0 0, .slice none 0 0] 26)) ⟨_, _, _, _, rfl, ZA⟩ ⟨_, _, _, _, rfl, ZB⟩ hk hj hk1)
  generalize eO u = o' at H0 ⊢
  clear h h'
  go_enter Tryz.func49, Tryz.ntmps49
  go_wp2_with fail
  refine H0.out.mono ?_
  rintro e w2 ⟨_, rfl, hb2, b2, A2, n2, c2, B2, m2, d2, rfl, q2⟩
  have hs2 := hb2.size
  simp only [hs_alloc] at hs2 q2
  replace PR := PR.below hb2
  replace BB := bl_trans BB hb2
  replace PE := PE.below hb2
  have r0 := PR.c0
  have r1 := PR.c1
  have r2 := PR.c2
  have f0 := PR.f 0
  have f1 := PR.f 1
  have f2 := PR.f 2
  have e0 := PE.c0
  have fe := PE.f 0
  clear hb2 PA PB ZA ZB a0 a1 b0 b1 H0
  obtain ⟨g, hg⟩ : ∃ g, g = w.heap.size + 1 + 1 := ⟨_, rfl⟩
  have X1 := (((((((BlE.bl (ge := ge) BB).setCell (p := ⟨g, 0, none⟩) (.inl (by show _ ≤ g; omega)) (.bool b2)).setCell (p := ⟨g, 1, none⟩) (.inl (by show _ ≤ g; omega)) (.slice A2 n2 c2)).setCell (p := ⟨g, 2, none⟩) (.inl (by show _ ≤ g; omega)) (.slice B2 m2 d2)).setCell (p := ⟨ge, 0, none⟩) (.inr rfl) (.int .i64 o')).setCell (p := ⟨g, 0, none⟩) (.inl (by show _ ≤ g; omega)) (.bool b2)).setCell (p := ⟨g, 1, none⟩) (.inl (by show _ ≤ g; omega)) (.slice A2 n2 c2)).setCell (p := ⟨g, 2, none⟩) (.inl (by show _ ≤ g; omega)) (.slice B2 m2 d2)
  have X2 := ((((((((q2.stored (g := g) (by omega) 0 (.bool b2)).stored (g := g) (by omega) 1 (.slice A2 n2 c2)).stored (g := g) (by omega) 2 (.slice B2 m2 d2)).stored (g := ge) (by omega) 0 (.int .i64 o')).stored (g := g) (by omega) 0 (.bool b2)).stored (g := g) (by omega) 1 (.slice A2 n2 c2)).stored (g := g) (by omega) 2 (.slice B2 m2 d2))).base (N' := w.heap.size) (by omega)
  have X3 := (((((((PE.other (g' := g) (i := 0) (v := .bool b2) (by omega)).other (g' := g) (i := 1) (v := .slice A2 n2 c2) (by omega)).other (g' := g) (i := 2) (v := .slice B2 m2 d2) (by omega)).set o').other (g' := g) (i := 0) (v := .bool b2) (by omega)).other (g' := g) (i := 1) (v := .slice A2 n2 c2) (by omega)).other (g' := g) (i := 2) (v := .slice B2 m2 d2) (by omega))
  have X4 : Bq _ (w.heap.size + 1 + 1) b2 A2 n2 c2 B2 m2 d2 := ((PR.set3 (b' := b2) (A' := A2) (n' := n2) (c' := c2) (B' := B2) (m' := m2) (d' := d2)).other (g' := ge) (i := 0) (v := .int .i64 o') (by omega)).set3 (b' := b2) (A' := A2) (n' := n2) (c' := c2) (B' := B2) (m' := m2) (d' := d2)
  rw [hg] at X1 X2 X3
  have H4 := Lib.hid X4
  have H1 := Lib.hid X1
  have H2 := Lib.hid X2
  have H3 := Lib.hid X3
  have hne : ge ≠ w.heap.size + 1 + 1 := by omega
  have hne' : w.heap.size + 1 + 1 ≠ ge := by omega
  clear X1 X2 X3 X4 hg q2 PR PE BB
  go_wp2_with fail
  clear r0 r1 r2 f0 f1 f2 e0 fe hne hne'
  generalize (((((((w2.setCell ⟨w.heap.size + 1 + 1, 0, none⟩ (.bool b2)).setCell ⟨w.heap.size + 1 + 1, 1, none⟩ (.slice A2 n2 c2)).setCell ⟨w.heap.size + 1 + 1, 2, none⟩ (.slice B2 m2 d2)).setCell ⟨ge, 0, none⟩ (.int .i64 o')).setCell ⟨w.heap.size + 1 + 1, 0, none⟩ (.bool b2)).setCell ⟨w.heap.size + 1 + 1, 1, none⟩ (.slice A2 n2 c2)).setCell ⟨w.heap.size + 1 + 1, 2, none⟩ (.slice B2 m2 d2)) = W9 at H1 H2 H3 H4 ⊢
  have q0 := H4.out.c0
  have q1 := H4.out.c1
  have q2 := H4.out.c2
  exact bodyPost_ret (v := .agg #[.bool b2, .slice A2 n2 c2, .slice B2 m2 d2]) (by simp [results, Tryz.results49, go_sem, q0, q1, q2]) rfl ⟨_, rfl, H1.out, H2.out, H3.out⟩
end

end Go.Proofs.YtbhgbilhoonopaaGreat
