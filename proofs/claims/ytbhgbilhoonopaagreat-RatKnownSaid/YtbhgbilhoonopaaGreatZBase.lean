/- Whole numbers with signs (api.Int) as the program holds them: what a value is worth; big.signed. -/
import Derived.Test.YtbhgbilhoonopaaGreatMI
import Derived.Deep.RegionHeld3
namespace Go.Proofs.YtbhgbilhoonopaaGreat
open Go.RowKit
set_option linter.unusedVariables false
set_option maxRecDepth 100000

/-- What a sign and a size are worth. -/
def zv (b : Bool) (v : Nat) : Int := bif b then -(v : Int) else (v : Int)
theorem zv_false (v : Nat) : zv false v = v := rfl
theorem zv_true (v : Nat) : zv true v = -(v : Int) := rfl
theorem zv_abs (b : Bool) (v : Nat) : (zv b v).natAbs = v := by cases b <;> simp [zv]
theorem zv_not (b : Bool) (v : Nat) : zv (!b) v = - zv b v := by cases b <;> simp [zv]

/-- A number as it comes, of at most k limbs. -/
structure Zm (w : World) (b : Bool) (A : Option Addr) (n c : Nat) (z : Int) (k : Nat) : Prop where
  row : ∃ v, Nm w A n c v k ∧ zv b v = z
/-- A right number whose limbs the call made. -/
structure Zt (w : World) (base : Nat) (b : Bool) (A : Option Addr) (n c : Nat) (z : Int) (k : Nat) : Prop where
  own : Own w base A n c (M.lims z.natAbs)
  le : n ≤ k
  neg : b = decide (z < 0)

section
variable {w w' : World} {base : Nat} {b : Bool} {A B : Option Addr} {n c m d v x y k j : Nat} {z : Int}
theorem Zm.below (h : Zm w b A n c z k) (hb : Below w.heap.size w w') : Zm w' b A n c z k := by
  obtain ⟨v, h1, h2⟩ := h.row
  exact ⟨⟨v, h1.below hb, h2⟩⟩
theorem Zt.below (h : Zt w base b A n c z k) (hb : Below w.heap.size w w') : Zt w' base b A n c z k := ⟨h.own.below hb, h.le, h.neg⟩
theorem Zt.tm (h : Zt w base b A n c z k) : Tm w A n c z.natAbs k := ⟨h.own.rd, h.le⟩
theorem Zt.zm (h : Zt w base b A n c z k) : Zm w b A n c z k := by
  refine ⟨⟨z.natAbs, h.tm.nm, ?_⟩⟩
  rw [h.neg]
  by_cases hz : z < 0
  · rw [decide_eq_true hz, zv_true]; omega
  · rw [decide_eq_false hz, zv_false]; omega
theorem Zm.alloc (h : Zm w b A n c z k) (o : Obj) : Zm (w.alloc o) b A n c z k := h.below (bl_alloc w o)
theorem Zt.alloc (h : Zt w base b A n c z k) (o : Obj) : Zt (w.alloc o) base b A n c z k := h.below (bl_alloc w o)
theorem Zm.lt (h : Zm w b A n c z k) : z.natAbs < M.R ^ k := by
  obtain ⟨v, h1, rfl⟩ := h.row
  rw [zv_abs]
  exact h1.lt
theorem Zm.nm (h : Zm w b A n c z k) : Nm w A n c z.natAbs k := by
  obtain ⟨v, h1, rfl⟩ := h.row
  rw [zv_abs]
  exact h1
theorem Zm.eq (h : Zm w b A n c z k) : z = zv b z.natAbs := by
  obtain ⟨v, h1, rfl⟩ := h.row
  rw [zv_abs]

/-- A call answers a right number of its own. -/
def GivZ (w : World) (z : Int) (k : Nat) (e : Ending) (w' : World) : Prop :=
  ∃ b A n c, e = .returned (.agg #[.bool b, .slice A n c]) ∧ Zt w' w.heap.size b A n c z k ∧ Below w.heap.size w w'
/-- .. and a number of Go's int beside it. -/
def GivZE (w : World) (z : Int) (k : Nat) (o : Int) (e : Ending) (w' : World) : Prop :=
  ∃ b A n c, e = .returned (.tuple #[.agg #[.bool b, .slice A n c], .int .i64 o]) ∧ Zt w' w.heap.size b A n c z k ∧ Below w.heap.size w w'
/-- .. and a truth beside it. -/
def GivZB (w : World) (z : Int) (k : Nat) (o : Bool) (e : Ending) (w' : World) : Prop :=
  ∃ b A n c, e = .returned (.tuple #[.agg #[.bool b, .slice A n c], .bool o]) ∧ Zt w' w.heap.size b A n c z k ∧ Below w.heap.size w w'

/-- What signed makes of limbs. -/
theorem zt_signed {s : Bool} (h : Own w base A n c (M.lims v)) (hn : n ≤ k) : Zt w base (s && decide (0 < n)) A n c (zv s v) k := by
  refine ⟨by rw [zv_abs]; exact h, hn, ?_⟩
  have hl := h.len
  have h0 : 0 < n ↔ v ≠ 0 := by
    rw [← hl, List.length_pos_iff, ne_eq, M.lims_eq_nil]
  cases s
  · rw [zv_false, Bool.false_and]
    exact (decide_eq_false (by omega)).symm
  · rw [zv_true, Bool.true_and, decide_eq_decide, h0]
    omega

end

/-- Block g holds an api.Int. -/
structure Bz (w : World) (g : Nat) (b : Bool) (A : Option Addr) (n c : Nat) : Prop where
  row : w.heap[g]? = some (.cells #[.bool b, .slice A n c] 24 (0, 0))

section
variable {w w' w2 : World} {base g : Nat} {b : Bool} {A : Option Addr} {n c k : Nat} {z : Int}
theorem Bz.lt (h : Bz w g b A n c) : g < w.heap.size := by
  have := (Array.getElem?_eq_some_iff.1 h.row).1
  exact this
theorem Bz.below (h : Bz w g b A n c) (hb : Below w.heap.size w w') : Bz w' g b A n c := ⟨(hb.block g h.lt).trans h.row⟩
theorem Bz.alloc (h : Bz w g b A n c) (o : Obj) : Bz (w.alloc o) g b A n c := h.below (bl_alloc w o)
theorem Bz.new (w : World) (b : Bool) (A : Option Addr) (n c : Nat) : Bz (w.alloc (.cells #[.bool b, .slice A n c] 24)) w.heap.size b A n c := ⟨heap_alloc_new w _⟩
theorem hs_alloc (w : World) (o : Obj) : (w.alloc o).heap.size = w.heap.size + 1 := by simp
theorem Bz.new2 (w : World) (o : Obj) (b : Bool) (A : Option Addr) (n c : Nat) : Bz ((w.alloc o).alloc (.cells #[.bool b, .slice A n c] 24)) (w.heap.size + 1) b A n c := by
  have := Bz.new (w.alloc o) b A n c
  rw [hs_alloc] at this
  exact this
theorem Bz.new3 (w : World) (o o' : Obj) (b : Bool) (A : Option Addr) (n c : Nat) : Bz (((w.alloc o).alloc o').alloc (.cells #[.bool b, .slice A n c] 24)) (w.heap.size + 1 + 1) b A n c := by
  have := Bz.new2 (w.alloc o) o' b A n c
  rw [hs_alloc] at this
  exact this
theorem Bz.drew (h : Bz w g b A n c) : Bz w.drew g b A n c := ⟨h.row⟩
theorem Bz.c0 (h : Bz w g b A n c) : w.cell? ⟨g, 0, none⟩ = some (.bool b) := by
  rw [cell_of_row _ _ _ _ _ _ h.row]
  rfl
theorem Bz.c1 (h : Bz w g b A n c) : w.cell? ⟨g, 1, none⟩ = some (.slice A n c) := by
  rw [cell_of_row _ _ _ _ _ _ h.row]
  rfl
theorem Bz.f (h : Bz w g b A n c) (i : Nat) : w.frozen? ⟨g, i, none⟩ = false := frozen_of_row _ _ _ _ _ h.row

theorem cell_st2 {g' a i : Nat} {x y : Value} (hne : a ≠ g') : ((w.setCell ⟨g', 0, none⟩ x).setCell ⟨g', 1, none⟩ y).cell? ⟨a, i, none⟩ = w.cell? ⟨a, i, none⟩ := by
  refine World.cell?_of_block (a := ⟨a, i, none⟩) ?_
  rw [heap_setCell_other _ ⟨g', 1, none⟩ a _ hne, heap_setCell_other _ ⟨g', 0, none⟩ a _ hne]
theorem Bz.st2 {g' : Nat} {x y : Value} (h : Bz w g b A n c) (hne : g ≠ g') : Bz ((w.setCell ⟨g', 0, none⟩ x).setCell ⟨g', 1, none⟩ y) g b A n c := by
  refine ⟨?_⟩
  rw [heap_setCell_other _ ⟨g', 1, none⟩ g _ hne, heap_setCell_other _ ⟨g', 0, none⟩ g _ hne]
  exact h.row

/-- Behind the store of a result: what was answered stands. -/
theorem Zt.stored (h : Zt w base b A n c z k) (hg : g < base) (i : Nat) (v : Value) : Zt (w.setCell ⟨g, i, none⟩ v) base b A n c z k := by
  refine ⟨h.own.grown (grownBy_setCell w ⟨g, i, none⟩ v) (fun p hp e => ?_), h.le, h.neg⟩
  injection e with e
  have := (OwK.lt h.own hp).1
  dsimp only at e
  omega
theorem Zt.mono {base' : Nat} (h : Zt w base b A n c z k) (hb : base' ≤ base) : Zt w base' b A n c z k := ⟨h.own.mono hb, h.le, h.neg⟩
theorem fin_z (h : Zt w2 base b A n c z k) (hb : Below w.heap.size w w2) (hg : w.heap.size ≤ g) (hgb : g < base) (x y : Value) :
    Zt ((w2.setCell ⟨g, 0, none⟩ x).setCell ⟨g, 1, none⟩ y) w.heap.size b A n c z k ∧ Below w.heap.size w ((w2.setCell ⟨g, 0, none⟩ x).setCell ⟨g, 1, none⟩ y) :=
  ⟨((h.stored hgb 0 x).stored hgb 1 y).mono (by omega), (hb.setCell (p := ⟨g, 0, none⟩) hg x).setCell (p := ⟨g, 1, none⟩) hg y⟩
end

set_option maxHeartbeats 400000 in
theorem signed_any (s : Bool) (A : Option Addr) (n c : Nat) (w : World) : Calls Tryz.prog 119 #[.bool s, .slice A n c] w fun e w' => e = .returned (.agg #[.bool (s && decide (0 < n)), .slice A n c]) ∧ Below w.heap.size w w' := by
  cases s
  · go_enter Tryz.func119, Tryz.ntmps119
    go_wp2
    exact bodyPost_ret (v := .agg #[.bool false, .slice A n c]) (by simp [results, Tryz.results119, go_sem]) rfl ⟨rfl, bl_alloc _ _⟩
  · go_enter Tryz.func119, Tryz.ntmps119
    go_wp2
    exact bodyPost_ret (v := .agg #[.bool (decide (0 < n)), .slice A n c]) (by simp [results, Tryz.results119, go_sem]) rfl ⟨by rw [Bool.true_and], bl_alloc _ _⟩

end Go.Proofs.YtbhgbilhoonopaaGreat
