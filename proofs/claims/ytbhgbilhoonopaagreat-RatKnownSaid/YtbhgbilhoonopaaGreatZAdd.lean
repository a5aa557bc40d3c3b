/- big.Add, Mul of one and of two numbers. -/
import Derived.Test.YtbhgbilhoonopaaGreatZFold
namespace Go.Proofs.YtbhgbilhoonopaaGreat
open Go.RowKit
set_option linter.unusedVariables false
set_option maxRecDepth 100000

section
variable {w w' : World} {s t : Bool} {A B : Option Addr} {n c m d k j g o : Nat} {z u : Int} {base : Nat}
set_option maxHeartbeats 1000000

theorem GivZ.of {W : World} {e : Ending} (h : GivZ W z k e w') (hb : Below w.heap.size w W) (hk : k ≤ j) : GivZ w z j e w' := by
  obtain ⟨b, A, n, c, rfl, Z, hb'⟩ := h
  exact ⟨b, A, n, c, rfl, (Z.mono hb.size).monoK hk, bl_trans hb hb'⟩
theorem Zm.zero (w : World) (k : Nat) : Zm w false none 0 0 0 k := ⟨⟨0, ⟨(nilN w).row, Nat.zero_le _⟩, rfl⟩⟩
theorem Zt.zero (w : World) (base k : Nat) : Zt w base false none 0 0 0 k := ⟨by rw [show M.lims (Int.natAbs 0) = [] from M.lims_zero]; exact OwK.nil_ _ _, Nat.zero_le _, rfl⟩

/-- What Add does with what fold answers. -/
theorem add_of_fold {v : Value} (h : Calls Tryz.prog 108 #[v, .agg #[.bool false, .slice none 0 0], .func (Fn.func 138) #[] #[]] (w.alloc (.cells #[.bool false, .slice none 0 0] 24)) (GivZ (w.alloc (.cells #[.bool false, .slice none 0 0] 24)) z k)) : Calls Tryz.prog 105 #[v] w (GivZ w z k) := by
  have H := Lib.hid h
  clear h
  go_enter Tryz.func105, Tryz.ntmps105
  go_wp2_with fail
  refine H.out.mono ?_
  rintro e w1 ⟨b1, A1, n1, c1, rfl, Z, hb1⟩
  have PR := (Bz.new w false none 0 0).below hb1
  have BB := bl_trans (bl_alloc w _) hb1
  have r0 := PR.c0
  have r1 := PR.c1
  have f0 := PR.f 0
  have f1 := PR.f 1
  clear hb1 H
  go_wp2_with fail
  exact bodyPost_ret (v := .agg #[.bool b1, .slice A1 n1 c1]) (by simp [results, Tryz.results105, go_sem, *]) rfl ⟨_, _, _, _, rfl, fin_z Z BB (by omega) (by simp) _ _⟩

/-- What Mul does with what fold answers. -/
theorem mul_of_fold {v : Value} (h : ∀ W b0 A0 n0 c0, Below w.heap.size w W → w.heap.size + 1 ≤ W.heap.size → Zt W (w.heap.size + 1) b0 A0 n0 c0 1 2 → Calls Tryz.prog 108 #[v, .agg #[.bool b0, .slice A0 n0 c0], .func (Fn.func 109) #[] #[]] W fun e w' => ∃ b A n c, e = .returned (.agg #[.bool b, .slice A n c]) ∧ Zt w' (w.heap.size + 1) b A n c z k ∧ Below W.heap.size W w') : Calls Tryz.prog 67 #[v] w (GivZ w z k) := by
  have H := Lib.hid h
  clear h
  go_enter Tryz.func67, Tryz.ntmps67
  go_wp2_with fail
  refine (fromZ 1 _ (by omega) (by omega)).mono ?_
  rintro e w1 ⟨b1, A1, n1, c1, rfl, Z1, hb1⟩
  have PR := (Bz.new w false none 0 0).below hb1
  have BB := bl_trans (bl_alloc w _) hb1
  have hs := hs_alloc w (.cells #[.bool false, .slice none 0 0] 24)
  have Z1' := Z1.mono (base' := w.heap.size + 1) (by rw [hs]; exact Nat.le_refl _)
  have hz : w.heap.size + 1 ≤ w1.heap.size := by have := hb1.size; rw [hs] at this; exact this
  clear hb1 Z1 hs
  go_wp2_with fail
  refine (H.out _ _ _ _ _ BB hz Z1').mono ?_
  rintro e w2 ⟨b2, A2, n2, c2, rfl, Z, hb2⟩
  replace PR := PR.below hb2
  replace BB := bl_trans BB hb2
  have r0 := PR.c0
  have r1 := PR.c1
  have f0 := PR.f 0
  have f1 := PR.f 1
  clear hb2 H Z1'
  go_wp2_with fail
  exact bodyPost_ret (v := .agg #[.bool b2, .slice A2 n2 c2]) (by simp [results, Tryz.results67, go_sem, *]) rfl ⟨_, _, _, _, rfl, fin_z Z BB (by omega) (by omega) _ _⟩

/-- A row of two numbers, as a call makes it. -/
theorem lit2z (w : World) (s : Bool) (A : Option Addr) (n c : Nat) (t : Bool) (B : Option Addr) (m d : Nat) {W : World} (hW : Below (w.alloc (.cells #[.bool s, .slice A n c, .bool t, .slice B m d] 24)).heap.size (w.alloc (.cells #[.bool s, .slice A n c, .bool t, .slice B m d] 24)) W) :
    W.cell? ⟨w.heap.size, 0, none⟩ = some (.bool s) ∧ W.cell? ⟨w.heap.size, 0 + 1, none⟩ = some (.slice A n c) ∧ W.cell? ⟨w.heap.size, 0 + 2, none⟩ = some (.bool t) ∧ W.cell? ⟨w.heap.size, 0 + 3, none⟩ = some (.slice B m d) := by
  have h : W.heap[w.heap.size]? = some (.cells #[.bool s, .slice A n c, .bool t, .slice B m d] 24 (0, 0)) := (hW.block _ (by simp)).trans (heap_alloc_new w _)
  refine ⟨?_, ?_, ?_, ?_⟩ <;> rw [cell_of_row _ _ _ _ _ _ h] <;> rfl

theorem addZ2 (h : Zm w s A n c z k) (h' : Zm w t B m d u j) (hk : k ≤ 1000) (hj : j ≤ 1000) :
    Calls Tryz.prog 105 #[.slice (some ⟨w.heap.size, 0, none⟩) 2 2] (w.alloc (.cells #[.bool s, .slice A n c, .bool t, .slice B m d] 24)) (GivZ w (z + u) (max k j + 1)) := by
  have c := lit2z w s A n c t B m d (bl_alloc _ (.cells #[.bool false, .slice none 0 0] 24))
  refine (add_of_fold (fold_plus2 ((h.alloc _).alloc _) ((h'.alloc _).alloc _) hk hj c.1 c.2.1 c.2.2.1 c.2.2.2 2)).mono fun e w' r => r.of (bl_alloc _ _) (Nat.le_refl _)

theorem addZ1 (h : Zm w s A n c z k) (hk : k ≤ 1000) :
    Calls Tryz.prog 105 #[.slice (some ⟨w.heap.size, 0, none⟩) 1 1] (w.alloc (.cells #[.bool s, .slice A n c] 24)) (GivZ w z (max 2 k + 1)) := by
  have P := (Bz.new w s A n c).alloc (.cells #[.bool false, .slice none 0 0] 24)
  have := add_of_fold (fold_plus1 (Zm.zero _ _) ((h.alloc _).alloc _) hk P.c0 P.c1 1)
  rw [Int.zero_add] at this
  exact this.mono fun e w' r => r.of (bl_alloc _ _) (Nat.le_refl _)

theorem addZ0 (A : Option Addr) (c : Nat) : Calls Tryz.prog 105 #[.slice A 0 c] w (GivZ w 0 0) := by
  refine add_of_fold ((fold0 A c _).mono ?_)
  rintro e w' ⟨rfl, hb⟩
  exact ⟨_, _, _, _, rfl, Zt.zero _ _ _, hb⟩

theorem mulZ2 (h : Zm w s A n c z k) (h' : Zm w t B m d u j) (hk : k ≤ 1000) (hj : j ≤ 1000) (hm : min k j < 40) :
    Calls Tryz.prog 67 #[.slice (some ⟨w.heap.size, 0, none⟩) 2 2] (w.alloc (.cells #[.bool s, .slice A n c, .bool t, .slice B m d] 24)) (GivZ w (z * u) (k + j)) := by
  refine (mul_of_fold (z := z * u) (k := k + j) fun W b0 A0 n0 c0 hW hs hZ => ?_).mono fun e w' r => r.of (bl_alloc _ _) (Nat.le_refl _)
  have c := lit2z w s A n c t B m d hW
  refine (fold_times2 ((h.alloc _).below hW) ((h'.alloc _).below hW) hk hj hm c.1 c.2.1 c.2.2.1 c.2.2.2 2).mono ?_
  rintro e w' ⟨b, A, n, c, rfl, Z, hb⟩
  exact ⟨b, A, n, c, rfl, Z.mono hs, hb⟩

theorem mulZ1 (h : Zm w s A n c z k) (hk : k ≤ 1000) :
    Calls Tryz.prog 67 #[.slice (some ⟨w.heap.size, 0, none⟩) 1 1] (w.alloc (.cells #[.bool s, .slice A n c] 24)) (GivZ w z (2 + k)) := by
  refine (mul_of_fold (z := z) (k := 2 + k) fun W b0 A0 n0 c0 hW hs hZ => ?_).mono fun e w' r => r.of (bl_alloc _ _) (Nat.le_refl _)
  have P := (Bz.new w s A n c).below hW
  have := fold_times1 hZ.zm ((h.alloc _).below hW) hk P.c0 P.c1 1
  rw [Int.one_mul] at this
  refine this.mono ?_
  rintro e w' ⟨b, A, n, c, rfl, Z, hb⟩
  exact ⟨b, A, n, c, rfl, Z.mono hs, hb⟩

theorem mulZ0 (A : Option Addr) (c : Nat) : Calls Tryz.prog 67 #[.slice A 0 c] w (GivZ w 1 2) := by
  refine mul_of_fold (z := 1) (k := 2) fun W b0 A0 n0 c0 hW hs hZ => (fold0 A c _).mono ?_
  rintro e w' ⟨rfl, hb⟩
  exact ⟨_, _, _, _, rfl, hZ.below hb, hb⟩
end

end Go.Proofs.YtbhgbilhoonopaaGreat
