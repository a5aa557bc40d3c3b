import Derived.Lib.ConvBytes
import Derived.Test.YthhkpoobcnmdgaaDoorBZ1
import Derived.Test.YthhkpoobcnmdgaaDoorXTokRB
/-
  What LexTells wants: a text's bytes as a row of its own, one of them changed; told of no error and no fault.
-/
namespace Go.Proofs.YthhkpoobcnmdgaaDoor
open Go.RowKit
set_option linter.unusedVariables false

/-- A row of bytes that may be written, whole. -/
structure Byw (w : World) (g : Nat) (ds : List Nat) : Prop where
  lt : g < w.heap.size
  blk : ∃ (cur : Array Value) (p : Nat × Nat), w.heap[g]? = some (.cells cur 5 p) ∧ ds.length ≤ p.1 ∧ ∀ (i x : Nat), ds[i]? = some x → cur[i]? = some (.int .u8 (x : Int))

section
variable {w w' : World} {g : Nat} {ds : List Nat}
theorem Byw.cell (h : Byw w g ds) {i x : Nat} (hx : ds[i]? = some x) : w.cell? ⟨g, i, none⟩ = some (.int .u8 (x : Int)) := by
  obtain ⟨cur, p, hh, _, hc⟩ := h.blk
  rw [cell_of_row w g i cur _ p hh]
  exact hc i x hx
theorem Byw.fr (h : Byw w g ds) {i : Nat} (hi : i < ds.length) : w.frozen? ⟨g, i, none⟩ = false := by
  obtain ⟨cur, ⟨lo, up⟩, hh, hl, _⟩ := h.blk
  have h1 : ¬ lo ≤ i := by simp at hl; omega
  simp [World.frozen?, hh, h1]
theorem Byw.below (h : Byw w g ds) (hb : Below w.heap.size w w') : Byw w' g ds := by
  obtain ⟨cur, p, hh, hl, hc⟩ := h.blk
  exact ⟨Nat.lt_of_lt_of_le h.lt hb.size, cur, p, by rw [hb.block g h.lt]; exact hh, hl, hc⟩
theorem Byw.grown {row : Option Nat} (h : Byw w g ds) (hb : w.grownBy w' row) (hr : some g ≠ row) : Byw w' g ds := by
  obtain ⟨cur, p, hh, hl, hc⟩ := h.blk
  exact ⟨Nat.lt_of_lt_of_le h.lt hb.size, cur, p, by rw [hb.block g h.lt hr]; exact hh, hl, hc⟩
theorem Byw.drew (h : Byw w g ds) : Byw w.drew g ds := ⟨h.lt, h.blk⟩
theorem Byw.set (h : Byw w g ds) (k z : Nat) : Byw (w.setCell ⟨g, k, none⟩ (.int .u8 (z : Int))) g (ds.set k z) := by
  obtain ⟨cur, p, hh, hl, hc⟩ := h.blk
  refine ⟨by simp only [World.setCell, Array.size_modify]; exact h.lt, cur.setIfInBounds k (.int .u8 (z : Int)), p, by simp [World.setCell, Array.getElem?_modify, hh], by rw [List.length_set]; exact hl, fun i x hx => ?_⟩
  rw [List.getElem?_set] at hx
  rw [Array.getElem?_setIfInBounds]
  by_cases hki : k = i
  · subst hki
    rw [if_pos rfl] at hx ⊢
    by_cases hkl : k < ds.length
    · rw [if_pos hkl] at hx
      injection hx with hx
      have hc' := hc k _ (List.getElem?_eq_getElem hkl)
      rw [if_pos (Array.getElem?_eq_some_iff.1 hc').1, hx]
    · rw [if_neg hkl] at hx
      cases hx
  · rw [if_neg hki] at hx ⊢
    exact hc i x hx
end

/-- A text's bytes as a row of its own. -/
theorem convB (w : World) (s : ByteArray) : ∃ (w1 : World) (c : Nat), (convert 9 24 (.string s)).run Tryd.prog w = .ok (.slice (some ⟨w.heap.size, 0, none⟩) s.size c) w1 ∧ Byw w1 w.heap.size (M.bytes s) ∧ Below w.heap.size w w1 ∧ w1.heap.size = w.heap.size + 1 := by
  refine ⟨_, _, Lib.run_convert_string_bytes w 9 24 5 s Tryd.underlying9 Tryd.underlying24 Tryd.underlying5, ⟨by rw [Lib.bytesWorld_size]; omega, _, _, Lib.bytesWorld_at_new w _ s, ?_, fun i x hx => ?_⟩, ⟨?_, ?_, ?_, by rw [Lib.bytesWorld_size]; omega, fun k hk => Lib.bytesWorld_at_old w _ s k hk⟩, Lib.bytesWorld_size w _ s⟩
  · rw [M.bytes_len]
    simp [Lib.bytesCells]
  · have hi : i < s.size := by rw [← M.bytes_len]; exact (List.getElem?_eq_some_iff.1 hx).1
    rw [M.bytes_get s i hi] at hx
    injection hx with hx
    subst hx
    simp [Lib.bytesCells, Array.getElem?_append, hi]
    rfl
  all_goals rfl

theorem idx2 (w : World) (u v : ByteArray) : (Instr.index 25 (.agg #[.string u, .string v]) (.int .i64 0)).run Tryd.prog w = .ok (.string u) w ∧ (Instr.index 25 (.agg #[.string u, .string v]) (.int .i64 1)).run Tryd.prog w = .ok (.string v) w := by
  constructor <;> simp [Instr.index, run_underlying Tryd.underlying25, asIntOf, go_sem]
theorem tmodN (x n : Nat) : (x : Int).tmod (n : Int) = ((x % n : Nat) : Int) := rfl

/-- A row of bytes as a text. -/
theorem Byw.back {w : World} {g : Nat} {ds : List Nat} (h : Byw w g ds) (n c : Nat) (hn : ds.length = n) : ∃ u : ByteArray, u.size = n ∧ (convert 24 9 (.slice (some ⟨g, 0, none⟩) n c)).run Tryd.prog w = .ok (.string u) w := by
  refine ⟨strOfNums (ds.map fun x : Nat => (x : Int)), by rw [strOfNums_size, List.length_map, hn], ?_⟩
  refine run_convert_bytes_arg (P := Tryd.prog) w 24 5 Tryd.underlying24 Tryd.underlying5 g 0 n c _ (by rw [List.length_map]; exact hn) (fun i hi => ?_) 9 Tryd.underlying9
  obtain ⟨x, hx⟩ : ∃ x, ds[i]? = some x := ⟨_, List.getElem?_eq_getElem (by omega)⟩
  rw [Nat.zero_add, h.cell hx, List.getD_eq_getElem?_getD, List.getElem?_map, hx]
  rfl


theorem bigKey {es fs : List TE} (h : fs.map TE.tk = es.map TE.tk) : sameB true es fs = true := by
  unfold sameB
  have e : ∀ l : List TE, l.map (keyB true) = (l.map TE.tk).map fun t => (t.d, t.l, t.k) := fun l => by
    rw [List.map_map]; rfl
  rw [e, e, h]
  exact decide_eq_true rfl
theorem RdT.nil (w : World) : RdT w none 0 0 [] := ⟨rfl, fun i e h => by simp at h⟩
theorem few3 (s : ByteArray) (w : World) : Calls Tryd.prog 8 #[.string s, .int .i64 300] w fun e w' => (∃ u : ByteArray, e = .returned (.string u) ∧ u.size ≤ 300) ∧ w = w' := few_c s 300 300 w rfl (by omega)

set_option maxRecDepth 20000 in
set_option maxHeartbeats 2000000 in
/-- told of no error, and no fault. -/
theorem toldE_c (w : World) : Calls Tryd.prog 11 #[.nilIface, .agg #[.int .i64 0, .int .i64 0]] w fun e w' => e = .returned (.bool true) ∧ Below w.heap.size w w' := by
  go_enter Tryd.func11, Tryd.ntmps11
  go_wp2
  have A0 := Ak.new w #[.int .i64 0, .int .i64 0] 33
  have B0 := bx_alloc w (.cells #[.int .i64 0, .int .i64 0] 33)
  generalize w.alloc (.cells #[.int .i64 0, .int .i64 0] 33) = W0 at A0 B0 ⊢
  go_region_held3 (fun w' => w'.cell? ⟨w.heap.size, 0, none⟩ = some (.int .i64 0) ∧ w'.cell? ⟨w.heap.size, 1, none⟩ = some (.int .i64 0))
    (first | exact ⟨A1.at 0 rfl, A1.at 1 rfl⟩ | exact ⟨A0.at 0 rfl, A0.at 1 rfl⟩)
    ((go_at_call 17; refine (told_nil _).mono ?_; rintro e w1 ⟨rfl, hb1⟩; have A1 := Ak.below (w := W0.drew) ⟨A0.row⟩ hb1; have BB := Lib.hid (B0.drew.trans (hb1.mono B0.drew.size)); clear hb1))
  go_wp2
  go_ret
  exact ⟨rfl, BB.out⟩
end Go.Proofs.YthhkpoobcnmdgaaDoor
