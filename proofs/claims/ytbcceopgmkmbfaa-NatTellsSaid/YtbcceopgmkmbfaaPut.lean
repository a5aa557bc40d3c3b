/-
  Rows that are written in place: a slice that lies somewhere in a block that the call made, and the world behind writes to it.
-/
import Derived.Test.YtbcceopgmkmbfaaBase
namespace Go.Proofs.Ytbcceopgmkmbfaa
open Go.RowKit
set_option linter.unusedVariables false

theorem grownBy_setCell (w : World) (p : Addr) (u : Value) : w.grownBy (w.setCell p u) (some p.block) :=
  ⟨rfl, rfl, rfl, by simp [World.setCell], fun k _ hk => heap_setCell_other w p k u (fun e => hk (by rw [e]))⟩

/-- A slice of n cells from o on in a block that may be written. -/
structure WrK {α : Type} (K : Kd α) (w : World) (g o n : Nat) (xs : List α) : Prop where
  len : xs.length = n
  lim : ∀ x ∈ xs, K.ok x
  blk : ∃ cur : Array Value, w.heap[g]? = some (.cells cur K.e (0, 0)) ∧ ∀ (i : Nat) (x : α), xs[i]? = some x → cur[o + i]? = some (K.enc x)

/-- w' is w but for the cells of block g from o on, which hold ys now. -/
structure PutK {α : Type} (K : Kd α) (w w' : World) (g o : Nat) (ys : List α) : Prop where
  grown : w.grownBy w' (some g)
  size : w'.heap.size = w.heap.size
  blk : ∃ cur cur' : Array Value, w.heap[g]? = some (.cells cur K.e (0, 0)) ∧ w'.heap[g]? = some (.cells cur' K.e (0, 0)) ∧ cur'.size = cur.size ∧
    (∀ (i : Nat) (y : α), ys[i]? = some y → cur'[o + i]? = some (K.enc y)) ∧ ∀ j, (j < o ∨ o + ys.length ≤ j) → cur'[j]? = cur[j]?

section
variable {α : Type} {K : Kd α} {w w' w'' : World} {g o n c : Nat} {xs ys : List α}

theorem WrK.rd (h : WrK K w g o n xs) (hc : n ≤ c) : RdK K w (some ⟨g, o, none⟩) n c xs := by
  obtain ⟨cur, hh, hx⟩ := h.blk
  exact ⟨h.len, hc, (fun e => by cases e), h.lim, fun _ => ⟨g, o, rfl, fun i x hi => by rw [cell_of_row w g (o + i) cur K.e (0, 0) hh]; exact hx i x hi⟩⟩

theorem PutK.start (h : WrK K w g o n xs) (o' : Nat) : PutK K w w g o' [] := by
  obtain ⟨cur, hh, _⟩ := h.blk
  exact ⟨World.grownBy.refl w _, rfl, cur, cur, hh, hh, rfl, (fun i y hi => by simp at hi), fun _ _ => rfl⟩

theorem PutK.drew (h : PutK K w w' g o ys) : PutK K w w'.drew g o ys := ⟨⟨h.grown.os, h.grown.tape, h.grown.output, h.grown.size, h.grown.block⟩, h.size, h.blk⟩
theorem PutK.drewN (h : PutK K w w' g o ys) (k : Nat) : PutK K w (w'.drewN k) g o ys := ⟨⟨h.grown.os, h.grown.tape, h.grown.output, h.grown.size, h.grown.block⟩, h.size, h.blk⟩

theorem PutK.cellOut (h : PutK K w w' g o ys) {j : Nat} (hj : j < o ∨ o + ys.length ≤ j) : w'.cell? ⟨g, j, none⟩ = w.cell? ⟨g, j, none⟩ := by
  obtain ⟨cur, cur', h1, h2, _, _, h3⟩ := h.blk
  rw [cell_of_row w g j cur K.e (0, 0) h1, cell_of_row w' g j cur' K.e (0, 0) h2, h3 j hj]

theorem PutK.frozen (h : PutK K w w' g o ys) (j : Nat) : w'.frozen? ⟨g, j, none⟩ = false := by
  obtain ⟨cur, cur', h1, h2, _⟩ := h.blk
  exact frozen_of_row w' g j cur' K.e h2

/-- One cell more behind. -/
theorem PutK.snoc (h : PutK K w w' g o ys) (z : α) {v : Value} (hv : w.cell? ⟨g, o + ys.length, none⟩ = some v) : PutK K w (w'.setCell ⟨g, o + ys.length, none⟩ (K.enc z)) g o (ys ++ [z]) := by
  obtain ⟨cur, cur', h1, h2, hs, h3, h4⟩ := h.blk
  rw [cell_of_row w g _ cur K.e (0, 0) h1] at hv
  have hlt : o + ys.length < cur.size := (Array.getElem?_eq_some_iff.1 hv).1
  refine ⟨⟨h.grown.os, h.grown.tape, h.grown.output, by simp [World.setCell]; have := h.size; omega, fun k hk hne => ?_⟩, by simp [World.setCell]; exact h.size, cur, _, h1, heap_setCell_same w' g _ cur' K.e _ h2, by simp [hs], fun i y hy => ?_, fun j hj => ?_⟩
  · rw [heap_setCell_other w' ⟨g, o + ys.length, none⟩ k _ (fun e => hne (by rw [e]))]
    exact h.grown.block k hk hne
  · rw [Array.getElem?_setIfInBounds]
    by_cases hi : i < ys.length
    · rw [if_neg (by omega)]
      exact h3 i y (by rw [List.getElem?_append_left hi] at hy; exact hy)
    · have hi2 : i = ys.length := by
        have := (List.getElem?_eq_some_iff.1 hy).1
        simp at this
        omega
      subst hi2
      rw [if_pos rfl, if_pos (by omega)]
      simp at hy
      rw [hy]
  · rw [Array.getElem?_setIfInBounds]
    simp at hj
    rw [if_neg (by omega)]
    exact h4 j (by omega)

/-- One cell more ahead. -/
theorem PutK.cons (h : PutK K w w' g (o + 1) ys) (z : α) {v : Value} (hv : w.cell? ⟨g, o, none⟩ = some v) : PutK K w (w'.setCell ⟨g, o, none⟩ (K.enc z)) g o (z :: ys) := by
  obtain ⟨cur, cur', h1, h2, hs, h3, h4⟩ := h.blk
  rw [cell_of_row w g _ cur K.e (0, 0) h1] at hv
  have hlt : o < cur.size := (Array.getElem?_eq_some_iff.1 hv).1
  refine ⟨⟨h.grown.os, h.grown.tape, h.grown.output, by simp [World.setCell]; have := h.size; omega, fun k hk hne => ?_⟩, by simp [World.setCell]; exact h.size, cur, _, h1, heap_setCell_same w' g _ cur' K.e _ h2, by simp [hs], fun i y hy => ?_, fun j hj => ?_⟩
  · rw [heap_setCell_other w' ⟨g, o, none⟩ k _ (fun e => hne (by rw [e]))]
    exact h.grown.block k hk hne
  · rw [Array.getElem?_setIfInBounds]
    cases i with
    | zero =>
      rw [if_pos (by omega), if_pos (by omega)]
      simp at hy
      rw [hy]
    | succ i =>
      rw [if_neg (by omega)]
      have := h3 i y (by simpa using hy)
      rw [← this]
      congr 1
      omega
  · rw [Array.getElem?_setIfInBounds]
    simp at hj
    rw [if_neg (by omega)]
    exact h4 j (by omega)

/-- What was put reads as such. -/
theorem PutK.wr (h : PutK K w w' g o ys) (hl : ∀ y ∈ ys, K.ok y) : WrK K w' g o ys.length ys := by
  obtain ⟨cur, cur', h1, h2, hs, h3, h4⟩ := h.blk
  exact ⟨rfl, hl, cur', h2, h3⟩

/-- Rows of other blocks read as they did. -/
theorem RdK.put {A : Option Addr} {m d : Nat} {zs : List α} {β : Type} {K' : Kd β} {us : List β} {g o : Nat} (h : RdK K w A m d zs) (hp : PutK K' w w' g o us) (hne : ∀ p, A = some p → 0 < m → p.block ≠ g) : RdK K w' A m d zs :=
  h.grown hp.grown fun p hA hm e => hne p hA hm (by injection e)
end

section
variable {α : Type} {K : Kd α} {w w' : World} {base g o n m c : Nat} {xs ys : List α}

/-- A piece of a row that the call made may be written. -/
theorem OwK.wr (h : OwK K w base (some ⟨g, 0, none⟩) n c xs) (hm : o + m ≤ n) : WrK K w g o m ((xs.drop o).take m) := by
  rcases h.cases with ⟨h0, _⟩ | ⟨g', cur, hg, hb, hh, hnc, hcm, hcs, ht⟩
  · cases h0
  · have e : g = g' := by injection hg with hg; injection hg
    subst e
    refine ⟨by rw [List.length_take, List.length_drop, h.len]; omega, fun x hx => h.lim x (List.mem_of_mem_drop (List.mem_of_mem_take hx)), cur, hh, fun i x hi => ?_⟩
    have hi' : i < m := by
      have := (List.getElem?_eq_some_iff.1 hi).1
      rw [List.length_take] at this
      omega
    rw [List.getElem?_take, if_pos hi', List.getElem?_drop] at hi
    have h2 : (xs.map K.enc)[o + i]? = some (K.enc x) := by rw [List.getElem?_map, hi]; rfl
    rw [← ht, List.getElem?_take, if_pos (by omega)] at h2
    simpa using h2

/-- The row that the call made, behind writes to a piece of it. -/
theorem OwK.put (h : OwK K w base (some ⟨g, 0, none⟩) n c xs) (hp : PutK K w w' g o ys) (hm : o + ys.length ≤ n) (hl : ∀ y ∈ ys, K.ok y) :
    OwK K w' base (some ⟨g, 0, none⟩) n c (xs.take o ++ ys ++ xs.drop (o + ys.length)) := by
  rcases h.cases with ⟨h0, _⟩ | ⟨g', cur, hg, hb, hh, hnc, hcm, hcs, ht⟩
  · cases h0
  · have e : g = g' := by injection hg with hg; injection hg
    subst e
    obtain ⟨cur1, cur', h1, h2, hs, h3, h4⟩ := hp.blk
    rw [hh] at h1
    injection h1 with h1
    injection h1 with h1
    subst h1
    have hxl := h.len
    refine ⟨⟨by simp [hxl]; omega, .inr ⟨g, c, cur', rfl, hb, h2, hnc, hcm, by omega, ?_⟩⟩, fun x hx => ?_⟩
    · rw [Nat.mul_one]
      apply List.ext_getElem?
      intro i
      rw [List.getElem?_take]
      by_cases hi : i < n
      · rw [if_pos hi]
        have hlook : cur'.toList[i]? = cur'[i]? := by simp
        rw [hlook, List.getElem?_map]
        by_cases h5 : i < o
        · rw [h4 i (by omega), List.append_assoc, List.getElem?_append_left (by rw [List.length_take]; omega), List.getElem?_take, if_pos h5]
          have : (cur.toList.take n)[i]? = cur[i]? := by rw [List.getElem?_take, if_pos hi]; simp
          rw [← this, ht, List.getElem?_map]
        · by_cases h6 : i < o + ys.length
          · rw [List.getElem?_append_left (by rw [List.length_append, List.length_take]; omega), List.getElem?_append_right (by rw [List.length_take]; omega), List.length_take, Nat.min_eq_left (by omega)]
            have h7 : i - o < ys.length := by omega
            have h8 := h3 (i - o) _ (List.getElem?_eq_getElem h7)
            rw [show o + (i - o) = i by omega] at h8
            rw [h8, List.getElem?_eq_getElem h7]
            rfl
          · rw [h4 i (by omega), List.getElem?_append_right (by rw [List.length_append, List.length_take]; omega), List.length_append, List.length_take, Nat.min_eq_left (by omega), List.getElem?_drop, show o + ys.length + (i - (o + ys.length)) = i by omega]
            have : (cur.toList.take n)[i]? = cur[i]? := by rw [List.getElem?_take, if_pos hi]; simp
            rw [← this, ht, List.getElem?_map]
      · rw [if_neg hi, List.getElem?_eq_none]
        simp [hxl]
        omega
    · rcases List.mem_append.1 hx with hx | hx
      · rcases List.mem_append.1 hx with hx | hx
        · exact h.lim x (List.mem_of_mem_take hx)
        · exact hl x hx
      · exact h.lim x (List.mem_of_mem_drop hx)

/-- One element written. -/
theorem OwK.set_ (h : OwK K w base (some ⟨g, 0, none⟩) n c xs) (j : Nat) (z : α) (hz : K.ok z) :
    OwK K (w.setCell ⟨g, j, none⟩ (K.enc z)) base (some ⟨g, 0, none⟩) n c (xs.set j z) ∧ w.grownBy (w.setCell ⟨g, j, none⟩ (K.enc z)) (some g) := by
  obtain ⟨h1, h2⟩ := h.row.stored j (K.enc z)
  refine ⟨⟨?_, fun x hx => ?_⟩, h2⟩
  · rw [List.map_set]
    exact h1
  · rcases List.mem_or_eq_of_mem_set hx with hx | rfl
    · exact h.lim x hx
    · exact hz

/-- Its cell. -/
theorem OwK.cellAt (h : OwK K w base (some ⟨g, 0, none⟩) n c xs) {j : Nat} {x : α} (hx : xs[j]? = some x) : w.cell? ⟨g, j, none⟩ = some (K.enc x) := by
  have hj : j < n := by rw [← h.len]; exact (List.getElem?_eq_some_iff.1 hx).1
  rw [h.row.cellAt j (by omega), List.getElem?_map, hx]
  rfl
theorem OwK.frozenAt (h : OwK K w base (some ⟨g, 0, none⟩) n c xs) (j : Nat) : w.frozen? ⟨g, j, none⟩ = false := h.row.frozenAt j
end

end Go.Proofs.Ytbcceopgmkmbfaa
