/- What nat's functions answer may be written: their contracts once more, by who owns the rows; rows that are spoilt. -/
import Derived.Test.YthjgonfohjgfaaaWKara
import Derived.Deep.LoopGhost
namespace Go.Proofs.Ythjgonfohjgfaaa
open Go.RowKit
set_option linter.unusedVariables false
set_option maxRecDepth 100000

def Ow (w : World) (base : Nat) (A : Option Addr) (n c : Nat) : Prop := ∃ xs, Own w base A n c xs
/-- w' is w and more. -/
def Sz (w w' : World) : Prop := Below w.heap.size w w'

section
variable {w w' : World} {A B : Option Addr} {n c m d base : Nat} {xs ys l : List Nat}
theorem Ow.below (h : Ow w base A n c) (hb : Below w.heap.size w w') : Ow w' base A n c := by
  obtain ⟨xs, h⟩ := h
  exact ⟨xs, OwK.below h hb⟩
theorem Ow.lt (h : Ow w base A n c) {p : Addr} (hp : A = some p) : base ≤ p.block ∧ p.block < w.heap.size := by
  obtain ⟨xs, h⟩ := h
  exact OwK.lt h hp
theorem Ow.le (h : Ow w base A n c) : n ≤ maxLen := by
  obtain ⟨xs, h⟩ := h
  rcases h.cases with ⟨_, h0, _⟩ | ⟨g, cur, _, _, _, h1, h2, _⟩
  · omega
  · omega
theorem Sz.below {a : World} (h : Sz a w) (hb : Below w.heap.size w w') : Sz a w' := bl_trans h hb
theorem Sz.size {a : World} (h : Sz a w) : a.heap.size ≤ w.heap.size := Below.size h

def GivO (w : World) (base : Nat) (e : Ending) (w' : World) : Prop := ∃ A n c, e = .returned (.slice A n c) ∧ Ow w' base A n c ∧ Below w.heap.size w w'
theorem givO {e : Ending} (hb : base ≤ w.heap.size) (h : Gives w l e w') : GivO w base e w' := by
  obtain ⟨A, c, rfl, ho, hb'⟩ := h
  exact ⟨A, _, c, rfl, ⟨_, ho.mono hb⟩, hb'⟩
theorem trimO (h : Rd w A n c xs) (hn : n ≤ 40) (hb : base ≤ w.heap.size) : Calls Try.prog 69 #[.slice A n c] w (GivO w base) :=
  (trim_any _ _ _ _ _ h (by omega)).mono fun _ _ r => givO hb r
theorem addO (h : Rd w A n c xs) (k : Rd w B m d ys) (hn : n ≤ 40) (hm : m ≤ 40) (hb : base ≤ w.heap.size) : Calls Try.prog 54 #[.slice A n c, .slice B m d] w (GivO w base) :=
  (add_any _ _ _ _ _ _ _ _ _ h k (by omega) (by omega)).mono fun _ _ r => givO hb r
theorem mulO (h : Rd w A n c xs) (k : Rd w B m d ys) (hn : n ≤ 40) (hm : m ≤ 40) (hb : base ≤ w.heap.size) : Calls Try.prog 55 #[.slice A n c, .slice B m d] w (GivO w base) :=
  (mul_le40 _ _ _ _ _ _ _ _ _ h k (by omega) (by omega)).mono fun _ _ r => givO hb r
theorem gcdO (h : Rd w A n c xs) (k : Rd w B m d ys) (hn : n ≤ 40) (hm : m ≤ 40) (hb : base ≤ w.heap.size) : Calls Try.prog 56 #[.slice A n c, .slice B m d] w (GivO w base) :=
  (gcd_all _ _ _ _ _ _ _ _ _ h k (by omega) (by omega)).mono fun _ _ r => givO hb r
def GivOB (w : World) (base : Nat) (e : Ending) (w' : World) : Prop := ∃ A n c b, e = .returned (.tuple #[.slice A n c, .bool b]) ∧ Ow w' base A n c ∧ Below w.heap.size w w'
theorem givOB {e : Ending} {b : Bool} (hb : base ≤ w.heap.size) (h : GivesB w l b e w') : GivOB w base e w' := by
  obtain ⟨A, c, rfl, ho, hb'⟩ := h
  exact ⟨A, _, c, b, rfl, ⟨_, ho.mono hb⟩, hb'⟩
theorem subO (h : Rd w A n c xs) (k : Rd w B m d ys) (hn : n ≤ 40) (hm : m ≤ 40) (hb : base ≤ w.heap.size) : Calls Try.prog 76 #[.slice A n c, .slice B m d] w (GivOB w base) := by
  refine (sub_any _ _ _ _ _ _ _ _ _ h k (by omega) (by omega)).mono fun _ _ r => ?_
  rcases r with ⟨_, r⟩ | ⟨_, r⟩
  · exact givOB hb r
  · exact givOB hb r
def GivOD (w : World) (base : Nat) (e : Ending) (w' : World) : Prop := ∃ A n c B m d o, e = .returned (.tuple #[.slice A n c, .slice B m d, .int .i64 o]) ∧ Ow w' base A n c ∧ Ow w' base B m d ∧ Below w.heap.size w w'
theorem givOD {e : Ending} {o : Int} (hb : base ≤ w.heap.size) {l l' : List Nat} (h : Gives2 w l l' o e w') : GivOD w base e w' := by
  obtain ⟨A, c, B, d, rfl, ho, ho', _, hb'⟩ := h
  exact ⟨A, _, c, B, _, d, o, rfl, ⟨_, ho.mono hb⟩, ⟨_, ho'.mono hb⟩, hb'⟩
theorem divO (h : Rd w A n c xs) (k : Rd w B m d ys) (hn : n ≤ 40) (hm : m ≤ 40) (hb : base ≤ w.heap.size) : Calls Try.prog 52 #[.slice A n c, .slice B m d] w (GivOD w base) := by
  by_cases h0 : M.val ys = 0
  · exact (div_zero _ _ _ _ _ _ _ _ _ h k (by omega) (by omega) h0).mono fun _ _ r => givOD hb r
  · exact (div_all _ _ _ _ _ _ _ _ _ h k (by omega) (by omega) h0).mono fun _ _ r => givOD hb r
end

structure R3 where
  A : Option Addr
  n : Nat
  c : Nat
def R3.v (s : R3) : Value := .slice s.A s.n s.c

/-- wr is w9 but for what rows of rs hold, which lie in the blocks from h2 on, below h3. -/
structure Spoil (w9 wr : World) (h2 h3 : Nat) (rs : List R3) : Prop where
  os : wr.os = w9.os
  tape : wr.tape = w9.tape
  output : wr.output = w9.output
  size : wr.heap.size = w9.heap.size
  keep : ∀ j, (j < h2 ∨ h3 ≤ j) → wr.heap[j]? = w9.heap[j]?
  own : ∀ s ∈ rs, Ow wr h2 s.A s.n s.c
  lt : ∀ s ∈ rs, ∀ p, s.A = some p → p.block < h3

theorem Spoil.step {w9 wr : World} {h2 h3 g k z n c : Nat} {rs : List R3} (h : Spoil w9 wr h2 h3 rs) (hs : (⟨some ⟨g, 0, none⟩, n, c⟩ : R3) ∈ rs) (hz : z < M.R) : Spoil w9 (wr.setCell ⟨g, k, none⟩ (.int .u32 (z : Int))).drew h2 h3 rs := by
  have hg2 := ((h.own _ hs).lt (p := ⟨g, 0, none⟩) rfl).1
  have hg3 := h.lt _ hs ⟨g, 0, none⟩ rfl
  dsimp only at hg2 hg3
  refine ⟨h.os, h.tape, h.output, ?_, fun j hj => ?_, fun t ht => ?_, h.lt⟩
  · show (wr.setCell ⟨g, k, none⟩ _).heap.size = _
    simp [World.setCell]
    exact h.size
  · show (wr.setCell ⟨g, k, none⟩ _).heap[j]? = _
    rw [heap_setCell_other wr ⟨g, k, none⟩ j _ (fun e => by dsimp only at e; omega)]
    exact h.keep j hj
  · obtain ⟨xs, ho⟩ := h.own t ht
    rcases ho.cases with ⟨hA, _⟩ | ⟨g', cur, hA, _⟩
    · exact ⟨xs, (ho.grown (grownBy_setCell wr ⟨g, k, none⟩ (.int .u32 (z : Int))) (fun p hp => by rw [hA] at hp; cases hp)).drew⟩
    · by_cases e : g' = g
      · subst e
        obtain ⟨tA, tn, tc⟩ := t
        dsimp only at hA ho ⊢
        subst hA
        exact ⟨_, (ho.set_ k z hz).1.drew⟩
      · exact ⟨xs, (ho.grown (grownBy_setCell wr ⟨g, k, none⟩ (.int .u32 (z : Int))) (fun p hp e' => by rw [hA] at hp; cases hp; injection e' with e'; exact e e')).drew⟩

theorem Spoil.cell {w9 wr : World} {h2 h3 i : Nat} {rs : List R3} {s : R3} (h : Spoil w9 wr h2 h3 rs) (hall : w9.heap[h3]? = some (.cells (rs.map R3.v).toArray 25 (0, 0))) (hs : rs[i]? = some s) : wr.cell? ⟨h3, i, none⟩ = some (.slice s.A s.n s.c) := by
  rw [cell_of_row wr h3 i (rs.map R3.v).toArray 25 (0, 0) ((h.keep h3 (.inr (Nat.le_refl _))).trans hall)]
  simp [hs, R3.v]

theorem Spoil.below {w w9 wr : World} {h2 h3 : Nat} {rs : List R3} (h : Spoil w9 wr h2 h3 rs) (hb : Below w.heap.size w w9) (hw : w.heap.size ≤ h2) : Below w.heap.size w wr :=
  ⟨h.os.trans hb.os, h.tape.trans hb.tape, h.output.trans hb.output, by have := hb.size; have := h.size; omega, fun j hj => (h.keep j (.inl (by omega))).trans (hb.block j hj)⟩
theorem Spoil.rdLow {w9 wr : World} {h2 h3 : Nat} {rs : List R3} {A : Option Addr} {n c : Nat} {xs : List Nat} (h : Spoil w9 wr h2 h3 rs) (r : Rd w9 A n c xs) (hl : ∀ p, A = some p → 0 < n → p.block < h2) : Rd wr A n c xs :=
  r.keep fun p hp hn => h.keep _ (.inl (hl p hp hn))
theorem Spoil.rdHigh {w9 wr : World} {h2 h3 : Nat} {rs : List R3} {A : Option Addr} {n c : Nat} {xs : List Nat} (h : Spoil w9 wr h2 h3 rs) (r : Rd w9 A n c xs) (hl : ∀ p, A = some p → h3 ≤ p.block) : Rd wr A n c xs :=
  r.keep fun p hp hn => h.keep _ (.inr (hl p hp))

end Go.Proofs.Ythjgonfohjgfaaa
