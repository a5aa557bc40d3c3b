/- Arguments that are rows of numbers, as a row's frame hands them over. -/
import Derived.Test.YthjgonfohjgfaaaLOpen
import Derived.Test.YthjgonfohjgfaaaZAll
import Derived.Deep.Slices
namespace Go.Proofs.Ythjgonfohjgfaaa
open Go.ChangeShapes Go.WideShapes Go.RowKit Go.Joins Go.Deep
set_option linter.unusedVariables false
set_option maxRecDepth 100000

section
variable {H : Type} {enc : TypeId × Value → H} {w : World}

instance : Inhabited IE := ⟨⟨false, none, 0, 0, []⟩⟩

theorem open_sInt_arg {r : Reach} {b0 : Nat} {v : Value} {d : DataW H} {p : List MemPlace} (hv : Value.okWide Try.prog w r b0 60 v) (h : DataW.Trod enc Try.prog w 0 (fun _ => true) true 60 v d p) :
    ∃ A n c es, v = .slice A n c ∧ IRow w A n c es ∧ n ≤ maxLen := by
  obtain ⟨A0, n0, c0, rfl⟩ := okWide_slice Try.underlying60 hv
  obtain ⟨fuel, hf⟩ := h
  rcases open_slice Try.underlying60 hf with ⟨h0, _⟩ | ⟨a, len, cap, m, k, D, Pl, hcs, _, hl, hm, hmm, _, hx⟩
  · injection h0 with h0
    exact ⟨none, 0, 0, [], h0, ⟨rfl, fun i e hi => by simp at hi, fun e he => by cases he⟩, Nat.zero_le _⟩
  · injection hcs with hcs
    have hc : Try.prog.cellsOf 32 = 2 := by kernel_rfl
    have hm' : m = cap := by simpa using hmm
    have each : ∀ i, i < len → ∃ e : IE, w.cell? (a.add (i * 2)) = some (.bool e.b) ∧ w.cell? (a.add (i * 2 + 1)) = some (.slice e.A e.n e.c) ∧ Rd w e.A e.n e.c e.xs ∧ e.n ≤ maxLen := by
      intro i hi
      obtain ⟨cs', h1, h2⟩ := hx i (by omega)
      rw [hc] at h1
      obtain ⟨_, hlen, hcell⟩ := World.cells?_some h1
      match cs', hlen with
      | [v0, v1], _ =>
        obtain ⟨b, A, n, c, xs, rfl, rfl, hr, hmx⟩ := open_Int h2
        have e0 := hcell 0 (by omega)
        have e1 := hcell 1 (by omega)
        rw [add_add] at e0 e1
        exact ⟨⟨b, A, n, c, xs⟩, by simpa using e0, by simpa using e1, hr, hmx⟩
    obtain ⟨q, hq⟩ := choose_lt each
    refine ⟨some a, len, cap, (List.range len).map q, hcs, ⟨by simp, fun i e hi => ?_, fun e he => ?_⟩, by omega⟩
    · have hil : i < len := by
        have := (List.getElem?_eq_some_iff.1 hi).1
        simpa using this
      have he : q i = e := by simpa [hil] using hi
      subst he
      obtain ⟨b, off, spot⟩ := a
      have g0 := (hq i hil).1
      have g1 := (hq i hil).2.1
      have hspot : spot = none := by simpa [Addr.add] using World.cell?_spot (hq 0 (by omega)).1
      subst hspot
      rw [Addr.add_lit] at g0 g1
      exact ⟨b, off, rfl, g0, g1⟩
    · obtain ⟨i, hi, rfl⟩ := List.mem_map.1 he
      exact (hq i (List.mem_range.1 hi)).2.2
end

end Go.Proofs.Ythjgonfohjgfaaa
