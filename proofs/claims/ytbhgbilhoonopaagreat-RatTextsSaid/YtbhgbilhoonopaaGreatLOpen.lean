/- Arguments that are numbers, or arrays of numbers, as a row's frame hands them over. -/
import Derived.Test.YtbhgbilhoonopaaGreatMF
import Derived.OpenShut
import Derived.Lib.SmallJoins
namespace Go.Proofs.YtbhgbilhoonopaaGreat
open Go.ChangeShapes Go.WideShapes Go.RowKit Go.Joins Go.Deep
set_option linter.unusedVariables false
set_option maxRecDepth 100000

section
variable {H : Type} {enc : TypeId × Value → H} {w : World}

/-- A slice of 32-bit numbers, in a cell. -/
theorem open_limbs {c : Value} {m : Nat} {y : DataW H × List MemPlace} (h : DataW.trod enc Tryz.prog w 0 (fun _ => true) true m 22 [c] = some y) : ∃ A n d xs, c = .slice A n d ∧ Rd w A n d xs ∧ n ≤ maxLen := by
  rcases open_ints Tryz.underlying22 Tryz.underlying44 (by kernel_rfl) h with ⟨hcs, _⟩ | ⟨x, l, cp, zs, hcs, _, hl, hm, hz, _, hcell, hwz⟩
  · injection hcs with hcs
    have r := rd_of_row (w := w) (a := none) (len := 0) (cap := 0) (zs := []) (.inl ⟨rfl, rfl, rfl, rfl⟩)
    exact ⟨none, 0, 0, _, hcs, r.1, r.2⟩
  · injection hcs with hcs
    have r := rd_of_row (w := w) (a := some x) (len := l) (cap := cp) (zs := zs) (.inr ⟨x, rfl, hl, hm, by simpa using hz, hcell, hwz⟩)
    exact ⟨some x, l, cp, _, hcs, r.1, r.2⟩

theorem open_pair {P : Program} {t : TypeId} {f0 f1 : Field} {c0 c1 : Value} {m : Nat} {y : DataW H × List MemPlace} (hs : P.underlying t = some (.struct #[f0, f1])) (hone : oneCellFields P #[f0, f1] = true) (h : DataW.trod enc P w 0 (fun _ => true) true m t [c0, c1] = some y) :
    ∃ y0 y1 n, DataW.trod enc P w 0 (fun _ => true) true n f0.type [c0] = some y0 ∧ DataW.trod enc P w 0 (fun _ => true) true n f1.type [c1] = some y1 := by
  obtain ⟨y0, y1, n, hx, _, h0, h1⟩ := trod_struct2 hs h
  obtain ⟨o0, k0⟩ := hone_of hone 0 f0 rfl
  obtain ⟨o1, k1⟩ := hone_of hone 1 f1 rfl
  exact ⟨y0, y1, n, by simpa [o0, k0] using h0, by simpa [o1, k1] using h1⟩

theorem open_Int {c0 c1 : Value} {m : Nat} {y : DataW H × List MemPlace} (h : DataW.trod enc Tryz.prog w 0 (fun _ => true) true m 24 [c0, c1] = some y) : ∃ b A n d xs, c0 = .bool b ∧ c1 = .slice A n d ∧ Rd w A n d xs ∧ n ≤ maxLen := by
  obtain ⟨y0, y1, n, h0', h1'⟩ := open_pair Tryz.underlying24 (by kernel_rfl) h
  obtain ⟨b, hb, _⟩ := DataW.trod_bool Tryz.underlying4 h0'
  injection hb with hb
  obtain ⟨A, k, d, xs, hc, hr, hm⟩ := open_limbs h1'
  exact ⟨b, A, k, d, xs, hb, hc, hr, hm⟩

theorem open_Int_arg {r : Reach} {b0 : Nat} {v : Value} {d : DataW H} {p : List MemPlace} (hv : Value.okWide Tryz.prog w r b0 24 v) (h : DataW.Trod enc Tryz.prog w 0 (fun _ => true) true 24 v d p) : ∃ b A n c xs, v = .agg #[.bool b, .slice A n c] ∧ Rd w A n c xs ∧ n ≤ maxLen := by
  obtain ⟨cs, rfl, hsz⟩ := okWide_struct Tryz.underlying24 hv
  obtain ⟨c0, c1, rfl⟩ := array2 (hsz.trans (by kernel_rfl))
  obtain ⟨fuel, hf⟩ := h
  obtain ⟨b, A, n, c, xs, rfl, rfl, hr, hm⟩ := open_Int (c0 := c0) (c1 := c1) hf
  exact ⟨b, A, n, c, xs, rfl, hr, hm⟩

theorem okWide_array {P : Program} {t e : TypeId} {n base : Nat} {r : Reach} {v : Value} (ht : P.underlying t = some (.array n e)) (h : Value.okWide P w r base t v) : ∃ cs, v = .agg cs ∧ cs.size = P.cellsOf t := by
  simp only [Value.okWide, ht] at h
  obtain ⟨cs, h1, h2, _⟩ := h
  exact ⟨cs, h1, h2⟩

end

end Go.Proofs.YtbhgbilhoonopaaGreat
