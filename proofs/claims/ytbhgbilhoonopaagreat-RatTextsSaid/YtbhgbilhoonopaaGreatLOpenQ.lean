/- Arguments that are fractions, as a row's frame hands them over. -/
import Derived.Test.YtbhgbilhoonopaaGreatLOpen
namespace Go.Proofs.YtbhgbilhoonopaaGreat
open Go.ChangeShapes Go.WideShapes Go.RowKit Go.Joins Go.Deep
set_option linter.unusedVariables false
set_option maxRecDepth 100000

section
variable {H : Type} {enc : TypeId × Value → H} {w : World}

theorem open_Rat {c0 c1 c2 : Value} {m : Nat} {y : DataW H × List MemPlace} (h : DataW.trod enc Tryz.prog w 0 (fun _ => true) true m 26 [c0, c1, c2] = some y) :
    ∃ b A n d xs B m' d' ys, c0 = .bool b ∧ c1 = .slice A n d ∧ c2 = .slice B m' d' ∧ (Rd w A n d xs ∧ n ≤ maxLen) ∧ (Rd w B m' d' ys ∧ m' ≤ maxLen) := by
  obtain ⟨y0, y1, n, hx, _, h0, h1⟩ := trod_struct2 Tryz.underlying26 h
  have k0 : Tryz.prog.cellsOf 24 = 2 := by kernel_rfl
  have k1 : Tryz.prog.cellsOf 22 = 1 := by kernel_rfl
  have g0 : DataW.trod enc Tryz.prog w 0 (fun _ => true) true n 24 [c0, c1] = some y0 := by simpa [k0] using h0
  have g1 : DataW.trod enc Tryz.prog w 0 (fun _ => true) true n 22 [c2] = some y1 := by simpa [k1] using h1
  obtain ⟨b, A, k, d, xs, rfl, rfl, hr, hm⟩ := open_Int g0
  obtain ⟨B, l, e, ys, rfl, hr', hm'⟩ := open_limbs g1
  exact ⟨b, A, k, d, xs, B, l, e, ys, rfl, rfl, rfl, ⟨hr, hm⟩, ⟨hr', hm'⟩⟩

theorem array3 {cs : Array Value} (h : cs.size = 3) : ∃ a b c, cs = #[a, b, c] := by
  obtain ⟨l⟩ := cs
  match l, h with
  | [a, b, c], _ => exact ⟨a, b, c, rfl⟩

theorem open_Rat_arg {r : Reach} {b0 : Nat} {v : Value} {d : DataW H} {p : List MemPlace} (hv : Value.okWide Tryz.prog w r b0 26 v) (h : DataW.Trod enc Tryz.prog w 0 (fun _ => true) true 26 v d p) :
    ∃ b A n c xs B m d ys, v = .agg #[.bool b, .slice A n c, .slice B m d] ∧ (Rd w A n c xs ∧ n ≤ maxLen) ∧ (Rd w B m d ys ∧ m ≤ maxLen) := by
  obtain ⟨cs, rfl, hsz⟩ := okWide_struct Tryz.underlying26 hv
  obtain ⟨c0, c1, c2, rfl⟩ := array3 (hsz.trans (by kernel_rfl))
  obtain ⟨fuel, hf⟩ := h
  obtain ⟨b, A, n, c, xs, B, m, d, ys, rfl, rfl, rfl, h1, h2⟩ := open_Rat (c0 := c0) (c1 := c1) (c2 := c2) hf
  exact ⟨b, A, n, c, xs, B, m, d, ys, rfl, h1, h2⟩
end

end Go.Proofs.YtbhgbilhoonopaaGreat
