import Derived.Test.YthhkpoobcnmdgaaDoorBZ1
import Derived.Test.YthhkpoobcnmdgaaDoorLOpenYB
/- Arguments that are two bytes, as a row's frame hands them over (for laws of texts: on LOpenY alone). -/
namespace Go.Proofs.YthhkpoobcnmdgaaDoor
open Go.ChangeShapes Go.WideShapes Go.RowKit Go.Joins Go.Deep
set_option linter.unusedVariables false
set_option maxRecDepth 100000
section
variable {H : Type} {enc : TypeId × Value → H} {w : World}

theorem okWide_arr {P : Program} {t e : TypeId} {n base : Nat} {r : Reach} {v : Value} (ht : P.underlying t = some (.array n e)) (h : Value.okWide P w r base t v) : ∃ cs, v = .agg cs ∧ cs.size = P.cellsOf t := by
  simp only [Value.okWide, ht] at h
  obtain ⟨cs, h1, h2, _⟩ := h
  exact ⟨cs, h1, h2⟩
theorem open_u8w {c : Value} {m : Nat} {y : DataW H × List MemPlace} (h : DataW.trod enc Tryd.prog w 0 (fun _ => true) true m 5 [c] = some y) : ∃ x : Nat, c = .int .u8 (x : Int) ∧ x < 256 := by
  obtain ⟨n, hn, _, wf⟩ := DataW.trod_int Tryd.underlying5 h
  injection hn with hn
  have hb := bounds_b8 wf
  exact ⟨n.toNat, by rw [hn, Int.toNat_of_nonneg hb.1], by omega⟩

theorem open_b2_arg {r : Reach} {b0 : Nat} {v : Value} {d : DataW H} {p : List MemPlace} (hv : Value.okWide Tryd.prog w r b0 22 v) (h : DataW.Trod enc Tryd.prog w 0 (fun _ => true) true 22 v d p) :
    ∃ x y : Nat, v = .agg #[.int .u8 (x : Int), .int .u8 (y : Int)] ∧ x < 256 ∧ y < 256 := by
  obtain ⟨cs, rfl, hsz⟩ := okWide_arr Tryd.underlying22 hv
  obtain ⟨l⟩ := cs
  match l, hsz.trans (show _ = 2 by kernel_rfl) with
  | [c0, c1], _ =>
    obtain ⟨fuel, hf⟩ := h
    obtain ⟨xs, m, _, _, _, hl, hg⟩ := DataW.trod_array Tryd.underlying22 hf
    match xs, hl with
    | [y0, y1], _ =>
      have hc : Tryd.prog.cellsOf 5 = 1 := by kernel_rfl
      have g0 := hg 0 (by omega)
      have g1 := hg 1 (by omega)
      rw [hc] at g0 g1
      obtain ⟨x, rfl, hx⟩ := open_u8w (c := c0) (y := y0) g0
      obtain ⟨y, rfl, hy⟩ := open_u8w (c := c1) (y := y1) g1
      exact ⟨x, y, rfl, hx, hy⟩
end
end Go.Proofs.YthhkpoobcnmdgaaDoor
