import Derived.OpenShut
import Derived.Lib.SmallJoins
import Derived.Test.YthhkpoobcnmdgaaDoorBZ1
/- Arguments that are rows of bytes, as a row's frame hands them over. -/
namespace Go.Proofs.YthhkpoobcnmdgaaDoor
open Go.ChangeShapes Go.WideShapes Go.RowKit Go.Joins Go.Deep
set_option linter.unusedVariables false
set_option maxRecDepth 100000
section
variable {H : Type} {enc : TypeId × Value → H} {w : World}

theorem bounds_b8 {z : Int} (h : (Lit.int .u8 z).wf = true) : 0 ≤ z ∧ z < 256 := by
  simp [Lit.wf] at h
  have e1 : IntKind.u8.min = 0 := rfl
  have e2 : IntKind.u8.max = 255 := rfl
  omega
theorem open_sb_arg {r : Reach} {b0 : Nat} {v : Value} {d : DataW H} {p : List MemPlace} (hv : Value.okWide Tryd.prog w r b0 24 v) (h : DataW.Trod enc Tryd.prog w 0 (fun _ => true) true 24 v d p) : ∃ A n c, v = .slice A n c ∧ ∃ xs, RdK kU8 w A n c xs ∧ n ≤ maxLen := by
  obtain ⟨A, n, c, rfl⟩ := okWide_slice Tryd.underlying24 hv
  obtain ⟨fuel, hf⟩ := h
  refine ⟨A, n, c, rfl, ?_⟩
  rcases open_ints Tryd.underlying24 Tryd.underlying5 (by kernel_rfl) (show DataW.trod enc Tryd.prog w 0 (fun _ => true) true fuel 24 [.slice A n c] = some _ from hf) with ⟨hcs, _⟩ | ⟨x, l, cp, zs, hcs, _, hl, hm, hz, _, hcell, hwz⟩
  · injection hcs with hcs
    injection hcs with h1 h2 h3
    subst h1 h2 h3
    exact ⟨[], RdK.empty _ _ _ fun _ => rfl, Nat.zero_le _⟩
  · injection hcs with hcs
    injection hcs with h1 h2 h3
    subst h1 h2 h3
    rw [if_pos rfl] at hz
    refine ⟨(zs.take n).map Int.toNat, ⟨by rw [List.length_map, List.length_take, hz]; omega, hl, (fun e => by cases e), fun y hy => ?_, fun hn => ?_⟩, Nat.le_trans hl hm⟩
    · obtain ⟨z, hz', rfl⟩ := List.mem_map.1 hy
      have hb := bounds_b8 (hwz z (List.mem_of_mem_take hz'))
      show z.toNat < 256
      omega
    · obtain ⟨b, off, spot⟩ := x
      have hc0 := hcell 0 (by omega)
      have hspot : spot = none := by simpa [Addr.add] using World.cell?_spot hc0
      subst hspot
      refine ⟨b, off, rfl, fun i y hy => ?_⟩
      rw [List.getElem?_map] at hy
      cases hzi : (zs.take n)[i]? with
      | none => rw [hzi] at hy; cases hy
      | some z =>
        rw [hzi] at hy
        cases hy
        have hil : i < n := by
          have := (List.getElem?_eq_some_iff.1 hzi).1
          rw [List.length_take] at this
          omega
        rw [List.getElem?_take, if_pos hil] at hzi
        have h1 := hcell i (by omega)
        rw [Addr.add_lit] at h1
        rw [h1, List.getD_eq_getElem?_getD, hzi]
        have hb := bounds_b8 (hwz z (List.mem_of_getElem? hzi))
        simp only [kU8, Option.getD_some]
        rw [Int.toNat_of_nonneg hb.1]

end
end Go.Proofs.YthhkpoobcnmdgaaDoor
