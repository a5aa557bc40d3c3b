/- What the laws' walks share: arguments as rows; Small of any row. -/
import Derived.Test.YtbcceopgmkmbfaaWWorks
import Derived.OpenShut
namespace Go.Proofs.Ytbcceopgmkmbfaa
open Go.RowKit
set_option linter.unusedVariables false

/-- An argument that is a slice of 32-bit numbers, as the row's frame opens it, is a row of limbs. -/
theorem rd_of_row {w : World} {a : Option Addr} {len cap : Nat} {zs : List Int} (h : (a = none ∧ len = 0 ∧ cap = 0 ∧ zs = []) ∨
    ∃ x, a = some x ∧ len ≤ cap ∧ cap ≤ maxLen ∧ zs.length = cap ∧ (∀ i, i < zs.length → w.cell? (x.add i) = some (.int .u32 (zs.getD i 0))) ∧ ∀ n ∈ zs, (Lit.int .u32 n).wf = true) :
    Rd w a len cap ((zs.take len).map Int.toNat) ∧ len ≤ maxLen := by
  rcases h with ⟨rfl, rfl, rfl, rfl⟩ | ⟨x, rfl, hl, hm, hz, hc, hwf⟩
  · exact ⟨RdK.empty _ _ _ fun _ => rfl, Nat.zero_le _⟩
  · refine ⟨⟨by rw [List.length_map, List.length_take, hz]; omega, hl, (fun e => by cases e), fun y hy => ?_, fun hn => ?_⟩, Nat.le_trans hl hm⟩
    · obtain ⟨z, hz', rfl⟩ := List.mem_map.1 hy
      have := hwf z (List.mem_of_mem_take hz')
      have hb := bounds_u32 this
      show z.toNat < M.R
      rw [M.R_eq]
      omega
    · obtain ⟨b, off, spot⟩ := x
      have hc0 := hc 0 (by omega)
      have hspot : spot = none := by simpa [Addr.add] using World.cell?_spot hc0
      subst hspot
      refine ⟨b, off, rfl, fun i y hy => ?_⟩
      rw [List.getElem?_map] at hy
      cases hzi : (zs.take len)[i]? with
      | none => rw [hzi] at hy; cases hy
      | some z =>
        rw [hzi] at hy
        cases hy
        have hil : i < len := by
          have := (List.getElem?_eq_some_iff.1 hzi).1
          rw [List.length_take] at this
          omega
        rw [List.getElem?_take, if_pos hil] at hzi
        have h1 := hc i (by omega)
        rw [Addr.add_lit] at h1
        rw [h1, List.getD_eq_getElem?_getD, hzi]
        have hb := bounds_u32 (hwf z (List.mem_of_getElem? hzi))
        simp only [kU32, Option.getD_some]
        rw [Int.toNat_of_nonneg hb.1]

/-- What Small answers. -/
def sv (v : Nat) : Nat := if v < 18446744073709551616 then v else 0
def sb (v : Nat) : Bool := decide (v < 18446744073709551616)
theorem sv_yes {v : Nat} (h : v < 18446744073709551616) : sv v = v := if_pos h
theorem sv_no {v : Nat} (h : ¬ v < 18446744073709551616) : sv v = 0 := if_neg h
theorem sb_yes {v : Nat} (h : v < 18446744073709551616) : sb v = true := decide_eq_true h
theorem sb_no {v : Nat} (h : ¬ v < 18446744073709551616) : sb v = false := decide_eq_false h

theorem small_any (A : Option Addr) (n c : Nat) (xs : List Nat) (w : World) (h : Rd w A n c xs) (hm : n ≤ 4194304) :
    Calls Try.prog 37 #[.slice A n c] w fun e w' => e = .returned (.tuple #[.int .u64 (sv (M.val xs) : Nat), .bool (sb (M.val xs))]) ∧ w = w' := by
  by_cases hv : M.val xs < 18446744073709551616
  · rw [sv_yes hv, sb_yes hv]
    exact small_yes A n c xs w h hm hv
  · rw [sv_no hv, sb_no hv]
    exact small_no A n c xs w h hm hv

end Go.Proofs.Ytbcceopgmkmbfaa
