/- litmusref01.add: rows of bits are added. -/
import Derived.Test.YtbcceopgmkmbfaaWDivB
namespace Go.Proofs.Ytbcceopgmkmbfaa
open Go.RowKit
set_option linter.unusedVariables false

theorem M.badd_step {zs : List Bool} {k : Nat} {x y z ca ca' : Bool} {A B : Nat} (hl : zs.length = k) (h : A + B = M.bval zs + 2 ^ k * ca.toNat) (hz : x.toNat + y.toNat + ca.toNat = z.toNat + 2 * ca'.toNat) :
    A + 2 ^ k * x.toNat + (B + 2 ^ k * y.toNat) = M.bval (zs ++ [z]) + 2 ^ (k + 1) * ca'.toNat := by
  rw [M.bval_append, M.bval_one, hl, Nat.pow_succ]
  have e1 : 2 ^ k * (x.toNat + y.toNat + ca.toNat) = 2 ^ k * (z.toNat + 2 * ca'.toNat) := by rw [hz]
  have e2 : 2 ^ k * (x.toNat + y.toNat + ca.toNat) = 2 ^ k * x.toNat + 2 ^ k * y.toNat + 2 ^ k * ca.toNat := by rw [Nat.mul_add, Nat.mul_add]
  have e3 : 2 ^ k * (z.toNat + 2 * ca'.toNat) = 2 ^ k * z.toNat + 2 ^ k * 2 * ca'.toNat := by rw [Nat.mul_add, Nat.mul_assoc]
  omega
theorem bitAt_out {bs : List Bool} {k : Nat} (h : bs.length ≤ k) : bitAt bs k = false := by unfold bitAt; rw [List.getElem?_eq_none h]; rfl

/-- A new row of bits of this number, of so many at most; there may be highest zeros. -/
def GivesAdd (w : World) (k v : Nat) (e : Ending) (w' : World) : Prop := ∃ C p q zs, e = .returned (.slice C p q) ∧ OwB w' w.heap.size C p q zs ∧ p ≤ k ∧ M.bval zs = v ∧ Below w.heap.size w w'

set_option maxHeartbeats 8000000 in
theorem addB_any (A : Option Addr) (n c : Nat) (es : List Bool) (B : Option Addr) (m d : Nat) (bs : List Bool) (w : World) (h : RdB w A n c es) (k : RdB w B m d bs) (hn : n ≤ 1000000) (hm : m ≤ 1000000) :
    Calls Try.prog 52 #[.slice A n c, .slice B m d] w (GivesAdd w (max n m + 1) (M.bval es + M.bval bs)) := by
  have H := Lib.hid h
  have K := Lib.hid k
  clear h k
  obtain ⟨mx, hmx⟩ : ∃ mx, mx = max n m := ⟨_, rfl⟩
  rw [← hmx]
  have hmn : n ≤ mx := by omega
  have hmm : m ≤ mx := by omega
  have hmxl : mx ≤ 1000000 := by omega
  clear hmx
  go_enter Try.func52, Try.ntmps52
  go_wp2
  go_loopw [5, 6, 7] (fun v q i wr => ∃ (k p cp : Nat) (ca : Bool) (D : Option Addr) (zs : List Bool), k ≤ mx + 1 ∧ (mx < k → ca = false) ∧ i = .int .i64 (k : Int) ∧ q = .bool ca ∧ v = .slice D p cp ∧ OwB wr w.heap.size D p cp zs ∧ zs.length = k ∧ M.bval (es.take k) + M.bval (bs.take k) = M.bval zs + 2 ^ k * ca.toNat ∧ Below w.heap.size w wr) (fun _ _ i _ => mx + 1 - (intOf i).toNat)
  case atStart => exact ⟨0, 0, 0, false, none, [], by omega, fun _ => rfl, rfl, rfl, rfl, OwK.nil_ _ _, rfl, rfl, Below.refl _ _⟩
  case round =>
    obtain ⟨k, p, cp, ca, D, zs, hk, hfa, rfl, rfl, rfl, ho, hl, hv, hb⟩ := hrel
    have hpk : p ≤ 1000001 := by have := ho.len; omega
    have HFA := Lib.hid hfa
    have HO := Lib.hid ho
    have HL := Lib.hid hl
    have HV := Lib.hid hv
    have HB := Lib.hid hb
    have HRA := Lib.hid (H.out.below hb)
    have HRB := Lib.hid (K.out.below hb)
    clear ho hl hv hb hfa
    obtain ⟨x, hx⟩ : ∃ x, x = bitAt es k := ⟨_, rfl⟩
    obtain ⟨y, hy⟩ : ∃ y, y = bitAt bs k := ⟨_, rfl⟩
    have HQA := Lib.hid (show Calls Try.prog 65 #[.slice A n c, .int .i64 (k : Int)] wr fun e w' => e = .returned (.bool x) ∧ wr = w' by rw [hx]; exact atB_any _ _ _ _ _ _ HRA.out (by omega))
    have HQB := Lib.hid (show Calls Try.prog 65 #[.slice B m d, .int .i64 (k : Int)] wr fun e w' => e = .returned (.bool y) ∧ wr = w' by rw [hy]; exact atB_any _ _ _ _ _ _ HRB.out (by omega))
    have HST := Lib.hid (show ∀ z ca' : Bool, x.toNat + y.toNat + ca.toNat = z.toNat + 2 * ca'.toNat → M.bval (es.take (k + 1)) + M.bval (bs.take (k + 1)) = M.bval (zs ++ [z]) + 2 ^ (k + 1) * ca'.toNat by
      intro z ca' hz
      rw [bval_take_at, bval_take_at, ← hx, ← hy]
      exact M.badd_step HL.out HV.out hz)
    have HXO := Lib.hid (show n ≤ k → x = false from fun h9 => by rw [hx]; exact bitAt_out (by rw [H.out.len]; exact h9))
    have HYO := Lib.hid (show m ≤ k → y = false from fun h9 => by rw [hy]; exact bitAt_out (by rw [K.out.len]; exact h9))
    clear hx hy
    have step : (k < n ∨ k < m ∨ ca = true) → k < mx + 1 := by
      intro h9
      rcases h9 with h9 | h9 | h9
      · omega
      · omega
      · refine Nat.lt_of_not_le fun hc => ?_
        have := HFA.out (by omega)
        rw [this] at h9
        cases h9
    have HSTEP := Lib.hid step
    clear step
    by_cases hgo : k < n ∨ k < m ∨ ca = true
    · have hkx := HSTEP.out hgo
      by_cases hkn : k < n <;> by_cases hkm : k < m <;> cases ca <;> first | (exfalso; simp at hgo; omega) | skip
      all_goals
        clear hgo
        go_wp2_with fail
        refine (HQA.out).mono ?_
        rintro e w' ⟨rfl, rfl⟩
        go_wp2_with fail
        refine (HQB.out).mono ?_
        rintro e w' ⟨rfl, rfl⟩
        cases x <;> cases y
        all_goals
          go_wp2_with (at_builtin; refine app_own kBool _ rfl _ _ rfl w.heap.size D p cp zs rfl (HO.out.alloc _) _ 1 1 [_] rfl (RdK.one (K := kBool) _ _ trivial) (by omega) (by have := HB.out.size; simp; omega) ?_; intro A3 c3 w3 ho3 hg3; have HO3 := Lib.hid ho3; have HG3 := Lib.hid hg3; clear ho3 hg3)
          go_roundw
          case rel => exact ⟨k + 1, p + 1, c3, _, A3, _, by omega, fun h9 => (by first | rfl | (have h8 := HXO.out (by omega); exact absurd h8 (by decide)) | (have h8 := HYO.out (by omega); exact absurd h8 (by decide))), by go_num, rfl, rfl, HO3.out, by simp [HL.out], HST.out _ _ rfl, below_app HB.out HB.out.size HO.out HG3.out⟩
          case measure => simp [intOf]; omega
    · obtain ⟨h1, h2⟩ : ¬ k < n ∧ ¬ k < m := ⟨fun h9 => hgo (.inl h9), fun h9 => hgo (.inr (.inl h9))⟩
      obtain rfl : ca = false := by cases ca with
        | false => rfl
        | true => exact absurd (.inr (.inr rfl)) hgo
      have hv := HV.out
      rw [List.take_of_length_le (by rw [H.out.len]; omega), List.take_of_length_le (by rw [K.out.len]; omega)] at hv
      have HF := Lib.hid (show M.bval zs = M.bval es + M.bval bs by simp at hv; omega)
      have hpm : p ≤ mx + 1 := by have := HO.out.len; have := HL.out; omega
      clear hv hgo
      go_wp2
      go_ret
      exact ⟨D, p, cp, zs, rfl, HO.out, hpm, HF.out, HB.out⟩

end Go.Proofs.Ytbcceopgmkmbfaa
