/- litmusref01: rows of bits: trim, at, Bits, Limbs. -/
import Derived.Test.YtbcceopgmkmbfaaBMath
import Derived.Test.YtbcceopgmkmbfaaWDivLimb
import Derived.Deep.LoopGhost
namespace Go.Proofs.Ytbcceopgmkmbfaa
open Go.RowKit
set_option linter.unusedVariables false

theorem wrapU32 (n : Int) : IntKind.u32.wrap n = n % 4294967296 := by simp [IntKind.wrap, IntKind.signed, IntKind.bits]
theorem and_u32_nat (a b : Nat) (ha : a < 4294967296) (hb : b < 4294967296) : bits .and .u32 (a : Int) (b : Int) = ((a &&& b : Nat) : Int) := by
  have h1 : BitVec.ofInt 32 (a : Int) = BitVec.ofNat 32 a := BitVec.ofInt_natCast ..
  have h2 : BitVec.ofInt 32 (b : Int) = BitVec.ofNat 32 b := BitVec.ofInt_natCast ..
  have h3 : a &&& b < 2 ^ 32 := Nat.and_lt_two_pow _ (by omega)
  show IntKind.u32.wrap ((BitVec.ofInt 32 (a : Int) &&& BitVec.ofInt 32 (b : Int)).toNat : Int) = _
  rw [BitVec.toNat_and, h1, h2, BitVec.toNat_ofNat, BitVec.toNat_ofNat, Nat.mod_eq_of_lt (by omega), Nat.mod_eq_of_lt (by omega)]
  rw [wrapU32]
  omega
theorem or_u32_nat (a b : Nat) (ha : a < 4294967296) (hb : b < 4294967296) : bits .or .u32 (a : Int) (b : Int) = ((a ||| b : Nat) : Int) := by
  have h1 : BitVec.ofInt 32 (a : Int) = BitVec.ofNat 32 a := BitVec.ofInt_natCast ..
  have h2 : BitVec.ofInt 32 (b : Int) = BitVec.ofNat 32 b := BitVec.ofInt_natCast ..
  have h3 : a ||| b < 2 ^ 32 := Nat.or_lt_two_pow (by omega) (by omega)
  show IntKind.u32.wrap ((BitVec.ofInt 32 (a : Int) ||| BitVec.ofInt 32 (b : Int)).toNat : Int) = _
  rw [BitVec.toNat_or, h1, h2, BitVec.toNat_ofNat, BitVec.toNat_ofNat, Nat.mod_eq_of_lt (by omega), Nat.mod_eq_of_lt (by omega)]
  rw [wrapU32]
  omega

def kBool : Kd Bool := ⟨fun b => .bool b, fun _ => True, 4, 54, false, 1, fun _ => rfl, Try.underlying54, by kernel_rfl, rfl, by decide⟩
abbrev RdB := RdK kBool
abbrev OwB := OwK kBool

section
variable {w w' : World} {A : Option Addr} {n c base : Nat} {bs : List Bool}
theorem RdK.atB (h : RdB w A n c bs) {i : Nat} (hi : i < n) : ∃ b o x, A = some ⟨b, o, none⟩ ∧ bs[i]? = some x ∧ w.cell? ⟨b, o + i, none⟩ = some (.bool x) := by
  obtain ⟨b, o, x, h1, h2, _, h3⟩ := h.at_ hi
  exact ⟨b, o, x, h1, h2, h3⟩
theorem OwK.shortB (h : OwB w base A n c bs) : OwB w base A (M.trB bs).length c (M.trB bs) := by
  have h1 := M.trB_length_le bs
  have h2 := OwK.take h (m := (M.trB bs).length) (by rw [← h.len]; exact h1)
  rw [← M.trB_prefix] at h2
  exact h2
theorem RdK.shortB (h : RdB w A n c bs) : RdB w A (M.trB bs).length c (M.trB bs) := by
  have h1 := M.trB_length_le bs
  have h2 := h.take (m := (M.trB bs).length) (by rw [← h.len]; exact h1)
  rw [← M.trB_prefix] at h2
  exact h2
end

set_option maxHeartbeats 1000000 in
theorem trimB_any (A : Option Addr) (n c : Nat) (bs : List Bool) (w : World) (h : RdB w A n c bs) (hm : n ≤ 4194304) :
    Calls Try.prog 64 #[.slice A n c] w fun e w' => e = .returned (.slice A (M.trB bs).length c) ∧ w = w' := by
  have hc := h.cap
  have H := Lib.hid h
  clear h
  go_enter Try.func64, Try.ntmps64
  go_wp2
  go_loop [0] (fun v => ∃ k : Nat, k ≤ n ∧ v = .slice A k c ∧ M.trB (bs.take k) = M.trB bs) (fun v => match v with | .slice _ k _ => k | _ => 0)
  case atStart => exact ⟨n, Nat.le_refl _, rfl, by rw [List.take_of_length_le (by rw [H.out.len]; exact Nat.le_refl _)]⟩
  case round =>
    obtain ⟨k, hk, rfl, ht⟩ := hrel
    have HT := Lib.hid ht
    clear ht
    by_cases h0 : k = 0
    · subst h0
      have HE := Lib.hid (show (M.trB bs).length = 0 by rw [← HT.out]; rfl)
      go_wp2
      go_ret
      exact ⟨ret_slice HE.out.symm, rfl⟩
    · obtain ⟨b, o, x, hA, hx, hcell⟩ := H.out.atB (show k - 1 < n by omega)
      subst hA
      have hk1 : 0 < k := by omega
      have HX := Lib.hid hx
      clear hx
      cases x with
      | false =>
        go_wp2
        go_round
        case rel => exact ⟨k - 1, by omega, by go_num, by rw [← HT.out, show k = k - 1 + 1 by omega, M.take_snoc HX.out, M.trB_snoc_false]; simp⟩
        case measure => simp; omega
      | true =>
        have hl : (M.trB bs).length = k := by
          rw [← HT.out, show k = k - 1 + 1 by omega, M.take_snoc HX.out, M.trB_snoc_true, ← M.take_snoc HX.out, List.length_take, H.out.len]
          omega
        have HL := Lib.hid hl
        clear hl
        go_wp2
        go_ret
        exact ⟨ret_slice HL.out.symm, rfl⟩

def bitAt (bs : List Bool) (i : Nat) : Bool := bs[i]?.getD false

set_option maxHeartbeats 1000000 in
theorem atB_any (A : Option Addr) (n c : Nat) (bs : List Bool) (i : Nat) (w : World) (h : RdB w A n c bs) (hm : n ≤ 4194304) :
    Calls Try.prog 65 #[.slice A n c, .int .i64 (i : Int)] w fun e w' => e = .returned (.bool (bitAt bs i)) ∧ w = w' := by
  by_cases hi : i < n
  · obtain ⟨b, o, x, hA, hx, hcell⟩ := h.atB hi
    subst hA
    have e : bitAt bs i = x := by unfold bitAt; rw [hx]; rfl
    rw [e]
    clear h hx e
    go_enter Try.func65, Try.ntmps65
    go_wp2
    go_ret
    exact ⟨rfl, rfl⟩
  · have e : bitAt bs i = false := by unfold bitAt; rw [List.getElem?_eq_none (by rw [h.len]; omega)]; rfl
    rw [e]
    clear h e
    go_enter Try.func65, Try.ntmps65
    go_wp2
    go_ret
    exact ⟨rfl, rfl⟩

/-- A call answers a new row of bits of this number, without highest zeros. -/
def GivesBits (w : World) (v : Nat) (e : Ending) (w' : World) : Prop := ∃ A n c bs, e = .returned (.slice A n c) ∧ OwB w' w.heap.size A n c bs ∧ M.trB bs = bs ∧ M.bval bs = v ∧ Below w.heap.size w w'

set_option maxHeartbeats 2000000 in
theorem bits_any (A : Option Addr) (n c : Nat) (xs : List Nat) (w : World) (h : Rd w A n c xs) (hm : n ≤ 1000) :
    Calls Try.prog 43 #[.slice A n c] w (GivesBits w (M.val xs)) := by
  have H := Lib.hid h
  clear h
  go_enter Try.func43, Try.ntmps43
  go_wp2
  go_loopg [3, 4] n (fun g v i wr => ∃ (k m cp : Nat) (B : Option Addr) (ds : List Bool), k ≤ n ∧ g = n - k ∧ i = .int .i64 (k : Int) ∧ v = .slice B m cp ∧ OwB wr w.heap.size B m cp ds ∧ ds.length = 32 * k ∧ M.bval ds = M.val (xs.take k) ∧ Below w.heap.size w wr)
  case atStart => exact ⟨0, 0, 0, none, [], by omega, rfl, rfl, rfl, OwK.nil_ _ _, rfl, rfl, Below.refl _ _⟩
  case round =>
    obtain ⟨k, m, cp, B, ds, hk, hg, rfl, rfl, ho, hl, hv, hb⟩ := hrel
    have HG := Lib.hid hg
    have HO := Lib.hid ho
    have HL := Lib.hid hl
    have HV := Lib.hid hv
    have HB := Lib.hid hb
    clear hg ho hl hv hb
    by_cases hkn : k < n
    · obtain ⟨b, o, x, hA, hx, hxl, hcell⟩ := H.out.at32 hkn
      subst hA
      rw [M.R_eq] at hxl
      have HX := Lib.hid hx
      have HC := Lib.hid hcell
      have HXL := Lib.hid hxl
      clear hx hcell
      go_wp2
      go_loopg [3, 5] 32 (fun g v i wr => ∃ (j m cp : Nat) (B : Option Addr) (es : List Bool), j ≤ 32 ∧ g = 32 - j ∧ i = .int .i64 (j : Int) ∧ v = .slice B m cp ∧ OwB wr w.heap.size B m cp (ds ++ es) ∧ es = M.bitsOf x j ∧ Below w.heap.size w wr)
      case atStart => exact ⟨0, m, cp, B, [], by omega, rfl, rfl, rfl, by rw [List.append_nil]; exact HO.out, rfl, HB.out⟩
      case round =>
        obtain ⟨j, m2, cp2, B2, es, hj, hg2, rfl, rfl, ho2, he2, hb2⟩ := hrel
        have hm2 : m2 ≤ 40000 := by have := ho2.len; rw [List.length_append, HL.out, he2, M.bitsOf_length] at this; omega
        have hcell2 : wr.cell? ⟨b, o + k, none⟩ = some (.int .u32 (x : Int)) := by
          obtain ⟨b9, o9, x9, hA9, hx9, _, hc9⟩ := (H.out.below hb2).at32 hkn
          injection hA9 with hA9
          injection hA9 with hA9 hA9'
          subst hA9 hA9'
          have := HX.out
          rw [hx9] at this
          injection this with this
          subst this
          exact hc9
        have HG2 := Lib.hid hg2
        have HO2 := Lib.hid ho2
        have HE2 := Lib.hid he2
        have HB2 := Lib.hid hb2
        clear hg2 ho2 he2 hb2
        by_cases hj32 : j < 32
        · obtain ⟨bt, hbt⟩ : ∃ bt : Bool, bt = decide (x / 2 ^ j % 2 = 1) := ⟨_, rfl⟩
          have hbit : (bits .and .u32 ((x : Int) / 2 ^ j) 1 == 1) = bt := by
            have e1 : ((x : Int) / 2 ^ j) = ((x / 2 ^ j : Nat) : Int) := by simp
            have e2 : (1 : Int) = ((1 : Nat) : Int) := rfl
            have h1 : x / 2 ^ j < 4294967296 := Nat.lt_of_le_of_lt (Nat.div_le_self _ _) HXL.out
            rw [e1, hbt]
            rw [show bits .and .u32 ((x / 2 ^ j : Nat) : Int) 1 = ((x / 2 ^ j % 2 : Nat) : Int) from by rw [e2, and_u32_nat _ 1 h1 (by omega), Nat.and_one_is_mod]]
            rw [Bool.eq_iff_iff]
            simp
            omega
          have HST := Lib.hid (show es ++ [bt] = M.bitsOf x (j + 1) by rw [hbt, HE2.out]; rfl)
          clear hbt
          go_wp2_with (at_builtin; refine app_own kBool _ rfl _ _ rfl w.heap.size B2 m2 cp2 (ds ++ es) rfl (HO2.out.alloc _) _ 1 1 [bt] rfl (RdK.one (K := kBool) _ bt trivial) (by omega) (by have := HB2.out.size; simp; omega) ?_; intro A3 c3 w3 ho3 hg3; have HO3 := Lib.hid ho3; have HG3 := Lib.hid hg3; clear ho3 hg3)
          go_roundg (32 - (j + 1))
          case measure => have := HG2.out; omega
          case rel =>
            refine ⟨j + 1, m2 + 1, c3, A3, es ++ [bt], by omega, rfl, by go_num, rfl, ?_, HST.out, below_app HB2.out HB2.out.size HO2.out HG3.out⟩
            rw [← List.append_assoc]
            exact HO3.out
        · obtain rfl : j = 32 := by omega
          have HV3 := Lib.hid (show M.bval (ds ++ es) = M.val (xs.take (k + 1)) by
            rw [M.bval_append, HV.out, HE2.out, M.bitsOf_val, HL.out, M.val_take_some HX.out, Nat.mod_eq_of_lt HXL.out, Nat.pow_mul]
            rfl)
          have HL3 := Lib.hid (show (ds ++ es).length = 32 * (k + 1) by rw [List.length_append, HL.out, HE2.out, M.bitsOf_length]; omega)
          clear hcell2
          go_wp2_with fail
          go_roundg (n - (k + 1))
          case measure => have := HG.out; omega
          case rel => exact ⟨k + 1, m2, cp2, B2, ds ++ es, by omega, rfl, by go_num, rfl, HO2.out, HL3.out, HV3.out, HB2.out⟩
    · obtain rfl : k = n := by omega
      have hv := HV.out
      rw [List.take_of_length_le (by rw [H.out.len]; exact Nat.le_refl _)] at hv
      have HV2 := Lib.hid hv
      have hml : m ≤ 4194304 := by have := HO.out.len; have := HL.out; omega
      clear hv HV
      go_wp2_with fail
      refine (trimB_any _ _ _ _ _ HO.out.rd hml).mono ?_
      rintro e w' ⟨rfl, rfl⟩
      go_wp2_with fail
      go_ret
      exact ⟨B, _, cp, M.trB ds, rfl, HO.out.shortB, M.trB_trB _, by rw [M.bval_trB]; exact HV2.out, HB.out⟩

end Go.Proofs.Ytbcceopgmkmbfaa
