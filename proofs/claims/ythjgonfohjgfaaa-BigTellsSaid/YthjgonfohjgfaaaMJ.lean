/- Rows of bits as numbers. -/
import Derived.Test.YthjgonfohjgfaaaMA
import Derived.Test.YthjgonfohjgfaaaMD
import Derived.Deep.LoopGhost
namespace Go.Proofs.Ythjgonfohjgfaaa
namespace M
set_option linter.unusedVariables false

def bval : List Bool → Nat
  | [] => 0
  | b :: bs => b.toNat + 2 * bval bs
theorem bval_cons (b : Bool) (bs : List Bool) : bval (b :: bs) = b.toNat + 2 * bval bs := rfl
theorem bval_one (b : Bool) : bval [b] = b.toNat := by simp [bval]
theorem bval_append (xs ys : List Bool) : bval (xs ++ ys) = bval xs + 2 ^ xs.length * bval ys := by
  induction xs with
  | nil => simp [bval]
  | cons x xs ih =>
    rw [List.cons_append, bval_cons, ih, bval_cons, List.length_cons, Nat.pow_succ]
    have : 2 ^ xs.length * 2 * bval ys = 2 * (2 ^ xs.length * bval ys) := by rw [Nat.mul_comm (2 ^ xs.length), Nat.mul_assoc]
    omega
theorem bval_lt (xs : List Bool) : bval xs < 2 ^ xs.length := by
  induction xs with
  | nil => decide
  | cons x xs ih =>
    rw [bval_cons, List.length_cons, Nat.pow_succ]
    have := Bool.toNat_lt x
    omega

/-- Without highest zeros. -/
def trB : List Bool → List Bool
  | [] => []
  | b :: bs => if b = false ∧ trB bs = [] then [] else b :: trB bs
theorem bval_trB (xs : List Bool) : bval (trB xs) = bval xs := by
  induction xs with
  | nil => rfl
  | cons x xs ih =>
    unfold trB
    split
    · rename_i h
      rw [bval_cons, ← ih, h.2, h.1]
      rfl
    · rw [bval_cons, bval_cons, ih]
theorem trB_length_le (xs : List Bool) : (trB xs).length ≤ xs.length := by
  induction xs with
  | nil => exact Nat.le_refl _
  | cons x xs ih =>
    unfold trB
    split
    · simp
    · simp; exact ih
theorem trB_prefix (xs : List Bool) : trB xs = xs.take (trB xs).length := by
  induction xs with
  | nil => rfl
  | cons x xs ih =>
    unfold trB
    split
    · rfl
    · rw [List.length_cons, List.take_succ_cons, ← ih]
theorem trB_snoc_false (xs : List Bool) : trB (xs ++ [false]) = trB xs := by
  induction xs with
  | nil => rfl
  | cons x xs ih => rw [List.cons_append, trB, ih, trB]
theorem trB_snoc_true (xs : List Bool) : trB (xs ++ [true]) = xs ++ [true] := by
  induction xs with
  | nil => rfl
  | cons x xs ih =>
    rw [List.cons_append, trB, ih, if_neg]
    intro h
    exact absurd h.2 (by simp)
theorem trB_trB (xs : List Bool) : trB (trB xs) = trB xs := by
  induction xs with
  | nil => rfl
  | cons x xs ih =>
    rw [trB]
    split
    · rfl
    · rename_i h
      rw [trB, ih, if_neg h]
/-- A row without highest zeros is none, or ends in a one. -/
theorem trB_last {xs : List Bool} (h : trB xs = xs) : xs = [] ∨ ∃ ys, xs = ys ++ [true] := by
  rcases List.eq_nil_or_concat xs with h0 | ⟨ys, b, hxs⟩
  · exact .inl h0
  · rw [List.concat_eq_append] at hxs
    subst hxs
    right
    cases b with
    | true => exact ⟨ys, rfl⟩
    | false =>
      exfalso
      rw [trB_snoc_false] at h
      have h1 := congrArg List.length h
      have h2 := trB_length_le ys
      simp at h1
      omega
theorem bval_ge {xs : List Bool} (h : trB xs = xs) (hn : xs ≠ []) : 2 ^ (xs.length - 1) ≤ bval xs := by
  rcases trB_last h with h0 | ⟨ys, rfl⟩
  · exact absurd h0 hn
  · rw [bval_append, bval_one]
    simp
theorem bval_zero {xs : List Bool} (h : trB xs = xs) : xs.length = 0 ↔ bval xs = 0 := by
  constructor
  · intro h0
    rw [List.eq_nil_of_length_eq_zero h0]
    rfl
  · intro h0
    refine Nat.eq_zero_of_not_pos fun hc => ?_
    have := bval_ge h (List.length_pos_iff.1 hc)
    have := Nat.pow_pos (n := xs.length - 1) (show 0 < 2 by omega)
    omega
theorem bval_len {xs : List Bool} {k : Nat} (h : trB xs = xs) (hk : bval xs < 2 ^ k) : xs.length ≤ k := by
  by_cases hn : xs = []
  · rw [hn]; simp
  · have h1 := bval_ge h hn
    have h2 := (Nat.pow_lt_pow_iff_right (a := 2) (by omega)).1 (Nat.lt_of_le_of_lt h1 hk)
    omega
theorem bval_lt_of_len {xs ys : List Bool} (hy : trB ys = ys) (h : xs.length < ys.length) : bval xs < bval ys := by
  have h1 := bval_lt xs
  have h2 := bval_ge hy (fun e => by rw [e] at h; simp at h)
  have h3 : 2 ^ xs.length ≤ 2 ^ (ys.length - 1) := Nat.pow_le_pow_right (by omega) (by omega)
  omega
theorem take_snoc {α : Type} {xs : List α} {k : Nat} {x : α} (h : xs[k]? = some x) : xs.take (k + 1) = xs.take k ++ [x] := by
  rw [List.take_add_one, h]
  rfl
theorem bval_take {xs : List Bool} {k : Nat} {x : Bool} (h : xs[k]? = some x) : bval (xs.take (k + 1)) = bval (xs.take k) + 2 ^ k * x.toNat := by
  have hk : k < xs.length := (List.getElem?_eq_some_iff.1 h).1
  rw [take_snoc h, bval_append, bval_one, List.length_take, Nat.min_eq_left (by omega)]

/-- Bits of a number, one by one. -/
def bitsOf (x : Nat) : Nat → List Bool
  | 0 => []
  | k + 1 => bitsOf x k ++ [decide (x / 2 ^ k % 2 = 1)]
theorem bitsOf_length (x k : Nat) : (bitsOf x k).length = k := by
  induction k with
  | zero => rfl
  | succ k ih => simp [bitsOf, ih]
theorem bitsOf_val (x k : Nat) : bval (bitsOf x k) = x % 2 ^ k := by
  induction k with
  | zero => simp [bitsOf, bval, Nat.mod_one]
  | succ k ih =>
    rw [bitsOf, bval_append, bval_one, ih, bitsOf_length, Nat.pow_succ, Nat.mod_mul]
    congr 2
    have : x / 2 ^ k % 2 < 2 := Nat.mod_lt _ (by omega)
    by_cases h : x / 2 ^ k % 2 = 1
    · rw [decide_eq_true h, h]; rfl
    · rw [decide_eq_false h]
      show 0 = _
      omega

/-- Taking away, one bit more. -/
theorem bsub_step {es bs zs : List Bool} {k : Nat} {x y z bo bo' : Bool} {A B : Nat} (hl : zs.length = k) (h : A + 2 ^ k * bo.toNat = bval zs + B) (hz : x.toNat + 2 * bo'.toNat = z.toNat + y.toNat + bo.toNat) :
    A + 2 ^ k * x.toNat + 2 ^ (k + 1) * bo'.toNat = bval (zs ++ [z]) + (B + 2 ^ k * y.toNat) := by
  rw [bval_append, bval_one, hl, Nat.pow_succ]
  have e1 : 2 ^ k * (x.toNat + 2 * bo'.toNat) = 2 ^ k * (z.toNat + y.toNat + bo.toNat) := by rw [hz]
  have e2 : 2 ^ k * (x.toNat + 2 * bo'.toNat) = 2 ^ k * x.toNat + 2 ^ k * 2 * bo'.toNat := by rw [Nat.mul_add, Nat.mul_assoc]
  have e3 : 2 ^ k * (z.toNat + y.toNat + bo.toNat) = 2 ^ k * z.toNat + 2 ^ k * y.toNat + 2 ^ k * bo.toNat := by rw [Nat.mul_add, Nat.mul_add]
  omega
end M
end Go.Proofs.Ythjgonfohjgfaaa

/- litmusref01: rows of bits: trim, at, Bits, Limbs. -/
namespace Go.Proofs.Ythjgonfohjgfaaa
open Go.RowKit
set_option linter.unusedVariables false

theorem wrapU32 (n : Int) : IntKind.u32.wrap n = n % 4294967296 := by simp [IntKind.wrap, IntKind.signed, IntKind.bits]
theorem and_u32_nat (a b : Nat) (ha : a < 4294967296) (hb : b < 4294967296) : bits .and .u32 (a : Int) (b : Int) = ((a &&& b : Nat) : Int) := by
  have h1 : BitVec.ofInt 32 (a : Int) = BitVec.ofNat 32 a := BitVec.ofInt_natCast ..
  have h2 : BitVec.ofInt 32 (b : Int) = BitVec.ofNat 32 b := BitVec.ofInt_natCast ..
  have h3 : a &&& b < 2 ^ 32 := Nat.and_lt_two_pow _ (by omega)
  show IntKind.u32.wrap ((BitVec.ofInt 32 (a : Int) &&& BitVec.ofInt 32 (b : Int)).toNat : Int) = _
  rw [BitVec.toNat_and, h1, h2, BitVec.toNat_ofNat, BitVec.toNat_ofNat, Nat.mod_eq_of_lt (by omega), Nat.mod_eq_of_lt (by omega)]
  rw [wrapU32]
  omega
theorem or_u32_nat (a b : Nat) (ha : a < 4294967296) (hb : b < 4294967296) : bits .or .u32 (a : Int) (b : Int) = ((a ||| b : Nat) : Int) := by
  have h1 : BitVec.ofInt 32 (a : Int) = BitVec.ofNat 32 a := BitVec.ofInt_natCast ..
  have h2 : BitVec.ofInt 32 (b : Int) = BitVec.ofNat 32 b := BitVec.ofInt_natCast ..
  have h3 : a ||| b < 2 ^ 32 := Nat.or_lt_two_pow (by omega) (by omega)
  show IntKind.u32.wrap ((BitVec.ofInt 32 (a : Int) ||| BitVec.ofInt 32 (b : Int)).toNat : Int) = _
  rw [BitVec.toNat_or, h1, h2, BitVec.toNat_ofNat, BitVec.toNat_ofNat, Nat.mod_eq_of_lt (by omega), Nat.mod_eq_of_lt (by omega)]
  rw [wrapU32]
  omega

def kBool : Kd Bool := ⟨fun b => .bool b, fun _ => True, 4, 67, false, 1, fun _ => rfl, Try.underlying67, by kernel_rfl, rfl, by decide⟩
abbrev RdB := RdK kBool
abbrev OwB := OwK kBool

section
variable {w w' : World} {A : Option Addr} {n c base : Nat} {bs : List Bool}
theorem RdK.atB (h : RdB w A n c bs) {i : Nat} (hi : i < n) : ∃ b o x, A = some ⟨b, o, none⟩ ∧ bs[i]? = some x ∧ w.cell? ⟨b, o + i, none⟩ = some (.bool x) := by
  obtain ⟨b, o, x, h1, h2, _, h3⟩ := h.at_ hi
  exact ⟨b, o, x, h1, h2, h3⟩
theorem OwK.shortB (h : OwB w base A n c bs) : OwB w base A (M.trB bs).length c (M.trB bs) := by
  have h1 := M.trB_length_le bs
  have h2 := OwK.take h (m := (M.trB bs).length) (by rw [← h.len]; exact h1)
  rw [← M.trB_prefix] at h2
  exact h2
theorem RdK.shortB (h : RdB w A n c bs) : RdB w A (M.trB bs).length c (M.trB bs) := by
  have h1 := M.trB_length_le bs
  have h2 := h.take (m := (M.trB bs).length) (by rw [← h.len]; exact h1)
  rw [← M.trB_prefix] at h2
  exact h2
end

set_option maxHeartbeats 1000000 in
theorem trimB_any (A : Option Addr) (n c : Nat) (bs : List Bool) (w : World) (h : RdB w A n c bs) (hm : n ≤ 4194304) :
    Calls Try.prog 80 #[.slice A n c] w fun e w' => e = .returned (.slice A (M.trB bs).length c) ∧ w = w' := by
  have hc := h.cap
  have H := Lib.hid h
  clear h
  go_enter Try.func80, Try.ntmps80
  go_wp2
  go_loop [0] (fun v => ∃ k : Nat, k ≤ n ∧ v = .slice A k c ∧ M.trB (bs.take k) = M.trB bs) (fun v => match v with | .slice _ k _ => k | _ => 0)
  case atStart => exact ⟨n, Nat.le_refl _, rfl, by rw [List.take_of_length_le (by rw [H.out.len]; exact Nat.le_refl _)]⟩
  case round =>
    obtain ⟨k, hk, rfl, ht⟩ := hrel
    have HT := Lib.hid ht
    clear ht
    by_cases h0 : k = 0
    · subst h0
      have HE := Lib.hid (show (M.trB bs).length = 0 by rw [← HT.out]; rfl)
      go_wp2
      go_ret
      exact ⟨ret_slice HE.out.symm, rfl⟩
    · obtain ⟨b, o, x, hA, hx, hcell⟩ := H.out.atB (show k - 1 < n by omega)
      subst hA
      have hk1 : 0 < k := by omega
      have HX := Lib.hid hx
      clear hx
      cases x with
      | false =>
        go_wp2
        go_round
        case rel => exact ⟨k - 1, by omega, by go_num, by rw [← HT.out, show k = k - 1 + 1 by omega, M.take_snoc HX.out, M.trB_snoc_false]; simp⟩
        case measure => simp; omega
      | true =>
        have hl : (M.trB bs).length = k := by
          rw [← HT.out, show k = k - 1 + 1 by omega, M.take_snoc HX.out, M.trB_snoc_true, ← M.take_snoc HX.out, List.length_take, H.out.len]
          omega
        have HL := Lib.hid hl
        clear hl
        go_wp2
        go_ret
        exact ⟨ret_slice HL.out.symm, rfl⟩

def bitAt (bs : List Bool) (i : Nat) : Bool := bs[i]?.getD false

set_option maxHeartbeats 1000000 in
theorem atB_any (A : Option Addr) (n c : Nat) (bs : List Bool) (i : Nat) (w : World) (h : RdB w A n c bs) (hm : n ≤ 4194304) :
    Calls Try.prog 108 #[.slice A n c, .int .i64 (i : Int)] w fun e w' => e = .returned (.bool (bitAt bs i)) ∧ w = w' := by
  by_cases hi : i < n
  · obtain ⟨b, o, x, hA, hx, hcell⟩ := h.atB hi
    subst hA
    have e : bitAt bs i = x := by unfold bitAt; rw [hx]; rfl
    rw [e]
    clear h hx e
    go_enter Try.func108, Try.ntmps108
    go_wp2
    go_ret
    exact ⟨rfl, rfl⟩
  · have e : bitAt bs i = false := by unfold bitAt; rw [List.getElem?_eq_none (by rw [h.len]; omega)]; rfl
    rw [e]
    clear h e
    go_enter Try.func108, Try.ntmps108
    go_wp2
    go_ret
    exact ⟨rfl, rfl⟩

/-- A call answers a new row of bits of this number, without highest zeros. -/
def GivesBits (w : World) (v : Nat) (e : Ending) (w' : World) : Prop := ∃ A n c bs, e = .returned (.slice A n c) ∧ OwB w' w.heap.size A n c bs ∧ M.trB bs = bs ∧ M.bval bs = v ∧ Below w.heap.size w w'

set_option maxHeartbeats 2000000 in
theorem bits_any (A : Option Addr) (n c : Nat) (xs : List Nat) (w : World) (h : Rd w A n c xs) (hm : n ≤ 1000) :
    Calls Try.prog 92 #[.slice A n c] w (GivesBits w (M.val xs)) := by
  have H := Lib.hid h
  clear h
  go_enter Try.func92, Try.ntmps92
  go_wp2
  go_loopg [3, 4] n (fun g v i wr => ∃ (k m cp : Nat) (B : Option Addr) (ds : List Bool), k ≤ n ∧ g = n - k ∧ i = .int .i64 (k : Int) ∧ v = .slice B m cp ∧ OwB wr w.heap.size B m cp ds ∧ ds.length = 32 * k ∧ M.bval ds = M.val (xs.take k) ∧ Below w.heap.size w wr)
  case atStart => exact ⟨0, 0, 0, none, [], by omega, rfl, rfl, rfl, OwK.nil_ _ _, rfl, rfl, Below.refl _ _⟩
  case round =>
    obtain ⟨k, m, cp, B, ds, hk, hg, rfl, rfl, ho, hl, hv, hb⟩ := hrel
    have HG := Lib.hid hg
    have HO := Lib.hid ho
    have HL := Lib.hid hl
    have HV := Lib.hid hv
    have HB := Lib.hid hb
    clear hg ho hl hv hb
    by_cases hkn : k < n
    · obtain ⟨b, o, x, hA, hx, hxl, hcell⟩ := H.out.at32 hkn
      subst hA
      rw [M.R_eq] at hxl
      have HX := Lib.hid hx
      have HC := Lib.hid hcell
      have HXL := Lib.hid hxl
      clear hx hcell
      go_wp2
      go_loopg [3, 5] 32 (fun g v i wr => ∃ (j m cp : Nat) (B : Option Addr) (es : List Bool), j ≤ 32 ∧ g = 32 - j ∧ i = .int .i64 (j : Int) ∧ v = .slice B m cp ∧ OwB wr w.heap.size B m cp (ds ++ es) ∧ es = M.bitsOf x j ∧ Below w.heap.size w wr)
      case atStart => exact ⟨0, m, cp, B, [], by omega, rfl, rfl, rfl, by rw [List.append_nil]; exact HO.out, rfl, HB.out⟩
      case round =>
        obtain ⟨j, m2, cp2, B2, es, hj, hg2, rfl, rfl, ho2, he2, hb2⟩ := hrel
        have hm2 : m2 ≤ 40000 := by have := ho2.len; rw [List.length_append, HL.out, he2, M.bitsOf_length] at this; omega
        have hcell2 : wr.cell? ⟨b, o + k, none⟩ = some (.int .u32 (x : Int)) := by
          obtain ⟨b9, o9, x9, hA9, hx9, _, hc9⟩ := (H.out.below hb2).at32 hkn
          injection hA9 with hA9
          injection hA9 with hA9 hA9'
          subst hA9 hA9'
          have := HX.out
          rw [hx9] at this
          injection this with this
          subst this
          exact hc9
        have HG2 := Lib.hid hg2
        have HO2 := Lib.hid ho2
        have HE2 := Lib.hid he2
        have HB2 := Lib.hid hb2
        clear hg2 ho2 he2 hb2
        by_cases hj32 : j < 32
        · obtain ⟨bt, hbt⟩ : ∃ bt : Bool, bt = decide (x / 2 ^ j % 2 = 1) := ⟨_, rfl⟩
          have hbit : (bits .and .u32 ((x : Int) / 2 ^ j) 1 == 1) = bt := by
            have e1 : ((x : Int) / 2 ^ j) = ((x / 2 ^ j : Nat) : Int) := by simp
            have e2 : (1 : Int) = ((1 : Nat) : Int) := rfl
            have h1 : x / 2 ^ j < 4294967296 := Nat.lt_of_le_of_lt (Nat.div_le_self _ _) HXL.out
            rw [e1, hbt]
            rw [show bits .and .u32 ((x / 2 ^ j : Nat) : Int) 1 = ((x / 2 ^ j % 2 : Nat) : Int) from by rw [e2, and_u32_nat _ 1 h1 (by omega), Nat.and_one_is_mod]]
            rw [Bool.eq_iff_iff]
            simp
            omega
          have HST := Lib.hid (show es ++ [bt] = M.bitsOf x (j + 1) by rw [hbt, HE2.out]; rfl)
          clear hbt
          go_wp2_with (at_builtin; refine app_own kBool _ rfl _ _ rfl w.heap.size B2 m2 cp2 (ds ++ es) rfl (HO2.out.alloc _) _ 1 1 [bt] rfl (RdK.one (K := kBool) _ bt trivial) (by omega) (by have := HB2.out.size; simp; omega) ?_; intro A3 c3 w3 ho3 hg3; have HO3 := Lib.hid ho3; have HG3 := Lib.hid hg3; clear ho3 hg3)
          go_roundg (32 - (j + 1))
          case measure => have := HG2.out; omega
          case rel =>
            refine ⟨j + 1, m2 + 1, c3, A3, es ++ [bt], by omega, rfl, by go_num, rfl, ?_, HST.out, below_app HB2.out HB2.out.size HO2.out HG3.out⟩
            rw [← List.append_assoc]
            exact HO3.out
        · obtain rfl : j = 32 := by omega
          have HV3 := Lib.hid (show M.bval (ds ++ es) = M.val (xs.take (k + 1)) by
            rw [M.bval_append, HV.out, HE2.out, M.bitsOf_val, HL.out, M.val_take_some HX.out, Nat.mod_eq_of_lt HXL.out, Nat.pow_mul]
            rfl)
          have HL3 := Lib.hid (show (ds ++ es).length = 32 * (k + 1) by rw [List.length_append, HL.out, HE2.out, M.bitsOf_length]; omega)
          clear hcell2
          go_wp2_with fail
          go_roundg (n - (k + 1))
          case measure => have := HG.out; omega
          case rel => exact ⟨k + 1, m2, cp2, B2, ds ++ es, by omega, rfl, by go_num, rfl, HO2.out, HL3.out, HV3.out, HB2.out⟩
    · obtain rfl : k = n := by omega
      have hv := HV.out
      rw [List.take_of_length_le (by rw [H.out.len]; exact Nat.le_refl _)] at hv
      have HV2 := Lib.hid hv
      have hml : m ≤ 4194304 := by have := HO.out.len; have := HL.out; omega
      clear hv HV
      go_wp2_with fail
      refine (trimB_any _ _ _ _ _ HO.out.rd hml).mono ?_
      rintro e w' ⟨rfl, rfl⟩
      go_wp2_with fail
      go_ret
      exact ⟨B, _, cp, M.trB ds, rfl, HO.out.shortB, M.trB_trB _, by rw [M.bval_trB]; exact HV2.out, HB.out⟩

end Go.Proofs.Ythjgonfohjgfaaa

/- litmusref01.Limbs: limbs of bits. -/
namespace Go.Proofs.Ythjgonfohjgfaaa
open Go.RowKit
set_option linter.unusedVariables false

namespace M
/-- The first i bits as limbs. -/
structure LbR (bs : List Bool) (i : Nat) (ys : List Nat) : Prop where
  len : ys.length = (i + 31) / 32
  lim : Lim ys
  eq : val ys = bval (bs.take i)

theorem LbR.zero (bs : List Bool) : LbR bs 0 [] := ⟨rfl, Lim.nil, rfl⟩
/-- A new limb. -/
theorem LbR.new {bs : List Bool} {i : Nat} {ys : List Nat} (h : LbR bs i ys) (h0 : i % 32 = 0) : (ys ++ [0]).length = i / 32 + 1 ∧ Lim (ys ++ [0]) ∧ val (ys ++ [0]) = bval (bs.take i) := by
  have := h.len
  refine ⟨by rw [List.length_append, h.len]; simp; omega, h.lim.append (Lim.cons R_pos Lim.nil), ?_⟩
  rw [val_append, h.eq]
  simp [val]
theorem two_pow_split (i : Nat) : 2 ^ i = R ^ (i / 32) * 2 ^ (i % 32) := by
  have : R = 2 ^ 32 := rfl
  rw [this, ← Nat.pow_mul, ← Nat.pow_add]
  congr 1
  omega
theorem val_set_add {ys : List Nat} {k y d : Nat} (hy : ys[k]? = some y) : val (ys.set k (y + d)) = val ys + R ^ k * d := by
  induction ys generalizing k with
  | nil => simp at hy
  | cons x xs ih =>
    cases k with
    | zero =>
      simp at hy
      subst hy
      simp only [List.set_cons_zero, val_cons, Nat.pow_zero, Nat.one_mul]
      omega
    | succ k =>
      simp only [List.set_cons_succ, val_cons]
      rw [ih (by simpa using hy), Nat.mul_add, Nat.pow_succ]
      have : R * (R ^ k * d) = R ^ k * R * d := by rw [← Nat.mul_assoc, Nat.mul_comm R]
      omega
theorem val_ge_limb {ys : List Nat} {k y : Nat} (hy : ys[k]? = some y) : R ^ k * y ≤ val ys := by
  induction ys generalizing k with
  | nil => simp at hy
  | cons x xs ih =>
    cases k with
    | zero =>
      simp at hy
      subst hy
      simp only [val_cons, Nat.pow_zero, Nat.one_mul]
      omega
    | succ k =>
      have := ih (k := k) (by simpa using hy)
      have h2 : R * (R ^ k * y) ≤ R * val xs := Nat.mul_le_mul_left _ this
      rw [Nat.pow_succ, val_cons]
      have h3 : R ^ k * R * y = R * (R ^ k * y) := by rw [← Nat.mul_assoc, Nat.mul_comm R]
      omega
/-- The limb that gets bit i holds only lower bits. -/
theorem limb_small {bs : List Bool} {i : Nat} {ys : List Nat} {y : Nat} (he : val ys = bval (bs.take i)) (hy : ys[i / 32]? = some y) : y < 2 ^ (i % 32) := by
  have h1 := val_ge_limb hy
  have h2 := bval_lt (bs.take i)
  have h3 : 2 ^ (bs.take i).length ≤ 2 ^ i := Nat.pow_le_pow_right (by omega) (by rw [List.length_take]; omega)
  rw [two_pow_split i] at h3
  have hP : 0 < R ^ (i / 32) := Nat.pow_pos R_pos
  exact Nat.lt_of_mul_lt_mul_left (a := R ^ (i / 32)) (by omega)
theorem LbR.one {bs : List Bool} {i : Nat} {ys : List Nat} {y : Nat} (hl : ys.length = i / 32 + 1) (hlim : Lim ys) (he : val ys = bval (bs.take i)) (hb : bs[i]? = some true) (hy : ys[i / 32]? = some y) : LbR bs (i + 1) (ys.set (i / 32) (y + 2 ^ (i % 32))) := by
  have hs := limb_small he hy
  have h32 : 2 ^ (i % 32) * 2 ≤ R := by
    have : 2 ^ (i % 32 + 1) ≤ 2 ^ 32 := Nat.pow_le_pow_right (by omega) (by omega)
    rw [Nat.pow_succ] at this
    exact this
  refine ⟨by rw [List.length_set, hl]; omega, ?_, ?_⟩
  · intro x hx
    rcases List.mem_or_eq_of_mem_set hx with hx | rfl
    · exact hlim x hx
    · omega
  · rw [val_set_add hy, he, bval_take hb, two_pow_split i]
    simp
theorem LbR.none {bs : List Bool} {i : Nat} {ys : List Nat} (hl : ys.length = i / 32 + 1) (hlim : Lim ys) (he : val ys = bval (bs.take i)) (hb : bs[i]? = some false) : LbR bs (i + 1) ys := by
  refine ⟨by omega, hlim, ?_⟩
  rw [he, bval_take hb]
  simp
theorem LbR.done {bs : List Bool} {ys : List Nat} (h : LbR bs bs.length ys) (ht : trB bs = bs) : ys = lims (bval bs) := by
  have he := h.eq
  rw [List.take_of_length_le (Nat.le_refl _)] at he
  by_cases h0 : bs = []
  · subst h0
    have : ys = [] := List.eq_nil_of_length_eq_zero (by rw [h.len]; rfl)
    rw [this]
    exact lims_zero.symm
  · have hge := bval_ge ht h0
    have hpos : 0 < bs.length := List.length_pos_iff.2 h0
    have hlen : ys.length ≤ (lims (bval bs)).length := by
      refine Nat.le_of_not_lt fun hc => ?_
      have h1 : (lims (bval bs)).length ≤ ys.length - 1 := by omega
      rw [lims_length_le, h.len] at h1
      have h2 : R ^ ((bs.length + 31) / 32 - 1) ≤ 2 ^ (bs.length - 1) := by
        have : R = 2 ^ 32 := rfl
        rw [this, ← Nat.pow_mul]
        exact Nat.pow_le_pow_right (by omega) (by omega)
      omega
    have e := tr_eq_lims h.lim
    rw [he] at e
    rw [← e]
    have h3 := tr_prefix ys
    rw [List.take_of_length_le (by rw [e]; exact hlen)] at h3
    exact h3.symm
end M

set_option maxHeartbeats 2000000 in
theorem limbs_any (A : Option Addr) (n c : Nat) (bs : List Bool) (w : World) (h : RdB w A n c bs) (hm : n ≤ 1000000) :
    Calls Try.prog 51 #[.slice A n c] w (Gives w (M.lims (M.bval bs))) := by
  have hl := M.trB_length_le bs
  rw [h.len] at hl
  have hs := h.shortB
  rw [← M.bval_trB]
  have ht := M.trB_trB bs
  have H := Lib.hid h
  clear h
  obtain ⟨ts, hts⟩ : ∃ ts, ts = M.trB bs := ⟨_, rfl⟩
  rw [← hts] at hs ht hl ⊢
  obtain ⟨m, hmm⟩ : ∃ m, m = ts.length := ⟨_, rfl⟩
  rw [← hmm] at hs hl
  have HTS := Lib.hid hts
  have HM := Lib.hid hmm
  have HS := Lib.hid hs
  have HT := Lib.hid ht
  clear hts hs ht hmm
  go_enter Try.func51, Try.ntmps51
  go_wp2_with fail
  refine (trimB_any _ _ _ _ _ H.out (by omega)).mono ?_
  rw [← HTS.out, ← HM.out]
  rintro e w' ⟨rfl, rfl⟩
  clear H HTS
  go_wp2_with fail
  go_loopw [3, 4] (fun v i wr => ∃ (k q cp : Nat) (B : Option Addr) (ys : List Nat), k ≤ m ∧ i = .int .i64 (k : Int) ∧ v = .slice B q cp ∧ Own wr w.heap.size B q cp ys ∧ M.LbR ts k ys ∧ Below w.heap.size w wr) (fun _ i _ => m - (intOf i).toNat)
  case atStart => exact ⟨0, 0, 0, none, [], by omega, rfl, rfl, OwK.nil_ _ _, M.LbR.zero _, Below.refl _ _⟩
  case round =>
    obtain ⟨k, q, cp, B, ys, hk, rfl, rfl, ho, hr, hb⟩ := hrel
    have hql : q ≤ 40000 := by have := ho.len; have := hr.len; omega
    have HO := Lib.hid ho
    have HR := Lib.hid hr
    have HB := Lib.hid hb
    clear ho hr hb
    by_cases hkm : k < m
    · obtain ⟨b, o, x, hA, hx, hcell⟩ := (HS.out.below HB.out).atB hkm
      subst hA
      have HX := Lib.hid hx
      have HC := Lib.hid (show ∀ w9, Below w.heap.size w w9 → w9.cell? ⟨b, o + k, none⟩ = some (.bool x) by
        intro w9 hb9
        obtain ⟨b9, o9, x9, hA9, hx9, hc9⟩ := (HS.out.below hb9).atB hkm
        injection hA9 with hA9
        injection hA9 with hA9 hA9'
        subst hA9 hA9'
        have := HX.out
        rw [hx9] at this
        injection this with this
        subst this
        exact hc9)
      clear hx
      obtain ⟨d, hd⟩ : ∃ d, d = k / 32 := ⟨_, rfl⟩
      obtain ⟨r, hr⟩ : ∃ r, r = k % 32 := ⟨_, rfl⟩
      obtain ⟨T, hT⟩ : ∃ T, T = 2 ^ r := ⟨_, rfl⟩
      have hr32 : r < 32 := by omega
      have hTl : T ≤ 2147483648 := by
        have : 2 ^ r ≤ 2 ^ 31 := Nat.pow_le_pow_right (by omega) (by omega)
        rw [hT]
        exact this
      have hT2 : (2 : Int) ^ r % 4294967296 = (T : Int) := by
        have e : (2 : Int) ^ r = ((2 ^ r : Nat) : Int) := by simp
        rw [e, ← hT]
        omega
      have hd1 : (k : Int) / 32 = (d : Int) := by omega
      have hr1 : (k : Int) % 32 = (r : Int) := by omega
      have hd2 : (k : Int).tdiv 32 = (d : Int) := by rw [Int.tdiv_eq_ediv_of_nonneg (by omega)]; omega
      have hr2 : (k : Int).tmod 32 = (r : Int) := by rw [Int.tmod_eq_emod_of_nonneg (by omega)]; omega
      have HDD := Lib.hid hd
      have HRR := Lib.hid hr
      have HTT := Lib.hid hT
      clear hd hr hT
      by_cases h0 : r = 0
      · obtain ⟨hl1, hlim1, hv1⟩ := HR.out.new (by rw [← HRR.out]; exact h0)
        have HL1 := Lib.hid hl1
        have HLIM1 := Lib.hid hlim1
        have HV1 := Lib.hid hv1
        have h0b : ((r : Int) == 0) = true := by simp; omega
        clear hl1 hlim1 hv1
        cases x with
        | false =>
          go_wp2_with (at_builtin; refine app_own kU32 _ rfl _ _ rfl w.heap.size B q cp ys rfl (HO.out.alloc _) _ 1 1 [0] rfl (RdK.one (K := kU32) _ 0 M.R_pos) (by omega) (by have := HB.out.size; simp; omega) ?_; intro A3 c3 w3 ho3 hg3; have hb3 := below_app HB.out HB.out.size HO.out hg3; have hc3 := HC.out w3 hb3; have HO3 := Lib.hid ho3; have HB3 := Lib.hid hb3; clear ho3 hg3 hb3)
          go_roundw
          case rel => exact ⟨k + 1, q + 1, c3, A3, ys ++ [0], by omega, by go_num, rfl, HO3.out, M.LbR.none HL1.out HLIM1.out HV1.out HX.out, HB3.out⟩
          case measure => simp [intOf]; omega
        | true =>
          go_wp2_with (at_builtin; refine app_own kU32 _ rfl _ _ rfl w.heap.size B q cp ys rfl (HO.out.alloc _) _ 1 1 [0] rfl (RdK.one (K := kU32) _ 0 M.R_pos) (by omega) (by have := HB.out.size; simp; omega) ?_; intro A3 c3 w3 ho3 hg3; have hb3 := below_app HB.out HB.out.size HO.out hg3; have hc3 := HC.out w3 hb3; have HO3 := Lib.hid ho3; have HB3 := Lib.hid hb3; clear ho3 hg3 hb3)
          obtain ⟨y, hy⟩ : ∃ y, (ys ++ [0])[d]? = some y := ⟨(ys ++ [0])[d]'(by rw [HL1.out, HDD.out]; omega), List.getElem?_eq_getElem _⟩
          obtain ⟨g, rfl, hg1, hg2⟩ := HO3.out.head (by have h9 := HO3.out.len; rw [HL1.out] at h9; omega)
          have hyd := hy
          rw [HDD.out] at hyd
          have hsm := M.limb_small HV1.out hyd
          rw [← HRR.out, ← HTT.out] at hsm
          have hst := M.LbR.one HL1.out HLIM1.out HV1.out HX.out hyd
          rw [← HDD.out, ← HRR.out, ← HTT.out] at hst
          have c1 := HO3.out.cellAt hy
          have f1 := HO3.out.frozenAt d
          simp only [kU32] at c1
          obtain ⟨z, hz⟩ : ∃ z, z = y + T := ⟨_, rfl⟩
          rw [← hz] at hst
          have hor : bits .or .u32 (y : Int) (T : Int) = (z : Int) := by
            rw [or_u32_nat y T (by omega) (by omega), hz]
            have := Nat.two_pow_add_eq_or_of_lt (i := r) (b := y) (by rw [← HTT.out]; exact hsm) 1
            rw [Nat.mul_one, ← HTT.out] at this
            rw [Nat.or_comm, ← this, Nat.add_comm]
          have hor1 : bits .or .u32 (y : Int) 1 = (z : Int) := by rw [← hor, HTT.out, h0]; rfl
          have hzl : z < M.R := by
            have hm9 : z ∈ (ys ++ [0]).set d z := List.mem_set (show d < (ys ++ [0]).length by rw [HL1.out, HDD.out]; omega) z
            exact hst.lim z hm9
          obtain ⟨ho4, hg4⟩ := HO3.out.set_ d z hzl
          have hdq : d < q + 1 := by have h9 := HO3.out.len; rw [HL1.out, ← HDD.out] at h9; omega
          have HO4 := Lib.hid ho4.drew
          have HB4 := Lib.hid ((HB3.out.setCell (p := ⟨g, d, none⟩) hg1 (.int .u32 (z : Int))).drew)
          have HST := Lib.hid hst
          clear ho4 hg4 hst hy hyd hz hsm hzl
          skip
          go_region
          go_wp2
          go_roundw
          case rel => exact ⟨k + 1, q + 1, _, _, _, by omega, by go_num, rfl, HO4.out, HST.out, HB4.out⟩
          case measure => simp [intOf]; omega
      · have h0b : ((r : Int) == 0) = false := by simp; omega
        have HL1 := Lib.hid (show ys.length = k / 32 + 1 by have := HR.out.len; have := HRR.out; omega)
        cases x with
        | false =>
          go_wp2
          go_roundw
          case rel => exact ⟨k + 1, q, cp, B, ys, by omega, by go_num, rfl, HO.out, M.LbR.none HL1.out HR.out.lim HR.out.eq HX.out, HB.out⟩
          case measure => simp [intOf]; omega
        | true =>
          obtain ⟨y, hy⟩ : ∃ y, (ys)[d]? = some y := ⟨(ys)[d]'(by rw [HL1.out, HDD.out]; omega), List.getElem?_eq_getElem _⟩
          obtain ⟨g, rfl, hg1, hg2⟩ := HO.out.head (by have h9 := HO.out.len; rw [HL1.out] at h9; omega)
          have hyd := hy
          rw [HDD.out] at hyd
          have hsm := M.limb_small HR.out.eq hyd
          rw [← HRR.out, ← HTT.out] at hsm
          have hst := M.LbR.one HL1.out HR.out.lim HR.out.eq HX.out hyd
          rw [← HDD.out, ← HRR.out, ← HTT.out] at hst
          have c1 := HO.out.cellAt hy
          have f1 := HO.out.frozenAt d
          simp only [kU32] at c1
          obtain ⟨z, hz⟩ : ∃ z, z = y + T := ⟨_, rfl⟩
          rw [← hz] at hst
          have hor : bits .or .u32 (y : Int) (T : Int) = (z : Int) := by
            rw [or_u32_nat y T (by omega) (by omega), hz]
            have := Nat.two_pow_add_eq_or_of_lt (i := r) (b := y) (by rw [← HTT.out]; exact hsm) 1
            rw [Nat.mul_one, ← HTT.out] at this
            rw [Nat.or_comm, ← this, Nat.add_comm]
          have hzl : z < M.R := by
            have hm9 : z ∈ (ys).set d z := List.mem_set (show d < (ys).length by rw [HL1.out, HDD.out]; omega) z
            exact hst.lim z hm9
          obtain ⟨ho4, hg4⟩ := HO.out.set_ d z hzl
          have hdq : d < q := by have h9 := HO.out.len; rw [HL1.out, ← HDD.out] at h9; omega
          have HO4 := Lib.hid ho4.drew
          have HB4 := Lib.hid ((HB.out.setCell (p := ⟨g, d, none⟩) hg1 (.int .u32 (z : Int))).drew)
          have HST := Lib.hid hst
          clear ho4 hg4 hst hy hyd hz hsm hzl
          go_wp2
          go_region
          go_wp2
          go_roundw
          case rel => exact ⟨k + 1, q, _, _, _, by omega, by go_num, rfl, HO4.out, HST.out, HB4.out⟩
          case measure => simp [intOf]; omega
    · obtain rfl : k = m := by omega
      have hd := HR.out
      rw [HM.out] at hd
      have HD := Lib.hid (hd.done HT.out)
      clear hd
      go_wp2
      go_ret
      rw [← HD.out, Gives_len HO.out.len]
      exact ⟨B, cp, rfl, HO.out, HB.out⟩

end Go.Proofs.Ythjgonfohjgfaaa
