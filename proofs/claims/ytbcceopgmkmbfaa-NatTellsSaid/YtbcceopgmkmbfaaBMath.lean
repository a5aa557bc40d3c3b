/- Rows of bits as numbers. -/
import Derived.Test.YtbcceopgmkmbfaaMath
namespace Go.Proofs.Ytbcceopgmkmbfaa
namespace M
set_option linter.unusedVariables false

def bval : List Bool → Nat
  | [] => 0
  | b :: bs => b.toNat + 2 * bval bs
theorem bval_cons (b : Bool) (bs : List Bool) : bval (b :: bs) = b.toNat + 2 * bval bs := rfl
theorem bval_one (b : Bool) : bval [b] = b.toNat := by simp [bval]
theorem bval_append (xs ys : List Bool) : bval (xs ++ ys) = bval xs + 2 ^ xs.length * bval ys := by
  induction xs with
  | nil => simp [bval]
  | cons x xs ih =>
    rw [List.cons_append, bval_cons, ih, bval_cons, List.length_cons, Nat.pow_succ]
    have : 2 ^ xs.length * 2 * bval ys = 2 * (2 ^ xs.length * bval ys) := by rw [Nat.mul_comm (2 ^ xs.length), Nat.mul_assoc]
    omega
theorem bval_lt (xs : List Bool) : bval xs < 2 ^ xs.length := by
  induction xs with
  | nil => decide
  | cons x xs ih =>
    rw [bval_cons, List.length_cons, Nat.pow_succ]
    have := Bool.toNat_lt x
    omega

/-- Without highest zeros. -/
def trB : List Bool → List Bool
  | [] => []
  | b :: bs => if b = false ∧ trB bs = [] then [] else b :: trB bs
theorem bval_trB (xs : List Bool) : bval (trB xs) = bval xs := by
  induction xs with
  | nil => rfl
  | cons x xs ih =>
    unfold trB
    split
    · rename_i h
      rw [bval_cons, ← ih, h.2, h.1]
      rfl
    · rw [bval_cons, bval_cons, ih]
theorem trB_length_le (xs : List Bool) : (trB xs).length ≤ xs.length := by
  induction xs with
  | nil => exact Nat.le_refl _
  | cons x xs ih =>
    unfold trB
    split
    · simp
    · simp; exact ih
theorem trB_prefix (xs : List Bool) : trB xs = xs.take (trB xs).length := by
  induction xs with
  | nil => rfl
  | cons x xs ih =>
    unfold trB
    split
    · rfl
    · rw [List.length_cons, List.take_succ_cons, ← ih]
theorem trB_snoc_false (xs : List Bool) : trB (xs ++ [false]) = trB xs := by
  induction xs with
  | nil => rfl
  | cons x xs ih => rw [List.cons_append, trB, ih, trB]
theorem trB_snoc_true (xs : List Bool) : trB (xs ++ [true]) = xs ++ [true] := by
  induction xs with
  | nil => rfl
  | cons x xs ih =>
    rw [List.cons_append, trB, ih, if_neg]
    intro h
    exact absurd h.2 (by simp)
theorem trB_trB (xs : List Bool) : trB (trB xs) = trB xs := by
  induction xs with
  | nil => rfl
  | cons x xs ih =>
    rw [trB]
    split
    · rfl
    · rename_i h
      rw [trB, ih, if_neg h]
/-- A row without highest zeros is none, or ends in a one. -/
theorem trB_last {xs : List Bool} (h : trB xs = xs) : xs = [] ∨ ∃ ys, xs = ys ++ [true] := by
  rcases List.eq_nil_or_concat xs with h0 | ⟨ys, b, hxs⟩
  · exact .inl h0
  · rw [List.concat_eq_append] at hxs
    subst hxs
    right
    cases b with
    | true => exact ⟨ys, rfl⟩
    | false =>
      exfalso
      rw [trB_snoc_false] at h
      have h1 := congrArg List.length h
      have h2 := trB_length_le ys
      simp at h1
      omega
theorem bval_ge {xs : List Bool} (h : trB xs = xs) (hn : xs ≠ []) : 2 ^ (xs.length - 1) ≤ bval xs := by
  rcases trB_last h with h0 | ⟨ys, rfl⟩
  · exact absurd h0 hn
  · rw [bval_append, bval_one]
    simp
theorem bval_zero {xs : List Bool} (h : trB xs = xs) : xs.length = 0 ↔ bval xs = 0 := by
  constructor
  · intro h0
    rw [List.eq_nil_of_length_eq_zero h0]
    rfl
  · intro h0
    refine Nat.eq_zero_of_not_pos fun hc => ?_
    have := bval_ge h (List.length_pos_iff.1 hc)
    have := Nat.pow_pos (n := xs.length - 1) (show 0 < 2 by omega)
    omega
theorem bval_len {xs : List Bool} {k : Nat} (h : trB xs = xs) (hk : bval xs < 2 ^ k) : xs.length ≤ k := by
  by_cases hn : xs = []
  · rw [hn]; simp
  · have h1 := bval_ge h hn
    have h2 := (Nat.pow_lt_pow_iff_right (a := 2) (by omega)).1 (Nat.lt_of_le_of_lt h1 hk)
    omega
theorem bval_lt_of_len {xs ys : List Bool} (hy : trB ys = ys) (h : xs.length < ys.length) : bval xs < bval ys := by
  have h1 := bval_lt xs
  have h2 := bval_ge hy (fun e => by rw [e] at h; simp at h)
  have h3 : 2 ^ xs.length ≤ 2 ^ (ys.length - 1) := Nat.pow_le_pow_right (by omega) (by omega)
  omega
theorem take_snoc {α : Type} {xs : List α} {k : Nat} {x : α} (h : xs[k]? = some x) : xs.take (k + 1) = xs.take k ++ [x] := by
  rw [List.take_add_one, h]
  rfl
theorem bval_take {xs : List Bool} {k : Nat} {x : Bool} (h : xs[k]? = some x) : bval (xs.take (k + 1)) = bval (xs.take k) + 2 ^ k * x.toNat := by
  have hk : k < xs.length := (List.getElem?_eq_some_iff.1 h).1
  rw [take_snoc h, bval_append, bval_one, List.length_take, Nat.min_eq_left (by omega)]

/-- Bits of a number, one by one. -/
def bitsOf (x : Nat) : Nat → List Bool
  | 0 => []
  | k + 1 => bitsOf x k ++ [decide (x / 2 ^ k % 2 = 1)]
theorem bitsOf_length (x k : Nat) : (bitsOf x k).length = k := by
  induction k with
  | zero => rfl
  | succ k ih => simp [bitsOf, ih]
theorem bitsOf_val (x k : Nat) : bval (bitsOf x k) = x % 2 ^ k := by
  induction k with
  | zero => simp [bitsOf, bval, Nat.mod_one]
  | succ k ih =>
    rw [bitsOf, bval_append, bval_one, ih, bitsOf_length, Nat.pow_succ, Nat.mod_mul]
    congr 2
    have : x / 2 ^ k % 2 < 2 := Nat.mod_lt _ (by omega)
    by_cases h : x / 2 ^ k % 2 = 1
    · rw [decide_eq_true h, h]; rfl
    · rw [decide_eq_false h]
      show 0 = _
      omega

/-- Taking away, one bit more. -/
theorem bsub_step {es bs zs : List Bool} {k : Nat} {x y z bo bo' : Bool} {A B : Nat} (hl : zs.length = k) (h : A + 2 ^ k * bo.toNat = bval zs + B) (hz : x.toNat + 2 * bo'.toNat = z.toNat + y.toNat + bo.toNat) :
    A + 2 ^ k * x.toNat + 2 ^ (k + 1) * bo'.toNat = bval (zs ++ [z]) + (B + 2 ^ k * y.toNat) := by
  rw [bval_append, bval_one, hl, Nat.pow_succ]
  have e1 : 2 ^ k * (x.toNat + 2 * bo'.toNat) = 2 ^ k * (z.toNat + y.toNat + bo.toNat) := by rw [hz]
  have e2 : 2 ^ k * (x.toNat + 2 * bo'.toNat) = 2 ^ k * x.toNat + 2 ^ k * 2 * bo'.toNat := by rw [Nat.mul_add, Nat.mul_assoc]
  have e3 : 2 ^ k * (z.toNat + y.toNat + bo.toNat) = 2 ^ k * z.toNat + 2 ^ k * y.toNat + 2 ^ k * bo.toNat := by rw [Nat.mul_add, Nat.mul_add]
  omega
end M
end Go.Proofs.Ytbcceopgmkmbfaa
