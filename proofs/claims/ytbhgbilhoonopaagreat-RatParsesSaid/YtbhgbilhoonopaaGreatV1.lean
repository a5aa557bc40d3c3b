/- Contracts of the program's functions, as far as the claims ask for them (1 of 6). -/
import Derived.Below
import Derived.BigQuiet
import Derived.ChangeAlike
import Derived.Deep.QuietTactic
import Derived.Laws.AppendOwnNone
import Derived.Laws.BytesArg
import Derived.Lib.Hide
import Derived.Lib.IndexBytes
import Derived.Lib.SmallJoins
import Derived.LoopIn
import Derived.LoopNIn
import Derived.Maps.AppendAt
import Derived.OpenShut
import Derived.OwnWalkIn
import Derived.RangeFuncBound
import Derived.RangeFuncCalls
import Derived.RangeFuncLeaves
import Derived.RangeFuncNested
import Derived.RegionTactic
import Derived.Shelf.Abstract
import Derived.Shelf.RegionOpen
import Derived.TacticsInMore
import Derived.Test.YtbhgbilhoonopaaGreatProg
import Derived.WalkKit
import Derived.WalkLawsBesides
import Derived.WalkSpells
/-
 Plain mathematics of rows of limbs (base 2^32, the lowest first); nothing of the program stands here.
-/
namespace Go.Proofs.YtbhgbilhoonopaaGreat
namespace M
set_option linter.unusedVariables false

/-- The base of limbs. -/
def R : Nat := 4294967296
theorem R_pos : 0 < R := by decide
theorem R_eq : R = 4294967296 := rfl

/-- A row's number. -/
def val : List Nat → Nat
 | [] => 0
 | x :: xs => x + R * val xs

/-- All limbs are limbs. -/
def Lim (xs : List Nat) : Prop := ∀ x ∈ xs, x < R

/-- A row without noughts at its high end. -/
def tr : List Nat → List Nat
 | [] => []
 | x :: xs => if x = 0 ∧ tr xs = [] then [] else x :: tr xs

theorem val_nil : val [] = 0 := rfl
theorem val_cons (x : Nat) (xs : List Nat) : val (x :: xs) = x + R * val xs := rfl

theorem val_append (xs ys : List Nat) : val (xs ++ ys) = val xs + R ^ xs.length * val ys := by
 induction xs with
 | nil => simp [val]
 | cons x xs ih =>
  simp only [List.cons_append, val, ih, List.length_cons, Nat.pow_succ, Nat.mul_add]
  have : R * (R ^ xs.length * val ys) = R ^ xs.length * R * val ys := by rw [← Nat.mul_assoc, Nat.mul_comm R]
  omega

theorem val_lt {xs : List Nat} (h : Lim xs) : val xs < R ^ xs.length := by
 induction xs with
 | nil => simp [val]
 | cons x xs ih =>
  have h1 := ih (fun y hy => h y (by simp [hy]))
  have h2 : x < R := h x (by simp)
  simp only [val, List.length_cons, Nat.pow_succ]
  have h3 : val xs + 1 ≤ R ^ xs.length := h1
  have h4 : R * (val xs + 1) ≤ R * R ^ xs.length := Nat.mul_le_mul_left _ h3
  rw [Nat.mul_comm (R ^ xs.length)]
  rw [Nat.mul_add] at h4
  omega

theorem Lim.nil : Lim [] := by intro x hx; cases hx
theorem Lim.cons {x : Nat} {xs : List Nat} (hx : x < R) (h : Lim xs) : Lim (x :: xs) := by
 intro y hy
 rcases List.mem_cons.1 hy with rfl | hy
 ·exact hx
 ·exact h y hy
theorem Lim.append {xs ys : List Nat} (h : Lim xs) (k : Lim ys) : Lim (xs ++ ys) := by
 intro y hy
 rcases List.mem_append.1 hy with hy | hy
 ·exact h y hy
 ·exact k y hy
theorem Lim.take {xs : List Nat} (h : Lim xs) (n : Nat) : Lim (xs.take n) := fun x hx => h x (List.mem_of_mem_take hx)
theorem Lim.drop {xs : List Nat} (h : Lim xs) (n : Nat) : Lim (xs.drop n) := fun x hx => h x (List.mem_of_mem_drop hx)
theorem Lim.tail {x : Nat} {xs : List Nat} (h : Lim (x :: xs)) : Lim xs := fun y hy => h y (by simp [hy])
theorem Lim.head {x : Nat} {xs : List Nat} (h : Lim (x :: xs)) : x < R := h x (by simp)
theorem Lim.get {xs : List Nat} (h : Lim xs) {i x : Nat} (hx : xs[i]? = some x) : x < R := h x (List.mem_of_getElem? hx)
/-! ### tr -/
theorem val_tr (xs : List Nat) : val (tr xs) = val xs := by
 induction xs with
 | nil => rfl
 | cons x xs ih =>
  simp only [tr]
  split
  ·rename_i h
   obtain ⟨h0, h1⟩ := h
   rw [h1] at ih
   simp only [val] at ih ⊢
   rw [← ih, h0, Nat.mul_zero]
  ·simp only [val, ih]

theorem tr_prefix (xs : List Nat) : tr xs = xs.take (tr xs).length := by
 induction xs with
 | nil => rfl
 | cons x xs ih =>
  simp only [tr]
  split
  ·rfl
  ·simp only [List.length_cons, List.take_succ_cons]
   rw [← ih]

theorem tr_length_le (xs : List Nat) : (tr xs).length ≤ xs.length := by
 have h := congrArg List.length (tr_prefix xs)
 rw [List.length_take] at h
 omega

theorem tr_snoc_zero (xs : List Nat) : tr (xs ++ [0]) = tr xs := by
 induction xs with
 | nil => simp [tr]
 | cons x xs ih => simp only [List.cons_append, tr, ih]

theorem tr_snoc_pos (xs : List Nat) {x : Nat} (h : x ≠ 0) : tr (xs ++ [x]) = xs ++ [x] := by
 induction xs with
 | nil => simp [tr, h]
 | cons y xs ih =>
  simp only [List.cons_append, tr, ih]
  rw [if_neg]
  intro hc
  have := hc.2
  simp at this

theorem tr_tr (xs : List Nat) : tr (tr xs) = tr xs := by
 induction xs with
 | nil => rfl
 | cons x xs ih =>
  by_cases h : x = 0 ∧ tr xs = []
  ·simp only [tr, if_pos h]
  ·have h1 : tr (x :: xs) = x :: tr xs := by simp only [tr, if_neg h]
   rw [h1]
   simp only [tr, ih]
   rw [if_neg h]

theorem tr_eq_nil_iff (xs : List Nat) : tr xs = [] ↔ val xs = 0 := by
 induction xs with
 | nil => simp [tr, val]
 | cons x xs ih =>
  simp only [tr, val]
  have hR := R_pos
  constructor
  ·intro h
   by_cases hc : x = 0 ∧ tr xs = []
   ·have := ih.1 hc.2
    rw [hc.1, this, Nat.mul_zero]
   ·rw [if_neg hc] at h
    cases h
  ·intro h
   have h1 : x = 0 := by omega
   have h2 : R * val xs = 0 := by omega
   have h3 : val xs = 0 := by
    rcases Nat.mul_eq_zero.1 h2 with h | h
    ·omega
    ·exact h
   rw [if_pos ⟨h1, ih.2 h3⟩]

/-- Trimmed rows of one number are one. -/
theorem tr_unique {xs ys : List Nat} (hx : Lim xs) (hy : Lim ys) (h : val xs = val ys) : tr xs = tr ys := by
 induction xs generalizing ys with
 | nil =>
  have h0 : val ys = 0 := by rw [← h]; rfl
  rw [(tr_eq_nil_iff ys).2 h0]
  rfl
 | cons x xs ih =>
  cases ys with
  | nil =>
   have h0 : val (x :: xs) = 0 := by rw [h]; rfl
   rw [(tr_eq_nil_iff _).2 h0]
   rfl
  | cons y ys =>
   simp only [val] at h
   have hx0 := hx.head
   have hy0 := hy.head
   have e1 : (x + R * val xs) % R = x := by rw [Nat.add_mul_mod_self_left, Nat.mod_eq_of_lt hx0]
   have e2 : (y + R * val ys) % R = y := by rw [Nat.add_mul_mod_self_left, Nat.mod_eq_of_lt hy0]
   have e3 : x = y := by rw [← e1, h, e2]
   subst e3
   have e4 : R * val xs = R * val ys := by omega
   have e5 : val xs = val ys := Nat.eq_of_mul_eq_mul_left R_pos e4
   simp only [tr, ih hx.tail hy.tail e5]

/-- A row that is trimmed. -/
def Tr (xs : List Nat) : Prop := tr xs = xs
theorem Tr.nil : Tr [] := rfl

theorem tr_take_succ {xs : List Nat} {k x : Nat} (h : xs[k]? = some x) : xs.take (k + 1) = xs.take k ++ [x] := by
 rw [List.take_add_one, h]
 rfl

/-! ### The row of a number -/
/-- The trimmed row of a number. -/
def lims (n : Nat) : List Nat := if _h : n = 0 then [] else (n % R) :: lims (n / R)
termination_by n
decreasing_by exact Nat.div_lt_self (by omega) (by decide)

theorem lims_zero : lims 0 = [] := by rw [lims]; rfl
theorem lims_pos {n : Nat} (h : n ≠ 0) : lims n = (n % R) :: lims (n / R) := by rw [lims, dif_neg h]

theorem lims_ind (p : Nat → Prop) (h0 : p 0) (h1 : ∀ n, n ≠ 0 → p (n / R) → p n) (n : Nat) : p n := by
 induction n using Nat.strongRecOn with
 | ind n ih =>
  by_cases h : n = 0
  ·subst h; exact h0
  ·exact h1 n h (ih _ (Nat.div_lt_self (by omega) (by decide)))

theorem val_lims (n : Nat) : val (lims n) = n := by
 refine lims_ind (fun n => val (lims n) = n) (by rw [lims_zero]; rfl) (fun n h ih => ?_) n
 rw [lims_pos h, val_cons, ih]
 have := Nat.div_add_mod n R
 omega

theorem lim_lims (n : Nat) : Lim (lims n) := by
 refine lims_ind (fun n => Lim (lims n)) (by rw [lims_zero]; exact Lim.nil) (fun n h ih => ?_) n
 rw [lims_pos h]
 exact Lim.cons (Nat.mod_lt _ R_pos) ih

theorem tr_lims (n : Nat) : Tr (lims n) := by
 refine lims_ind (fun n => Tr (lims n)) (by rw [lims_zero]; exact Tr.nil) (fun n h ih => ?_) n
 rw [lims_pos h]
 unfold Tr at ih ⊢
 simp only [tr, ih]
 rw [if_neg]
 intro hc
 apply h
 have h1 : val (lims (n / R)) = 0 := by rw [hc.2]; rfl
 rw [val_lims] at h1
 have := Nat.div_add_mod n R
 rw [h1, hc.1] at this
 omega

theorem tr_eq_lims {xs : List Nat} (h : Lim xs) : tr xs = lims (val xs) := by
 rw [← tr_lims (val xs)]
 exact tr_unique h (lim_lims _) (val_lims _).symm

theorem lims_inj {n m : Nat} : lims n = lims m ↔ n = m := by
 constructor
 ·intro h
  rw [← val_lims n, h, val_lims]
 ·intro h
  rw [h]

theorem lims_eq_nil {n : Nat} : lims n = [] ↔ n = 0 := by rw [← lims_zero, lims_inj]

theorem lims_length_le {n k : Nat} : (lims n).length ≤ k ↔ n < R ^ k := by
 induction k generalizing n with
 | zero =>
  simp only [Nat.pow_zero, Nat.le_zero, List.length_eq_zero_iff, lims_eq_nil]
  omega
 | succ k ih =>
  by_cases h : n = 0
  ·subst h
   rw [lims_zero]
   simp [Nat.pow_pos R_pos]
  ·rw [lims_pos h, List.length_cons, Nat.add_le_add_iff_right, ih, Nat.pow_succ, Nat.div_lt_iff_lt_mul R_pos]

theorem val_lt_pow {xs : List Nat} {k : Nat} (h : Lim xs) (hk : xs.length ≤ k) : val xs < R ^ k :=
 Nat.lt_of_lt_of_le (val_lt h) (Nat.pow_le_pow_right R_pos hk)

theorem lims_val_length_le {xs : List Nat} (h : Lim xs) : (lims (val xs)).length ≤ xs.length := lims_length_le.2 (val_lt h)

/-- A limb of a row that goes on with noughts. -/
def limbAt (xs : List Nat) (i : Nat) : Nat := xs[i]?.getD 0
theorem limbAt_some {xs : List Nat} {i x : Nat} (h : xs[i]? = some x) : limbAt xs i = x := by unfold limbAt; rw [h]; rfl
theorem limbAt_none {xs : List Nat} {i : Nat} (h : xs.length ≤ i) : limbAt xs i = 0 := by unfold limbAt; rw [List.getElem?_eq_none h]; rfl
theorem limbAt_lt {xs : List Nat} (h : Lim xs) (i : Nat) : limbAt xs i < R := by
 unfold limbAt
 cases hx : xs[i]? with
 | none => exact R_pos
 | some x => exact h.get hx

theorem limbAt_tr (xs : List Nat) (i : Nat) : limbAt (tr xs) i = limbAt xs i := by
 induction xs generalizing i with
 | nil => rfl
 | cons x xs ih =>
  simp only [tr]
  split
  ·rename_i h
   cases i with
   | zero => simp [limbAt, h.1]
   | succ i =>
    have := ih i
    rw [h.2] at this
    simp only [limbAt, List.getElem?_cons_succ] at this ⊢
    rw [← this]
    simp
  ·cases i with
   | zero => rfl
   | succ i =>
    have := ih i
    simp only [limbAt, List.getElem?_cons_succ] at this ⊢
    exact this

theorem val_two {xs : List Nat} (h : (tr xs).length ≤ 2) : val xs = limbAt xs 0 + R * limbAt xs 1 := by
 rw [← val_tr xs, ← limbAt_tr xs 0, ← limbAt_tr xs 1]
 match hx : tr xs, h with
 | [], _ => rfl
 | [x], _ => simp [val, limbAt]
 | [x, y], _ => simp [val, limbAt]
 | x :: y :: z :: r, h => simp at h

theorem val_take_succ (xs : List Nat) (i : Nat) : val (xs.take (i + 1)) = val (xs.take i) + R ^ i * limbAt xs i := by
 by_cases h : i < xs.length
 ·have hx : xs[i]? = some xs[i] := List.getElem?_eq_getElem h
  rw [tr_take_succ hx, val_append, limbAt_some hx, List.length_take, Nat.min_eq_left (Nat.le_of_lt h)]
  simp [val]
 ·have h' : xs.length ≤ i := by omega
  rw [limbAt_none h', List.take_of_length_le h', List.take_of_length_le (by omega)]
  simp

/-! ### Sums by columns -/
/-- The limbs of rows at one place, together. -/
def col (rs : List (List Nat)) (i : Nat) : Nat := (rs.map fun r => limbAt r i).sum
/-- The numbers of rows' first limbs, together. -/
def tot (rs : List (List Nat)) (i : Nat) : Nat := (rs.map fun r => val (r.take i)).sum
/-- The numbers of rows, together. -/
def vals (rs : List (List Nat)) : Nat := (rs.map val).sum

theorem tot_zero (rs : List (List Nat)) : tot rs 0 = 0 := by
 induction rs with
 | nil => rfl
 | cons r rs ih => simp only [tot, List.map_cons, List.sum_cons, List.take_zero, val_nil] at ih ⊢; omega

theorem tot_succ (rs : List (List Nat)) (i : Nat) : tot rs (i + 1) = tot rs i + R ^ i * col rs i := by
 induction rs with
 | nil => simp [tot, col]
 | cons r rs ih =>
  simp only [tot, col, List.map_cons, List.sum_cons] at ih ⊢
  rw [val_take_succ, ih, Nat.mul_add]
  omega

theorem tot_all {rs : List (List Nat)} {m : Nat} (h : ∀ r ∈ rs, r.length ≤ m) : tot rs m = vals rs := by
 induction rs with
 | nil => rfl
 | cons r rs ih =>
  have h1 := ih fun r hr => h r (by simp [hr])
  simp only [tot, vals, List.map_cons, List.sum_cons] at h1 ⊢
  rw [h1, List.take_of_length_le (h r (by simp))]

theorem col_take_succ {rs : List (List Nat)} {j : Nat} {r : List Nat} (h : rs[j]? = some r) (i : Nat) : col (rs.take (j + 1)) i = col (rs.take j) i + limbAt r i := by
 rw [show rs.take (j + 1) = rs.take j ++ [r] by rw [List.take_add_one, h]; rfl]
 simp [col]

theorem col_le {rs : List (List Nat)} (h : ∀ r ∈ rs, Lim r) (i : Nat) : col rs i + rs.length ≤ rs.length * R := by
 induction rs with
 | nil => simp [col]
 | cons r rs ih =>
  have h1 := ih fun r hr => h r (by simp [hr])
  have h2 := limbAt_lt (h r (by simp)) i
  simp only [col, List.map_cons, List.sum_cons, List.length_cons, Nat.add_mul, Nat.one_mul] at h1 ⊢
  omega

/-- One column more. -/
theorem sum_step {rs : List (List Nat)} {ds : List Nat} {i c : Nat} (hl : ds.length = i) (h : val ds + R ^ i * c = tot rs i) :
  val (ds ++ [(c + col rs i) % R]) + R ^ (i + 1) * ((c + col rs i) / R) = tot rs (i + 1) := by
 rw [val_append, hl, tot_succ, ← h, val_cons, val_nil, Nat.mul_zero, Nat.add_zero, Nat.pow_succ]
 have e := Nat.div_add_mod (c + col rs i) R
 have e2 : R ^ i * ((c + col rs i) % R) + R ^ i * R * ((c + col rs i) / R) = R ^ i * (c + col rs i) := by
  rw [Nat.mul_assoc, ← Nat.mul_add]
  congr 1
  omega
 have e3 : R ^ i * (c + col rs i) = R ^ i * c + R ^ i * col rs i := Nat.mul_add _ _ _
 omega

/-- The carry stays below the count of rows. -/
theorem sum_carry {rs : List (List Nat)} (h : ∀ r ∈ rs, Lim r) {i c : Nat} (hc : c < rs.length) : (c + col rs i) / R < rs.length := by
 have h1 := col_le h i
 rw [Nat.div_lt_iff_lt_mul R_pos]
 omega

/-! ### Division by one limb -/
/-- One limb more of a division, from the high end down. -/
theorem div_step {zs : List Nat} {b left x V : Nat} (hb : 0 < b) (h : V = val zs * b + left) :
  x + R * V = val ((R * left + x) / b :: zs) * b + (R * left + x) % b := by
 rw [val_cons, h, Nat.add_mul]
 have e := Nat.div_add_mod (R * left + x) b
 have e2 : (R * left + x) / b * b = b * ((R * left + x) / b) := Nat.mul_comm _ _
 have e3 : R * (val zs * b + left) = R * val zs * b + R * left := by rw [Nat.mul_add, Nat.mul_assoc]
 omega

theorem div_limb_lt {b left x : Nat} (hl : left < b) (hx : x < R) : (R * left + x) / b < R := by
 rw [Nat.div_lt_iff_lt_mul (by omega)]
 have h1 : R * (left + 1) ≤ R * b := Nat.mul_le_mul_left _ hl
 rw [Nat.mul_add] at h1
 omega

theorem div_done {zs : List Nat} {b left V : Nat} (hl : left < b) (h : V = val zs * b + left) : val zs = V / b ∧ left = V % b := by
 rw [h]
 constructor
 ·rw [Nat.mul_comm, Nat.mul_add_div (by omega), Nat.div_eq_of_lt hl, Nat.add_zero]
 ·rw [Nat.mul_comm, Nat.mul_add_mod, Nat.mod_eq_of_lt hl]

theorem drop_pred {α : Type} {xs : List α} {k : Nat} {x : α} (h : xs[k]? = some x) : xs.drop k = x :: xs.drop (k + 1) := by
 obtain ⟨hk, rfl⟩ := List.getElem?_eq_some_iff.1 h
 exact List.drop_eq_getElem_cons hk

/-! ### Rows times a limb -/
/-- One limb more: what comes to a place, and what is carried. -/
theorem mac_step {zs : List Nat} {k c y S : Nat} (hl : zs.length = k) (h : val zs + R ^ k * c = S) :
  val (zs ++ [(c + y) % R]) + R ^ (k + 1) * ((c + y) / R) = S + R ^ k * y := by
 rw [val_append, hl, ← h, val_cons, val_nil, Nat.mul_zero, Nat.add_zero, Nat.pow_succ]
 have e := Nat.div_add_mod (c + y) R
 have e2 : R ^ k * ((c + y) % R) + R ^ k * R * ((c + y) / R) = R ^ k * (c + y) := by
  rw [Nat.mul_assoc, ← Nat.mul_add]
  congr 1
  omega
 have e3 : R ^ k * (c + y) = R ^ k * c + R ^ k * y := Nat.mul_add _ _ _
 omega

theorem limb_mul_le {x t : Nat} (hx : x < R) (ht : t < R) : x * t ≤ 18446744065119617025 := by
 rw [R_eq] at hx ht
 have : x * t ≤ 4294967295 * 4294967295 := Nat.mul_le_mul (by omega) (by omega)
 omega

theorem val_take_some {xs : List Nat} {k x : Nat} (h : xs[k]? = some x) : val (xs.take (k + 1)) = val (xs.take k) + R ^ k * x := by
 rw [val_take_succ, limbAt_some h]

/-- One limb more of 'us plus t times xs'. -/
theorem addTimes_step {us xs zs : List Nat} {k c t u x : Nat} (hu : us[k]? = some u) (hx : xs[k]? = some x) (hl : zs.length = k)
  (h : val zs + R ^ k * c = val (us.take k) + t * val (xs.take k)) :
  val (zs ++ [(c + (x * t + u)) % R]) + R ^ (k + 1) * ((c + (x * t + u)) / R) = val (us.take (k + 1)) + t * val (xs.take (k + 1)) := by
 rw [mac_step hl h, val_take_some hu, val_take_some hx, Nat.mul_add, Nat.mul_add]
 have : t * (R ^ k * x) = R ^ k * (x * t) := by rw [Nat.mul_comm x t, ← Nat.mul_assoc, Nat.mul_comm t, Nat.mul_assoc]
 omega

/-- One limb more of 'p plus t times xs'. -/
theorem scale_step {xs zs : List Nat} {k c t p x : Nat} (hx : xs[k]? = some x) (hl : zs.length = k) (h : val zs + R ^ k * c = p + t * val (xs.take k)) :
  val (zs ++ [(c + x * t) % R]) + R ^ (k + 1) * ((c + x * t) / R) = p + t * val (xs.take (k + 1)) := by
 rw [mac_step hl h, val_take_some hx, Nat.mul_add]
 have : t * (R ^ k * x) = R ^ k * (x * t) := by rw [Nat.mul_comm x t, ← Nat.mul_assoc, Nat.mul_comm t, Nat.mul_assoc]
 omega

theorem lim_replicate (n : Nat) : Lim (List.replicate n 0) := by
 intro x hx
 rw [List.eq_of_mem_replicate hx]
 exact R_pos

theorem val_replicate (n : Nat) : val (List.replicate n 0) = 0 := by
 induction n with
 | zero => rfl
 | succ n ih => rw [List.replicate_succ, val_cons, ih, Nat.mul_zero]

/-- One limb more of a long product: what is in the row before, what addTimes leaves, and the carry, are what is in it behind. -/
theorem mul_step {ds zs xs ys : List Nat} {k n cy t : Nat} (hd : ds.length = k + n) (hz : zs.length = n) (ht : ys[k]? = some t) (hv : val ds = val xs * val (ys.take k))
  (hs : val zs + R ^ n * cy = val (ds.drop k) + t * val xs) : val (ds.take k ++ zs ++ [cy]) = val xs * val (ys.take (k + 1)) := by
 have h1 : val ds = val (ds.take k) + R ^ k * val (ds.drop k) := by
  have := val_append (ds.take k) (ds.drop k)
  rw [List.take_append_drop, List.length_take, Nat.min_eq_left (by omega)] at this
  exact this
 rw [val_append, val_append, List.length_append, List.length_take, Nat.min_eq_left (by omega), hz, val_cons, val_nil, Nat.mul_zero, Nat.add_zero, val_take_some ht, Nat.mul_add, ← hv, h1, Nat.pow_add]
 have e1 : R ^ k * R ^ n * cy = R ^ k * (R ^ n * cy) := Nat.mul_assoc _ _ _
 have e2 : R ^ k * (val zs + R ^ n * cy) = R ^ k * (val (ds.drop k) + t * val xs) := by rw [hs]
 rw [Nat.mul_add, Nat.mul_add] at e2
 have e3 : val xs * (R ^ k * t) = R ^ k * (t * val xs) := by rw [Nat.mul_comm t, ← Nat.mul_assoc, Nat.mul_comm (val xs), Nat.mul_assoc]
 omega

end M
end Go.Proofs.YtbhgbilhoonopaaGreat

/-
 Plain mathematics of long division (Knuth's algorithm D) over rows of limbs.
-/
namespace Go.Proofs.YtbhgbilhoonopaaGreat
namespace M
set_option linter.unusedVariables false

theorem val_one (z : Nat) : val [z] = z := by simp [val]

/-- What a guess is told by: the quotient of the three highest limbs by the two highest, at most 2^32 - 1. -/
def Guess (t3 b2 g : Nat) : Prop := g < R ∧ g * b2 ≤ t3 ∧ (g + 1 = R ∨ t3 < (g + 1) * b2)

/-- A guess is at most one too great, never too small. -/
theorem guess_near {P b2 vl t3 ul g : Nat} (hP : 0 < P) (hvl : vl < P) (hul : ul < P) (hb : R ≤ b2) (hg : Guess t3 b2 g) (hU : t3 * P + ul < (b2 * P + vl) * R) :
  g * (b2 * P + vl) < t3 * P + ul + (b2 * P + vl) ∧ t3 * P + ul < (g + 1) * (b2 * P + vl) := by
 obtain ⟨h1, h2, h3⟩ := hg
 constructor
 ·have e1 : g * (b2 * P + vl) = g * b2 * P + g * vl := by rw [Nat.mul_add, Nat.mul_assoc]
  have e2 : g * b2 * P ≤ t3 * P := Nat.mul_le_mul_right _ h2
  have e3 : g * vl ≤ R * P := Nat.mul_le_mul (Nat.le_of_lt h1) (Nat.le_of_lt hvl)
  have e4 : R * P ≤ b2 * P := Nat.mul_le_mul_right _ hb
  have e5 : g * vl < b2 * P := by
   rcases Nat.eq_zero_or_pos g with h0 | h0
   ·rw [h0, Nat.zero_mul]
    exact Nat.mul_pos (Nat.lt_of_lt_of_le R_pos hb) hP
   ·have : g * vl < g * P := Nat.mul_lt_mul_of_pos_left hvl h0
    have h6 : g * P ≤ R * P := Nat.mul_le_mul_right _ (Nat.le_of_lt h1)
    omega
  omega
 ·rcases h3 with h3 | h3
  ·rw [h3, Nat.mul_comm R]
   exact hU
  ·have e1 : (g + 1) * (b2 * P + vl) = (g + 1) * b2 * P + (g + 1) * vl := by rw [Nat.mul_add, Nat.mul_assoc]
   have e2 : (t3 + 1) * P ≤ (g + 1) * b2 * P := Nat.mul_le_mul_right _ h3
   rw [Nat.add_mul, Nat.one_mul] at e2
   omega

/-- The quotient is the guess, or one less. -/
theorem guess_div {U V g : Nat} (hV : 0 < V) (h1 : g * V < U + V) (h2 : U < (g + 1) * V) : (g * V ≤ U ∧ U / V = g ∧ U % V = U - g * V) ∨ (U < g * V ∧ 1 ≤ g ∧ U / V = g - 1 ∧ U % V = U + V - g * V) := by
 have hadd : (g + 1) * V = g * V + V := by rw [Nat.add_mul, Nat.one_mul]
 by_cases h : g * V ≤ U
 ·left
  have hd : U / V = g := by
   rw [Nat.div_eq_iff hV]
   constructor
   ·exact h
   ·omega
  refine ⟨h, hd, ?_⟩
  have := Nat.div_add_mod U V
  rw [hd, Nat.mul_comm] at this
  omega
 ·right
  have hg : 1 ≤ g := by
   rcases Nat.eq_zero_or_pos g with h0 | h0
   ·rw [h0, Nat.zero_mul] at h
    omega
   ·exact h0
  have hgs : (g - 1) * V = g * V - V := by rw [Nat.sub_mul, Nat.one_mul]
  have hge : V ≤ g * V := Nat.le_mul_of_pos_left V hg
  have hd : U / V = g - 1 := by
   rw [Nat.div_eq_iff hV]
   constructor
   ·omega
   ·omega
  refine ⟨by omega, hg, hd, ?_⟩
  have := Nat.div_add_mod U V
  rw [hd, Nat.mul_comm] at this
  omega

/-- The loop that betters a guess keeps this: the guess times the highest limb, and what is left, are the two highest limbs; it is not below what it shall be. -/
structure Better (t3 b0 b1 r0 g left : Nat) : Prop where
 sum : (g * b1 + left) * R + r0 = t3
 ge : ∀ k, k < R → k * (b1 * R + b0) ≤ t3 → k ≤ g

theorem Better.test {t3 b0 b1 r0 g left : Nat} (h : Better t3 b0 b1 r0 g left) : left * R + r0 < g * b0 ↔ t3 < g * (b1 * R + b0) := by
 have := h.sum
 rw [Nat.add_mul] at this
 have e : g * (b1 * R + b0) = g * b1 * R + g * b0 := by rw [Nat.mul_add, Nat.mul_assoc]
 omega

theorem Better.start {b0 b1 r0 top : Nat} (hb : 0 < b1) (hr : r0 < R) : Better (top * R + r0) b0 b1 r0 (top / b1) (top % b1) := by
 constructor
 ·rw [Nat.mul_comm (top / b1), Nat.div_add_mod]
 ·intro k _ hk
  rw [Nat.le_div_iff_mul_le hb]
  have e : k * (b1 * R + b0) = k * b1 * R + k * b0 := by rw [Nat.mul_add, Nat.mul_assoc]
  refine Nat.le_of_not_lt fun hc => ?_
  have : (top + 1) * R ≤ k * b1 * R := Nat.mul_le_mul_right _ hc
  rw [Nat.add_mul, Nat.one_mul] at this
  omega

theorem Better.step {t3 b0 b1 r0 g left : Nat} (h : Better t3 b0 b1 r0 g left) (hg : 1 ≤ g) (hc : R ≤ g ∨ t3 < g * (b1 * R + b0)) : Better t3 b0 b1 r0 (g - 1) (left + b1) := by
 constructor
 ·have e : (g - 1) * b1 + (left + b1) = g * b1 + left := by
   obtain ⟨k, rfl⟩ : ∃ k, g = k + 1 := ⟨g - 1, by omega⟩
   rw [Nat.add_sub_cancel, Nat.add_mul, Nat.one_mul]
   omega
  rw [e]
  exact h.sum
 ·intro k hk hkt
  have h1 := h.ge k hk hkt
  rcases hc with hc | hc
  ·omega
  ·have h2 : k ≠ g := by
    intro e
    rw [e] at hkt
    omega
   omega

/-- Where it ends. -/
theorem Better.done {t3 b0 b1 r0 g left : Nat} (h : Better t3 b0 b1 r0 g left) (hb0 : b0 < R) (hr : r0 < R) (hb1 : 0 < b1) (htop : t3 < (b1 * R + R) * R) (hc : R ≤ left ∨ (g < R ∧ ¬ t3 < g * (b1 * R + b0))) : Guess t3 (b1 * R + b0) g := by
 have key : g < R ∧ g * (b1 * R + b0) ≤ t3 := by
  rcases hc with hc | ⟨h1, h2⟩
  ·have hs := h.sum
   have h3 : g * b1 + left < b1 * R + R := by
    refine Nat.lt_of_not_le fun hcc => ?_
    have : (b1 * R + R) * R ≤ (g * b1 + left) * R := Nat.mul_le_mul_right _ hcc
    omega
   have h4 : g * b1 < R * b1 := by rw [Nat.mul_comm R]; omega
   have h5 : g < R := Nat.lt_of_mul_lt_mul_right h4
   refine ⟨h5, ?_⟩
   have h6 : ¬ left * R + r0 < g * b0 := by
    have h7 : g * b0 ≤ R * R := Nat.mul_le_mul (Nat.le_of_lt h5) (Nat.le_of_lt hb0)
    have h8 : R * R ≤ left * R := Nat.mul_le_mul_right _ hc
    omega
   rw [h.test] at h6
   omega
  ·exact ⟨h1, by omega⟩
 refine ⟨key.1, key.2, ?_⟩
 by_cases hR : g + 1 = R
 ·exact .inl hR
 ·right
  refine Nat.lt_of_not_le fun hcc => ?_
  have := h.ge (g + 1) (by have := key.1; omega) hcc
  omega

/-- The first guess is at most 2^32 + 1. -/
theorem guess_start {b1 r2 r1 : Nat} (hb : 2147483648 ≤ b1) (hr2 : r2 ≤ b1) (hr1 : r1 < R) : (r2 * R + r1) / b1 ≤ 4294967297 := by
 have hb0 : 0 < b1 := by omega
 refine Nat.le_of_lt_succ ?_
 rw [Nat.div_lt_iff_lt_mul hb0]
 have h1 : r2 * R ≤ b1 * R := Nat.mul_le_mul_right _ hr2
 rw [R_eq] at h1 hr1 ⊢
 have h2 : (4294967297 + 1) * b1 = b1 * 4294967296 + 2 * b1 := by omega
 rw [Nat.succ_eq_add_one, h2]
 omega

/-- One limb more of 'us less t times vs'. -/
theorem take_step {us vs zs : List Nat} {k bo cy t u v z bo' : Nat} (hu : us[k]? = some u) (hv : vs[k]? = some v) (hl : zs.length = k)
  (h : val (us.take k) + R ^ k * (bo + cy) = val zs + t * val (vs.take k)) (hz : u + R * bo' = z + (cy + v * t) % R + bo) :
  val (us.take (k + 1)) + R ^ (k + 1) * (bo' + (cy + v * t) / R) = val (zs ++ [z]) + t * val (vs.take (k + 1)) := by
 rw [val_take_some hu, val_take_some hv, val_append, hl, val_one, Nat.pow_succ]
 have e1 := Nat.div_add_mod (cy + v * t) R
 have e2 : R ^ k * (u + R * bo' + R * ((cy + v * t) / R)) = R ^ k * (z + bo + (cy + v * t)) := by congr 1; omega
 have e3 : R ^ k * R * (bo' + (cy + v * t) / R) = R ^ k * (R * bo') + R ^ k * (R * ((cy + v * t) / R)) := by rw [Nat.mul_assoc, Nat.mul_add, Nat.mul_add]
 have e4 : R ^ k * (u + R * bo' + R * ((cy + v * t) / R)) = R ^ k * u + R ^ k * (R * bo') + R ^ k * (R * ((cy + v * t) / R)) := by rw [Nat.mul_add, Nat.mul_add]
 have e5 : R ^ k * (z + bo + (cy + v * t)) = R ^ k * z + R ^ k * (bo + cy) + R ^ k * (v * t) := by rw [← Nat.mul_add, ← Nat.mul_add]; congr 1; omega
 have e6 : t * (val (vs.take k) + R ^ k * v) = t * val (vs.take k) + R ^ k * (v * t) := by
  rw [Nat.mul_add]
  congr 1
  rw [Nat.mul_comm v t, ← Nat.mul_assoc, Nat.mul_comm t, Nat.mul_assoc]
 omega

/-- The last limb of 'us less t times vs'. -/
theorem take_last {us zs : List Nat} {n bo cy u z bo' T : Nat} (hu : us[n]? = some u) (hul : us.length = n + 1) (hl : zs.length = n)
  (h : val (us.take n) + R ^ n * (bo + cy) = val zs + T) (hz : u + R * bo' = z + cy + bo) : val us + R ^ (n + 1) * bo' = val (zs ++ [z]) + T := by
 have e0 : val us = val (us.take n) + R ^ n * u := by
  have := val_take_some hu
  rw [List.take_of_length_le (by omega)] at this
  exact this
 rw [e0, val_append, hl, val_one, Nat.pow_succ]
 have e1 : R ^ n * (u + R * bo') = R ^ n * (z + cy + bo) := by rw [hz]
 have e2 : R ^ n * (u + R * bo') = R ^ n * u + R ^ n * R * bo' := by rw [Nat.mul_add, Nat.mul_assoc]
 have e3 : R ^ n * (z + cy + bo) = R ^ n * z + R ^ n * (bo + cy) := by rw [← Nat.mul_add]; congr 1; omega
 omega

/-- A row's two and three highest limbs. -/
theorem val_top2 {vs : List Nat} {n b0 b1 : Nat} (hl : vs.length = n + 2) (h0 : vs[n]? = some b0) (h1 : vs[n + 1]? = some b1) : val vs = (b1 * R + b0) * R ^ n + val (vs.take n) := by
 have e1 := val_take_some h1
 have e0 := val_take_some h0
 rw [List.take_of_length_le (by omega)] at e1
 rw [e1, e0, Nat.pow_succ, Nat.add_mul]
 have e2 : b1 * R * R ^ n = R ^ n * R * b1 := by rw [Nat.mul_comm b1, Nat.mul_comm (R * b1), Nat.mul_assoc]
 have e3 : b0 * R ^ n = R ^ n * b0 := Nat.mul_comm _ _
 omega
theorem val_top3 {us : List Nat} {n r0 r1 r2 : Nat} (hl : us.length = n + 3) (h0 : us[n]? = some r0) (h1 : us[n + 1]? = some r1) (h2 : us[n + 2]? = some r2) :
  val us = ((r2 * R + r1) * R + r0) * R ^ n + val (us.take n) := by
 have e2 := val_take_some h2
 rw [List.take_of_length_le (by omega)] at e2
 have e1 := val_top2 (vs := us.take (n + 2)) (n := n) (b0 := r0) (b1 := r1) (by rw [List.length_take]; omega) (by rw [List.getElem?_take, if_pos (by omega), h0]) (by rw [List.getElem?_take, if_pos (by omega), h1])
 rw [List.take_take, Nat.min_eq_left (by omega)] at e1
 rw [e2, e1]
 have e5 : (r2 * R + r1) * R + r0 = r2 * R * R + (r1 * R + r0) := by rw [Nat.add_mul, Nat.add_assoc]
 have e4 : r2 * R * R * R ^ n = R ^ (n + 2) * r2 := by simp only [Nat.pow_succ, Nat.mul_assoc, Nat.mul_comm, Nat.mul_left_comm]
 rw [e5, Nat.add_mul (r2 * R * R), e4]
 omega

end M
end Go.Proofs.YtbhgbilhoonopaaGreat

/-
 Plain mathematics of digits: bytes of texts, numbers of digits.
-/
namespace Go.Proofs.YtbhgbilhoonopaaGreat
namespace M
set_option linter.unusedVariables false

/-- A text's bytes. -/
def bytes (s : ByteArray) : List Nat := s.data.toList.map UInt8.toNat
theorem bytes_len (s : ByteArray) : (bytes s).length = s.size := by unfold bytes; rw [List.length_map, Lib.size_eq]
theorem bytes_get (s : ByteArray) (k : Nat) (h : k < s.size) : (bytes s)[k]? = some (s[k].toNat) := by
 unfold bytes
 rw [List.getElem?_map]
 have h' : k < s.data.toList.length := by rw [← Lib.size_eq]; exact h
 rw [List.getElem?_eq_getElem h']
 rfl
theorem bytes_inj {s t : ByteArray} (h : bytes s = bytes t) : s = t := by
 unfold bytes at h
 have h2 := (List.map_inj_right (fun a b hab => UInt8.toNat_inj.1 hab)).1 h
 obtain ⟨⟨a⟩⟩ := s
 obtain ⟨⟨b⟩⟩ := t
 simp at h2
 rw [h2]
theorem bytes_extract (s : ByteArray) (a b : Nat) : bytes (s.extract a b) = ((bytes s).drop a).take (b - a) := by
 unfold bytes
 rw [Lib.extract_data, List.map_take, List.map_drop]
theorem bytes_tail (s : ByteArray) (a : Nat) : bytes (s.extract a s.size) = (bytes s).drop a := by
 unfold bytes
 rw [Lib.extract_to_end, List.map_drop]

/-- These bytes are digits' bytes. -/
def Dig (l : List Nat) : Prop := ∀ x ∈ l, 48 ≤ x ∧ x ≤ 57
/-- These bytes are the digits of a number. -/
def Digits (l : List Nat) : Prop := l ≠ [] ∧ (l[0]? = some 48 → l.length = 1) ∧ Dig l
instance (l : List Nat) : Decidable (Dig l) := by unfold Dig; infer_instance
instance (l : List Nat) : Decidable (Digits l) := by unfold Digits; infer_instance

/-- Digits, read on from a number. -/
def dec (v : Nat) (l : List Nat) : Nat := l.foldl (fun a x => a * 10 + (x - 48)) v
theorem dec_nil (v : Nat) : dec v [] = v := rfl
theorem dec_cons (v x : Nat) (l : List Nat) : dec v (x :: l) = dec (v * 10 + (x - 48)) l := by unfold dec; rw [List.foldl_cons]
theorem dec_append (v : Nat) (l m : List Nat) : dec v (l ++ m) = dec (dec v l) m := by unfold dec; rw [List.foldl_append]

theorem dec_shift (v : Nat) (l : List Nat) : dec v l = v * 10 ^ l.length + dec 0 l := by
 induction l generalizing v with
 | nil => rw [dec_nil, dec_nil, List.length_nil, Nat.pow_zero, Nat.mul_one, Nat.add_zero]
 | cons x l ih =>
  rw [dec_cons, dec_cons, List.length_cons, ih, ih (0 * 10 + (x - 48)), Nat.pow_succ, Nat.add_mul, Nat.zero_mul, Nat.zero_add]
  have : v * 10 * 10 ^ l.length = v * (10 ^ l.length * 10) := by rw [Nat.mul_assoc, Nat.mul_comm 10]
  omega

theorem dec_lt {l : List Nat} (h : Dig l) : dec 0 l < 10 ^ l.length := by
 induction l with
 | nil => rw [dec_nil]; exact Nat.one_pos
 | cons x l ih =>
  have hx := h x (by simp)
  have h1 := ih fun y hy => h y (by simp [hy])
  rw [dec_cons, List.length_cons, dec_shift, Nat.pow_succ]
  have h2 : (0 * 10 + (x - 48)) * 10 ^ l.length ≤ 9 * 10 ^ l.length := Nat.mul_le_mul_right _ (by omega)
  omega

theorem dec_snoc (v : Nat) (l : List Nat) (x : Nat) : dec v (l ++ [x]) = dec v l * 10 + (x - 48) := by rw [dec_append, dec_cons, dec_nil]

/-- Rows that are trimmed, behind a scale. -/
theorem lims_of_len {ds : List Nat} (hl : Lim ds) (h : ds = [] ∨ R ^ (ds.length - 1) ≤ val ds) : lims (val ds) = ds := by
 rw [← tr_eq_lims hl]
 rcases h with rfl | h
 ·rfl
 ·have h1 : (tr ds).length = ds.length := by
   rcases Nat.lt_or_ge (tr ds).length ds.length with hlt | hge
   ·have h2 : (lims (val ds)).length ≤ ds.length - 1 := by rw [← tr_eq_lims hl]; omega
    rw [lims_length_le] at h2
    omega
   ·have := tr_length_le ds
    omega
  rw [tr_prefix, h1, List.take_length]

theorem lims_snoc {ds : List Nat} {c : Nat} (hl : Lim ds) (hc : c < R) (h : c ≠ 0) : lims (val ds + R ^ ds.length * c) = ds ++ [c] := by
 have e : val ds + R ^ ds.length * c = val (ds ++ [c]) := by rw [val_append]; simp [val]
 rw [e, ← tr_eq_lims (hl.append (Lim.cons hc Lim.nil)), tr_snoc_pos _ h]

theorem pow_le_lims {v : Nat} (h : lims v ≠ []) : R ^ ((lims v).length - 1) ≤ v := by
 refine Nat.le_of_not_lt fun hc => ?_
 have h1 := lims_length_le.2 hc
 have h2 : 0 < (lims v).length := List.length_pos_iff.2 h
 omega

/-! ### The digits of a number -/
/-- Its digits' bytes, the lowest first; of 0 none. -/
def lows (n : Nat) : List Nat := if _h : n = 0 then [] else (48 + n % 10) :: lows (n / 10)
termination_by n
decreasing_by omega

theorem lows_zero : lows 0 = [] := by rw [lows]; rfl
theorem lows_pos {n : Nat} (h : n ≠ 0) : lows n = (48 + n % 10) :: lows (n / 10) := by rw [lows, dif_neg h]

/-- Its text's bytes. -/
def txt (n : Nat) : List Nat := if n = 0 then [48] else (lows n).reverse

theorem lows_ind (p : Nat → Prop) (h0 : p 0) (h1 : ∀ n, n ≠ 0 → p (n / 10) → p n) (n : Nat) : p n := by
 induction n using Nat.strongRecOn with
 | ind n ih =>
  by_cases h : n = 0
  ·subst h; exact h0
  ·exact h1 n h (ih _ (by omega))

theorem lows_dig (n : Nat) : Dig (lows n) := by
 refine lows_ind (fun n => Dig (lows n)) (by rw [lows_zero]; intro x hx; cases hx) (fun n h ih => ?_) n
 rw [lows_pos h]
 intro x hx
 rcases List.mem_cons.1 hx with rfl | hx
 ·omega
 ·exact ih x hx

theorem dec_lows (n : Nat) : dec 0 (lows n).reverse = n := by
 refine lows_ind (fun n => dec 0 (lows n).reverse = n) (by rw [lows_zero]; rfl) (fun n h ih => ?_) n
 rw [lows_pos h, List.reverse_cons, dec_snoc, ih]
 omega

theorem txt_dig (n : Nat) : Dig (txt n) := by
 unfold txt
 split
 ·intro x hx; simp at hx; omega
 ·intro x hx; exact lows_dig n x (List.mem_reverse.1 hx)

theorem dec_txt (n : Nat) : dec 0 (txt n) = n := by
 unfold txt
 split
 ·rename_i h; rw [h, dec_cons, dec_nil]
 ·exact dec_lows n

theorem lows_last {n : Nat} (h : n ≠ 0) : ∃ x l, (lows n).reverse = x :: l ∧ 49 ≤ x := by
 revert h
 refine lows_ind (fun n => n ≠ 0 → ∃ x l, (lows n).reverse = x :: l ∧ 49 ≤ x) (fun h => absurd rfl h) (fun n h ih _ => ?_) n
 rw [lows_pos h, List.reverse_cons]
 by_cases h2 : n / 10 = 0
 ·rw [h2, lows_zero]
  exact ⟨48 + n % 10, [], rfl, by omega⟩
 ·obtain ⟨x, l, e, hx⟩ := ih h2
  rw [e]
  exact ⟨x, l ++ [48 + n % 10], rfl, hx⟩

theorem txt_digits (n : Nat) : Digits (txt n) := by
 refine ⟨?_, ?_, txt_dig n⟩
 ·unfold txt
  split
  ·simp
  ·rename_i h
   obtain ⟨x, l, e, _⟩ := lows_last h
   rw [e]
   simp
 ·unfold txt
  split
  ·intro _; rfl
  ·rename_i h
   obtain ⟨x, l, e, hx⟩ := lows_last h
   rw [e]
   intro h2
   simp at h2
   omega

theorem txt_inj {n m : Nat} (h : txt n = txt m) : n = m := by rw [← dec_txt n, h, dec_txt]

theorem lows_take (n k : Nat) (h : n / 10 ^ k ≠ 0) : (lows n).take (k + 1) = (lows n).take k ++ [48 + n / 10 ^ k % 10] := by
 induction k generalizing n with
 | zero =>
  simp at h
  rw [lows_pos h]
  simp
 | succ k ih =>
  have hn : n ≠ 0 := by
   intro e
   rw [e] at h
   simp at h
  have e : n / 10 ^ (k + 1) = n / 10 / 10 ^ k := by rw [Nat.pow_succ, Nat.mul_comm, Nat.div_div_eq_div_mul]
  rw [e] at h ⊢
  rw [lows_pos hn, List.take_succ_cons, List.take_succ_cons, ih _ h]
  rfl

theorem lows_take_all (n k : Nat) (h : n / 10 ^ k = 0) : (lows n).take k = lows n := by
 induction k generalizing n with
 | zero =>
  simp at h
  rw [h, lows_zero]
  rfl
 | succ k ih =>
  by_cases hn : n = 0
  ·rw [hn, lows_zero]; rfl
  ·have e : n / 10 ^ (k + 1) = n / 10 / 10 ^ k := by rw [Nat.pow_succ, Nat.mul_comm, Nat.div_div_eq_div_mul]
   rw [e] at h
   rw [lows_pos hn, List.take_succ_cons, ih _ h]

theorem lows_len_le {n k : Nat} (h : n < 10 ^ k) : (lows n).length ≤ k := by
 have := lows_take_all n k (Nat.div_eq_of_lt h)
 have h2 := congrArg List.length this
 rw [List.length_take] at h2
 omega

theorem lows_lt {n k : Nat} (h : n / 10 ^ k ≠ 0) : k < (lows n).length := by
 have h2 := congrArg List.length (lows_take n k h)
 rw [List.length_append, List.length_take, List.length_take] at h2
 simp at h2
 omega

theorem lows_val_len {xs : List Nat} (h : Lim xs) : (lows (val xs)).length ≤ 10 * xs.length := by
 refine lows_len_le (Nat.lt_of_lt_of_le (val_lt h) ?_)
 rw [Nat.pow_mul]
 exact Nat.pow_le_pow_left (by decide) _

end M
end Go.Proofs.YtbhgbilhoonopaaGreat
/-
 What our walks over the program say of memory: a slice that reads as a row (of limbs, bytes, bools); rows that the call itself made; append and make upon these.
-/
namespace Go.Proofs.YtbhgbilhoonopaaGreat
open Go.RowKit
set_option linter.unusedVariables false

theorem ret_eq {a b : Value} (h : a = b) : Ending.returned a = .returned b := by rw [h]
theorem ret_int {k : IntKind} {a b : Int} (h : a = b) : Ending.returned (.int k a) = .returned (.int k b) := by rw [h]
theorem ret_bool {a b : Bool} (h : a = b) : Ending.returned (.bool a) = .returned (.bool b) := by rw [h]
theorem ret_slice {A : Option Addr} {n m c : Nat} (h : n = m) : Ending.returned (.slice A n c) = .returned (.slice A m c) := by rw [h]

theorem or_lo_hi (a b : Nat) (ha : a < 4294967296) (hb : b < 4294967296) : bits .or .u64 (a : Int) ((b : Int) * 4294967296) = ((a + 4294967296 * b : Nat) : Int) := by
 have e : ((b : Int) * 4294967296) = ((b * 4294967296 : Nat) : Int) := by omega
 rw [e, bits_or_u64_nat a (b * 4294967296) (by omega) (by omega)]
 have h := Nat.two_pow_add_eq_or_of_lt (i := 32) (b := a) (by omega) b
 have h2 : (2 : Nat) ^ 32 = 4294967296 := rfl
 rw [h2] at h
 rw [Nat.or_comm, Nat.mul_comm b, ← h, Nat.add_comm]
theorem or_hi_lo (a b : Nat) (ha : a < 4294967296) (hb : b < 4294967296) : bits .or .u64 ((b : Int) * 4294967296) (a : Int) = ((4294967296 * b + a : Nat) : Int) := by
 have e : ((b : Int) * 4294967296) = ((b * 4294967296 : Nat) : Int) := by omega
 rw [e, bits_or_u64_nat (b * 4294967296) a (by omega) (by omega)]
 have h := Nat.two_pow_add_eq_or_of_lt (i := 32) (b := a) (by omega) b
 have h2 : (2 : Nat) ^ 32 = 4294967296 := rfl
 rw [h2] at h
 rw [Nat.mul_comm b, ← h]

/-- A kind of elements, each of one cell: how they lie in memory, which there are, the numbers of their type and of the slices' type. -/
structure Kd (α : Type) where
 enc : α → Value
 ok : α → Prop
 e : TypeId
 t : TypeId
 zero : α
 bytes : Nat
 one : ∀ x, (enc x).oneCell' = true
 under : Tryz.prog.underlying t = some (.slice e)
 info : (Tryz.prog.info? e).map (fun i => (i.zero, i.size, i.bytes)) = some (some (enc zero), 1, bytes)
 zsize : (enc zero).cells.size = 1
 light : bytes ≤ 16

def kU32 : Kd Nat := ⟨fun x => .int .u32 (x : Int), fun x => x < M.R, 44, 22, 0, 4, fun _ => rfl, Tryz.underlying22, by kernel_rfl, rfl, by decide⟩

/-- A slice that reads as xs (nil and empty ones let in). -/
structure RdK {α : Type} (K : Kd α) (w : World) (A : Option Addr) (n c : Nat) (xs : List α) : Prop where
 len : xs.length = n
 cap : n ≤ c
 nil : A = none → c = 0
 lim : ∀ x ∈ xs, K.ok x
 cells : 0 < n → ∃ b o, A = some ⟨b, o, none⟩ ∧ ∀ (i : Nat) (x : α), xs[i]? = some x → w.cell? ⟨b, o + i, none⟩ = some (K.enc x)

section
variable {α : Type} {K : Kd α} {w w' : World} {A : Option Addr} {n c : Nat} {xs : List α}

theorem RdK.at_ (h : RdK K w A n c xs) {i : Nat} (hi : i < n) :
  ∃ b o x, A = some ⟨b, o, none⟩ ∧ xs[i]? = some x ∧ K.ok x ∧ w.cell? ⟨b, o + i, none⟩ = some (K.enc x) := by
 obtain ⟨b, o, hA, hc⟩ := h.cells (by omega)
 have hl : i < xs.length := by rw [h.len]; exact hi
 have hx : xs[i]? = some xs[i] := List.getElem?_eq_getElem hl
 exact ⟨b, o, xs[i], hA, hx, h.lim _ (List.getElem_mem hl), hc i _ hx⟩

/-- What lies in a block that stayed as it was reads as it did. -/
theorem RdK.keep (h : RdK K w A n c xs) (hk : ∀ p, A = some p → 0 < n → w'.heap[p.block]? = w.heap[p.block]?) : RdK K w' A n c xs := by
 refine ⟨h.len, h.cap, h.nil, h.lim, fun hn => ?_⟩
 obtain ⟨b, o, hA, hc⟩ := h.cells hn
 refine ⟨b, o, hA, fun i x hx => ?_⟩
 have := hk _ hA hn
 exact (World.cell?_of_block (a := ⟨b, o + i, none⟩) this).trans (hc i x hx)

theorem RdK.blk (h : RdK K w A n c xs) (hn : 0 < n) {p : Addr} (hA : A = some p) : p.block < w.heap.size := by
 obtain ⟨b, o, hA', hc⟩ := h.cells hn
 rw [hA'] at hA
 cases hA
 have hl : 0 < xs.length := by rw [h.len]; exact hn
 exact World.block_lt_of_cell? w _ (hc 0 _ (List.getElem?_eq_getElem hl))

theorem RdK.below (h : RdK K w A n c xs) (hb : Below w.heap.size w w') : RdK K w' A n c xs :=
 h.keep fun p hp hn => hb.block _ (h.blk hn hp)

/-- Behind a law that wrote one row: that row is another one. -/
theorem RdK.grown {row : Option Nat} (h : RdK K w A n c xs) (hg : w.grownBy w' row) (hr : ∀ p, A = some p → 0 < n → some p.block ≠ row) : RdK K w' A n c xs :=
 h.keep fun p hp hn => hg.block _ (h.blk hn hp) (hr p hp hn)

theorem RdK.empty (w : World) (A : Option Addr) (c : Nat) (hc : A = none → c = 0) : RdK K w A 0 c [] := ⟨rfl, Nat.zero_le _, hc, (fun _ hx => by cases hx), fun h => absurd h (by omega)⟩

/-- Its first elements. -/
theorem RdK.take (h : RdK K w A n c xs) {m : Nat} (hm : m ≤ n) : RdK K w A m c (xs.take m) := by
 refine ⟨by rw [List.length_take, h.len]; omega, by have := h.cap; omega, h.nil, fun x hx => h.lim x (List.mem_of_mem_take hx), fun hn => ?_⟩
 obtain ⟨b, o, hA, hc⟩ := h.cells (by omega)
 refine ⟨b, o, hA, fun i x hx => hc i x ?_⟩
 rw [List.getElem?_take] at hx
 split at hx
 ·exact hx
 ·cases hx

theorem RdK.drew (h : RdK K w A n c xs) : RdK K w.drew A n c xs := ⟨h.len, h.cap, h.nil, h.lim, h.cells⟩
theorem RdK.alloc (h : RdK K w A n c xs) (o : Obj) : RdK K (w.alloc o) A n c xs := h.below ((Below.refl _ _).alloc (Nat.le_refl _) o)

/-- A new block of one element. -/
theorem RdK.one (w : World) (x : α) (hx : K.ok x) : RdK K (w.alloc (.cells #[K.enc x] K.e)) (some ⟨w.heap.size, 0, none⟩) 1 1 [x] := by
 refine ⟨rfl, Nat.le_refl _, (fun h => by cases h), fun y hy => ?_, fun _ => ⟨_, _, rfl, fun i y hy => ?_⟩⟩
 ·simp at hy; subst hy; exact hx
 ·cases i with
  | zero =>
   simp at hy
   subst hy
   rw [cell_of_row _ _ _ #[K.enc x] K.e (0, 0) (heap_alloc_new w _)]
   rfl
  | succ i => simp at hy
end

/-- A slice that the call itself made: its block is known whole. -/
structure OwK {α : Type} (K : Kd α) (w : World) (base : Nat) (A : Option Addr) (n c : Nat) (xs : List α) : Prop where
 row : w.ownsRow base K.e 1 (.slice A n c) n (xs.map K.enc)
 lim : ∀ x ∈ xs, K.ok x

section
variable {α : Type} {K : Kd α} {w w' : World} {base : Nat} {A : Option Addr} {n c : Nat} {xs : List α}

theorem OwK.len (h : OwK K w base A n c xs) : xs.length = n := by have := h.row.1; simpa using this

theorem OwK.cases (h : OwK K w base A n c xs) : (A = none ∧ n = 0 ∧ c = 0 ∧ xs = []) ∨
  ∃ g cur, A = some ⟨g, 0, none⟩ ∧ base ≤ g ∧ w.heap[g]? = some (.cells cur K.e (0, 0)) ∧ n ≤ c ∧ c ≤ maxLen ∧ cur.size = c ∧ cur.toList.take n = xs.map K.enc := by
 rcases h.row.2 with ⟨hv, hn⟩ | ⟨g, cap, cur, hv, hb, hh, hnc, hcm, hcs, ht⟩
 ·left
  injection hv with h1 h2 h3
  refine ⟨h1, hn, h3, List.eq_nil_of_length_eq_zero ?_⟩
  rw [h.len, hn]
 ·right
  injection hv with h1 h2 h3
  subst h1 h3
  exact ⟨g, cur, rfl, hb, hh, hnc, hcm, by omega, by simpa using ht⟩

theorem OwK.rd (h : OwK K w base A n c xs) : RdK K w A n c xs := by
 rcases h.cases with ⟨rfl, rfl, rfl, rfl⟩ | ⟨g, cur, rfl, hb, hh, hnc, hcm, hcs, ht⟩
 ·exact RdK.empty _ _ _ fun _ => rfl
 ·refine ⟨h.len, hnc, (fun h => by cases h), h.lim, fun hn => ⟨g, 0, rfl, fun i x hx => ?_⟩⟩
  have := h.row.cells (g := g) rfl i (K.enc x) (by rw [List.getElem?_map, hx]; rfl)
  rw [Addr.add_lit] at this
  exact this

theorem OwK.mono {base' : Nat} (h : OwK K w base A n c xs) (hb : base' ≤ base) : OwK K w base' A n c xs := by
 refine ⟨⟨h.row.1, ?_⟩, h.lim⟩
 rcases h.row.2 with h' | ⟨g, cap, cur, hv, hg, r⟩
 ·exact .inl h'
 ·exact .inr ⟨g, cap, cur, hv, Nat.le_trans hb hg, r⟩

theorem grownBy_of_below (hb : Below w.heap.size w w') (row : Option Nat) : w.grownBy w' row := ⟨hb.os, hb.tape, hb.output, hb.size, fun k hk _ => hb.block k hk⟩
theorem below_of_grownBy (hg : w.grownBy w' none) : Below w.heap.size w w' := ⟨hg.os, hg.tape, hg.output, hg.size, fun k hk => hg.block k hk (by simp)⟩

theorem OwK.below (h : OwK K w base A n c xs) (hb : Below w.heap.size w w') : OwK K w' base A n c xs := by
 refine ⟨h.row.kept (w' := w') (row := none) (grownBy_of_below hb none) ?_, h.lim⟩
 cases hv : (Value.slice A n c).ownBlock <;> simp

theorem OwK.grown {row : Option Nat} (h : OwK K w base A n c xs) (hg : w.grownBy w' row) (hr : ∀ p, A = some p → some p.block ≠ row) : OwK K w' base A n c xs := by
 refine ⟨h.row.kept hg ?_, h.lim⟩
 cases A with
 | none => exact .inl rfl
 | some p => exact .inr (hr p rfl)

theorem OwK.drew (h : OwK K w base A n c xs) : OwK K w.drew base A n c xs := ⟨h.row.drew, h.lim⟩
theorem OwK.alloc (h : OwK K w base A n c xs) (o : Obj) : OwK K (w.alloc o) base A n c xs := ⟨h.row.alloc o, h.lim⟩

theorem OwK.nil_ (w : World) (base : Nat) : OwK K w base none 0 0 [] := ⟨World.ownsRow_nil w base _ 1, fun _ hx => by cases hx⟩

/-- Its first elements. -/
theorem OwK.take (h : OwK K w base A n c xs) {m : Nat} (hm : m ≤ n) : OwK K w base A m c (xs.take m) := by
 refine ⟨⟨by rw [List.length_map, List.length_take, h.len]; omega, ?_⟩, fun x hx => h.lim x (List.mem_of_mem_take hx)⟩
 rcases h.cases with ⟨rfl, rfl, rfl, rfl⟩ | ⟨g, cur, rfl, hb, hh, hnc, hcm, hcs, ht⟩
 ·left
  have : m = 0 := by omega
  subst this
  exact ⟨rfl, rfl⟩
 ·right
  refine ⟨g, c, cur, rfl, hb, hh, by omega, hcm, by omega, ?_⟩
  rw [Nat.mul_one, List.map_take, ← ht, List.take_take, Nat.min_eq_left hm]

theorem OwK.lt (h : OwK K w base A n c xs) {p : Addr} (hp : A = some p) : base ≤ p.block ∧ p.block < w.heap.size :=
 h.row.lt p.block (by subst hp; rfl)

/-- An empty slice literal. -/
theorem OwK.lit0 (hb : base ≤ w.heap.size) : OwK K (w.alloc (.cells #[] K.e)) base (some ⟨w.heap.size, 0, none⟩) 0 0 [] :=
 ⟨World.ownsRow_lit w #[] 0 hb (by unfold maxLen; omega) rfl, fun _ hx => by cases hx⟩
end

/-- append, whatever is appended, onto a row that the call made. -/
theorem app_own {α : Type} (K : Kd α) (w : World) {ops : Array Oper} {rest : List Oper} {o : Oper} {a : Act} {Q : Exit → Act → World → Prop} (hgd : o.guard = none) (s x : Operand)
  (ho : o.op = .call { callee := .builtin .append, args := #[s, x], argTypes := #[K.t, K.t] })
  (base : Nat) (A : Option Addr) (n c : Nat) (xs : List α) (hs : a.eval s = .slice A n c) (hown : OwK K w base A n c xs)
  (B : Option Addr) (m d : Nat) (ys : List α) (hx : a.eval x = .slice B m d) (hr : RdK K w B m d ys) (hbd : n + m ≤ 8388608) (hbase : base ≤ w.heap.size)
  (h : ∀ A' c' w', OwK K w' base A' (n + m) c' (xs ++ ys) → w.grownBy w' (Value.slice A n c).ownBlock → wpList Tryz.prog ops Q rest (a.put o.dst (.slice A' (n + m) c')) w') :
  wpList Tryz.prog ops Q (o :: rest) a w := by
 obtain ⟨i0, hi, hz0, hz1, hz2⟩ := info_parts K.info
 have hlight := K.light
 cases B with
 | none =>
  have hd : d = 0 := hr.nil rfl
  subst hd
  have hm : m = 0 := by have := hr.cap; omega
  subst hm
  have hy : ys = [] := List.eq_nil_of_length_eq_zero hr.len
  subst hy
  refine wpList_append_own_none hgd s x K.t ho base K.e i0 1 K.under hi _ n (xs.map K.enc) hs hown.row hx ?_
  have := h A c w (by simpa using hown) (World.grownBy.refl w _)
  simpa using this
 | some ad =>
  refine wpList_append_own w hgd s x K.t ho base K.e i0 (K.enc K.zero) 1 K.bytes K.under hi hz0 hz1 hz2 K.zsize (by decide) _ n (xs.map K.enc) hs hown.row ad m d (ys.map K.enc) hx ?_ ?_ ?_ ?_ ?_ hbase ?_
  ·rw [List.length_map, hr.len, Nat.mul_one]
  ·intro j u hj
   rw [List.getElem?_map] at hj
   cases hy : ys[j]? with
   | none => rw [hy] at hj; cases hj
   | some y =>
    rw [hy] at hj
    cases hj
    have hjl : j < ys.length := (List.getElem?_eq_some_iff.1 hy).1
    obtain ⟨b, o', hA, hc⟩ := hr.cells (by rw [← hr.len]; omega)
    cases hA
    rw [Addr.add_lit]
    exact hc j y hy
  ·intro u hu
   obtain ⟨y, _, rfl⟩ := List.mem_map.1 hu
   exact K.one y
  ·unfold maxLen; omega
  ·have : (n + m) * K.bytes ≤ 8388608 * 16 := Nat.mul_le_mul hbd hlight
   omega
  ·intro v' w' hown' hgrow _
   have hlim : ∀ y ∈ xs ++ ys, K.ok y := by
    intro y hy
    rcases List.mem_append.1 hy with hy | hy
    ·exact hown.lim y hy
    ·exact hr.lim y hy
   rw [← List.map_append] at hown'
   rcases hown'.2 with ⟨rfl, h0⟩ | ⟨g, cap, cur, rfl, r⟩
   ·have hh := h none 0 w' ⟨⟨hown'.1, .inl ⟨by rw [h0], h0⟩⟩, hlim⟩ hgrow
    rw [h0] at hh
    exact hh
   ·exact h _ _ w' ⟨hown', hlim⟩ hgrow

/-- make of a row without elements, with room for n. -/
theorem make_own {α : Type} (K : Kd α) (w : World) {ops : Array Oper} {rest : List Oper} {o : Oper} {a : Act} {Q : Exit → Act → World → Prop} (hg : o.guard = none) (l c : Operand)
  (hop : o.op = Op.makeSlice K.t l c) (kl kc : IntKind) (C : Int) (n : Nat) (hl : a.eval l = .int kl 0) (hc : a.eval c = .int kc C) (hC : C = (n : Int)) (hn : n ≤ 8388608)
  (hK : ∀ w', OwK K w' w.heap.size (some ⟨w.heap.size, 0, none⟩) 0 n [] → Below w.heap.size w w' → wpList Tryz.prog ops Q rest (a.put o.dst (.slice (some ⟨w.heap.size, 0, none⟩) 0 n)) w') :
  wpList Tryz.prog ops Q (o :: rest) a w := by
 obtain ⟨i0, hi, hz0, hz1, hz2⟩ := info_parts K.info
 have hlight := K.light
 refine wpList_make_own w hg l c K.t hop w.heap.size K.e i0 (K.enc K.zero) 1 K.under hi hz0 hz1 kl kc C n hl hc hC ?_ (by unfold maxLen; omega) (Nat.le_refl _) ?_
 ·rw [hz2]
  have : K.bytes * n ≤ 16 * 8388608 := Nat.mul_le_mul hlight hn
  omega
 ·intro w' h1 h2
  exact hK w' ⟨by simpa using h1, fun _ hx => by cases hx⟩ (below_of_grownBy h2)

theorem madeCells_one (z : Value) (n : Nat) : (madeCells #[z] n).toList = List.replicate n z := by
 apply List.ext_getElem
 ·simp [madeCells]
 ·intro i h1 h2
  simp [madeCells, Nat.mod_one]

theorem cells_single {v : Value} (h : v.cells.size = 1) (h1 : v.oneCell' = true) : v.cells = #[v] := by
 cases v <;> first | rfl | (simp [Value.oneCell'] at h1)

/-- make of a row of n zero elements. -/
theorem make_full {α : Type} (K : Kd α) (w : World) {ops : Array Oper} {rest : List Oper} {o : Oper} {a : Act} {Q : Exit → Act → World → Prop} (hg : o.guard = none) (l c : Operand)
  (hop : o.op = Op.makeSlice K.t l c) (kl kc : IntKind) (L C : Int) (n : Nat) (hl : a.eval l = .int kl L) (hc : a.eval c = .int kc C) (hL : L = (n : Int)) (hC : C = (n : Int)) (hn : n ≤ 8388608) (hz : K.ok K.zero)
  (hK : ∀ w', OwK K w' w.heap.size (some ⟨w.heap.size, 0, none⟩) n n (List.replicate n K.zero) → Below w.heap.size w w' → wpList Tryz.prog ops Q rest (a.put o.dst (.slice (some ⟨w.heap.size, 0, none⟩) n n)) w') :
  wpList Tryz.prog ops Q (o :: rest) a w := by
 obtain ⟨i0, hi, hz0, hz1, hz2⟩ := info_parts K.info
 have hlight := K.light
 refine wpList_make_full w hg l c K.t hop w.heap.size K.e i0 (K.enc K.zero) 1 K.under hi hz0 hz1 kl kc L C n hl hc hL hC ?_ (by unfold maxLen; omega) (Nat.le_refl _) ?_
 ·rw [hz2]
  have : K.bytes * n ≤ 16 * 8388608 := Nat.mul_le_mul hlight hn
  omega
 ·intro w' h1 h2
  rw [Nat.mul_one, cells_single K.zsize (K.one _), madeCells_one, ← List.map_replicate] at h1
  refine hK w' ⟨h1, fun x hx => ?_⟩ (below_of_grownBy h2)
  rw [List.eq_of_mem_replicate hx]
  exact hz

theorem below_app {α : Type} {K : Kd α} {a w w' : World} {B : Nat} {A : Option Addr} {n c : Nat} {xs : List α} {o : Obj} (hb : Below B a w) (hB : B ≤ w.heap.size) (ho : OwK K w B A n c xs)
  (hg : (w.alloc o).grownBy w' (Value.slice A n c).ownBlock) : Below B a w' := by
 refine (hb.alloc hB o).grown hg (by simp; omega) fun k hk => ?_
 exact (ho.row.lt k hk).1
/-! ### Rows of limbs -/
abbrev Rd := RdK kU32
abbrev Own := OwK kU32

section
variable {w w' : World} {base : Nat} {A : Option Addr} {n c : Nat} {xs : List Nat}
theorem RdK.Lim (h : Rd w A n c xs) : M.Lim xs := h.lim
theorem OwK.Lim (h : Own w base A n c xs) : M.Lim xs := h.lim
theorem RdK.at32 (h : Rd w A n c xs) {i : Nat} (hi : i < n) :
  ∃ b o x, A = some ⟨b, o, none⟩ ∧ xs[i]? = some x ∧ x < M.R ∧ w.cell? ⟨b, o + i, none⟩ = some (.int .u32 (x : Int)) := h.at_ hi
theorem RdK.short (h : Rd w A n c xs) : Rd w A (M.tr xs).length c (M.tr xs) := by
 have := h.take (m := (M.tr xs).length) (by rw [← h.len]; exact M.tr_length_le xs)
 rw [← M.tr_prefix] at this
 exact this
theorem OwK.short (h : Own w base A n c xs) : Own w base A (M.tr xs).length c (M.tr xs) := by
 have := h.take (m := (M.tr xs).length) (by rw [← h.len]; exact M.tr_length_le xs)
 rw [← M.tr_prefix] at this
 exact this
end

/-- A call answers a new row: these limbs. -/
def Gives (w : World) (xs : List Nat) (e : Ending) (w' : World) : Prop :=
 ∃ A c, e = .returned (.slice A xs.length c) ∧ Own w' w.heap.size A xs.length c xs ∧ Below w.heap.size w w'

end Go.Proofs.YtbhgbilhoonopaaGreat

/-
 Rows that are written in place: a slice that lies somewhere in a block that the call made, and the world behind writes to it.
-/
namespace Go.Proofs.YtbhgbilhoonopaaGreat
open Go.RowKit
set_option linter.unusedVariables false

theorem grownBy_setCell (w : World) (p : Addr) (u : Value) : w.grownBy (w.setCell p u) (some p.block) :=
 ⟨rfl, rfl, rfl, by simp [World.setCell], fun k _ hk => heap_setCell_other w p k u (fun e => hk (by rw [e]))⟩

/-- A slice of n cells from o on in a block that may be written. -/
structure WrK {α : Type} (K : Kd α) (w : World) (g o n : Nat) (xs : List α) : Prop where
 len : xs.length = n
 lim : ∀ x ∈ xs, K.ok x
 blk : ∃ cur : Array Value, w.heap[g]? = some (.cells cur K.e (0, 0)) ∧ ∀ (i : Nat) (x : α), xs[i]? = some x → cur[o + i]? = some (K.enc x)

/-- w' is w but for the cells of block g from o on, which hold ys now. -/
structure PutK {α : Type} (K : Kd α) (w w' : World) (g o : Nat) (ys : List α) : Prop where
 grown : w.grownBy w' (some g)
 size : w'.heap.size = w.heap.size
 blk : ∃ cur cur' : Array Value, w.heap[g]? = some (.cells cur K.e (0, 0)) ∧ w'.heap[g]? = some (.cells cur' K.e (0, 0)) ∧ cur'.size = cur.size ∧
  (∀ (i : Nat) (y : α), ys[i]? = some y → cur'[o + i]? = some (K.enc y)) ∧ ∀ j, (j < o ∨ o + ys.length ≤ j) → cur'[j]? = cur[j]?

section
variable {α : Type} {K : Kd α} {w w' w'' : World} {g o n c : Nat} {xs ys : List α}

theorem WrK.rd (h : WrK K w g o n xs) (hc : n ≤ c) : RdK K w (some ⟨g, o, none⟩) n c xs := by
 obtain ⟨cur, hh, hx⟩ := h.blk
 exact ⟨h.len, hc, (fun e => by cases e), h.lim, fun _ => ⟨g, o, rfl, fun i x hi => by rw [cell_of_row w g (o + i) cur K.e (0, 0) hh]; exact hx i x hi⟩⟩

theorem PutK.start (h : WrK K w g o n xs) (o' : Nat) : PutK K w w g o' [] := by
 obtain ⟨cur, hh, _⟩ := h.blk
 exact ⟨World.grownBy.refl w _, rfl, cur, cur, hh, hh, rfl, (fun i y hi => by simp at hi), fun _ _ => rfl⟩

theorem PutK.cellOut (h : PutK K w w' g o ys) {j : Nat} (hj : j < o ∨ o + ys.length ≤ j) : w'.cell? ⟨g, j, none⟩ = w.cell? ⟨g, j, none⟩ := by
 obtain ⟨cur, cur', h1, h2, _, _, h3⟩ := h.blk
 rw [cell_of_row w g j cur K.e (0, 0) h1, cell_of_row w' g j cur' K.e (0, 0) h2, h3 j hj]

theorem PutK.frozen (h : PutK K w w' g o ys) (j : Nat) : w'.frozen? ⟨g, j, none⟩ = false := by
 obtain ⟨cur, cur', h1, h2, _⟩ := h.blk
 exact frozen_of_row w' g j cur' K.e h2

/-- One cell more behind. -/
theorem PutK.snoc (h : PutK K w w' g o ys) (z : α) {v : Value} (hv : w.cell? ⟨g, o + ys.length, none⟩ = some v) : PutK K w (w'.setCell ⟨g, o + ys.length, none⟩ (K.enc z)) g o (ys ++ [z]) := by
 obtain ⟨cur, cur', h1, h2, hs, h3, h4⟩ := h.blk
 rw [cell_of_row w g _ cur K.e (0, 0) h1] at hv
 have hlt : o + ys.length < cur.size := (Array.getElem?_eq_some_iff.1 hv).1
 refine ⟨⟨h.grown.os, h.grown.tape, h.grown.output, by simp [World.setCell]; have := h.size; omega, fun k hk hne => ?_⟩, by simp [World.setCell]; exact h.size, cur, _, h1, heap_setCell_same w' g _ cur' K.e _ h2, by simp [hs], fun i y hy => ?_, fun j hj => ?_⟩
 ·rw [heap_setCell_other w' ⟨g, o + ys.length, none⟩ k _ (fun e => hne (by rw [e]))]
  exact h.grown.block k hk hne
 ·rw [Array.getElem?_setIfInBounds]
  by_cases hi : i < ys.length
  ·rw [if_neg (by omega)]
   exact h3 i y (by rw [List.getElem?_append_left hi] at hy; exact hy)
  ·have hi2 : i = ys.length := by
    have := (List.getElem?_eq_some_iff.1 hy).1
    simp at this
    omega
   subst hi2
   rw [if_pos rfl, if_pos (by omega)]
   simp at hy
   rw [hy]
 ·rw [Array.getElem?_setIfInBounds]
  simp at hj
  rw [if_neg (by omega)]
  exact h4 j (by omega)

/-- One cell more ahead. -/
theorem PutK.cons (h : PutK K w w' g (o + 1) ys) (z : α) {v : Value} (hv : w.cell? ⟨g, o, none⟩ = some v) : PutK K w (w'.setCell ⟨g, o, none⟩ (K.enc z)) g o (z :: ys) := by
 obtain ⟨cur, cur', h1, h2, hs, h3, h4⟩ := h.blk
 rw [cell_of_row w g _ cur K.e (0, 0) h1] at hv
 have hlt : o < cur.size := (Array.getElem?_eq_some_iff.1 hv).1
 refine ⟨⟨h.grown.os, h.grown.tape, h.grown.output, by simp [World.setCell]; have := h.size; omega, fun k hk hne => ?_⟩, by simp [World.setCell]; exact h.size, cur, _, h1, heap_setCell_same w' g _ cur' K.e _ h2, by simp [hs], fun i y hy => ?_, fun j hj => ?_⟩
 ·rw [heap_setCell_other w' ⟨g, o, none⟩ k _ (fun e => hne (by rw [e]))]
  exact h.grown.block k hk hne
 ·rw [Array.getElem?_setIfInBounds]
  cases i with
  | zero =>
   rw [if_pos (by omega), if_pos (by omega)]
   simp at hy
   rw [hy]
  | succ i =>
   rw [if_neg (by omega)]
   have := h3 i y (by simpa using hy)
   rw [← this]
   congr 1
   omega
 ·rw [Array.getElem?_setIfInBounds]
  simp at hj
  rw [if_neg (by omega)]
  exact h4 j (by omega)

/-- What was put reads as such. -/
theorem PutK.wr (h : PutK K w w' g o ys) (hl : ∀ y ∈ ys, K.ok y) : WrK K w' g o ys.length ys := by
 obtain ⟨cur, cur', h1, h2, hs, h3, h4⟩ := h.blk
 exact ⟨rfl, hl, cur', h2, h3⟩

/-- Rows of other blocks read as they did. -/
theorem RdK.put {A : Option Addr} {m d : Nat} {zs : List α} {β : Type} {K' : Kd β} {us : List β} {g o : Nat} (h : RdK K w A m d zs) (hp : PutK K' w w' g o us) (hne : ∀ p, A = some p → 0 < m → p.block ≠ g) : RdK K w' A m d zs :=
 h.grown hp.grown fun p hA hm e => hne p hA hm (by injection e)
end

section
variable {α : Type} {K : Kd α} {w w' : World} {base g o n m c : Nat} {xs ys : List α}

/-- A piece of a row that the call made may be written. -/
theorem OwK.wr (h : OwK K w base (some ⟨g, 0, none⟩) n c xs) (hm : o + m ≤ n) : WrK K w g o m ((xs.drop o).take m) := by
 rcases h.cases with ⟨h0, _⟩ | ⟨g', cur, hg, hb, hh, hnc, hcm, hcs, ht⟩
 ·cases h0
 ·have e : g = g' := by injection hg with hg; injection hg
  subst e
  refine ⟨by rw [List.length_take, List.length_drop, h.len]; omega, fun x hx => h.lim x (List.mem_of_mem_drop (List.mem_of_mem_take hx)), cur, hh, fun i x hi => ?_⟩
  have hi' : i < m := by
   have := (List.getElem?_eq_some_iff.1 hi).1
   rw [List.length_take] at this
   omega
  rw [List.getElem?_take, if_pos hi', List.getElem?_drop] at hi
  have h2 : (xs.map K.enc)[o + i]? = some (K.enc x) := by rw [List.getElem?_map, hi]; rfl
  rw [← ht, List.getElem?_take, if_pos (by omega)] at h2
  simpa using h2

/-- The row that the call made, behind writes to a piece of it. -/
theorem OwK.put (h : OwK K w base (some ⟨g, 0, none⟩) n c xs) (hp : PutK K w w' g o ys) (hm : o + ys.length ≤ n) (hl : ∀ y ∈ ys, K.ok y) :
  OwK K w' base (some ⟨g, 0, none⟩) n c (xs.take o ++ ys ++ xs.drop (o + ys.length)) := by
 rcases h.cases with ⟨h0, _⟩ | ⟨g', cur, hg, hb, hh, hnc, hcm, hcs, ht⟩
 ·cases h0
 ·have e : g = g' := by injection hg with hg; injection hg
  subst e
  obtain ⟨cur1, cur', h1, h2, hs, h3, h4⟩ := hp.blk
  rw [hh] at h1
  injection h1 with h1
  injection h1 with h1
  subst h1
  have hxl := h.len
  refine ⟨⟨by simp [hxl]; omega, .inr ⟨g, c, cur', rfl, hb, h2, hnc, hcm, by omega, ?_⟩⟩, fun x hx => ?_⟩
  ·rw [Nat.mul_one]
   apply List.ext_getElem?
   intro i
   rw [List.getElem?_take]
   by_cases hi : i < n
   ·rw [if_pos hi]
    have hlook : cur'.toList[i]? = cur'[i]? := by simp
    rw [hlook, List.getElem?_map]
    by_cases h5 : i < o
    ·rw [h4 i (by omega), List.append_assoc, List.getElem?_append_left (by rw [List.length_take]; omega), List.getElem?_take, if_pos h5]
     have : (cur.toList.take n)[i]? = cur[i]? := by rw [List.getElem?_take, if_pos hi]; simp
     rw [← this, ht, List.getElem?_map]
    ·by_cases h6 : i < o + ys.length
     ·rw [List.getElem?_append_left (by rw [List.length_append, List.length_take]; omega), List.getElem?_append_right (by rw [List.length_take]; omega), List.length_take, Nat.min_eq_left (by omega)]
      have h7 : i - o < ys.length := by omega
      have h8 := h3 (i - o) _ (List.getElem?_eq_getElem h7)
      rw [show o + (i - o) = i by omega] at h8
      rw [h8, List.getElem?_eq_getElem h7]
      rfl
     ·rw [h4 i (by omega), List.getElem?_append_right (by rw [List.length_append, List.length_take]; omega), List.length_append, List.length_take, Nat.min_eq_left (by omega), List.getElem?_drop, show o + ys.length + (i - (o + ys.length)) = i by omega]
      have : (cur.toList.take n)[i]? = cur[i]? := by rw [List.getElem?_take, if_pos hi]; simp
      rw [← this, ht, List.getElem?_map]
   ·rw [if_neg hi, List.getElem?_eq_none]
    simp [hxl]
    omega
  ·rcases List.mem_append.1 hx with hx | hx
   ·rcases List.mem_append.1 hx with hx | hx
    ·exact h.lim x (List.mem_of_mem_take hx)
    ·exact hl x hx
   ·exact h.lim x (List.mem_of_mem_drop hx)

/-- One element written. -/
theorem OwK.set_ (h : OwK K w base (some ⟨g, 0, none⟩) n c xs) (j : Nat) (z : α) (hz : K.ok z) :
  OwK K (w.setCell ⟨g, j, none⟩ (K.enc z)) base (some ⟨g, 0, none⟩) n c (xs.set j z) ∧ w.grownBy (w.setCell ⟨g, j, none⟩ (K.enc z)) (some g) := by
 obtain ⟨h1, h2⟩ := h.row.stored j (K.enc z)
 refine ⟨⟨?_, fun x hx => ?_⟩, h2⟩
 ·rw [List.map_set]
  exact h1
 ·rcases List.mem_or_eq_of_mem_set hx with hx | rfl
  ·exact h.lim x hx
  ·exact hz

/-- Its cell. -/
theorem OwK.cellAt (h : OwK K w base (some ⟨g, 0, none⟩) n c xs) {j : Nat} {x : α} (hx : xs[j]? = some x) : w.cell? ⟨g, j, none⟩ = some (K.enc x) := by
 have hj : j < n := by rw [← h.len]; exact (List.getElem?_eq_some_iff.1 hx).1
 rw [h.row.cellAt j (by omega), List.getElem?_map, hx]
 rfl
theorem OwK.frozenAt (h : OwK K w base (some ⟨g, 0, none⟩) n c xs) (j : Nat) : w.frozen? ⟨g, j, none⟩ = false := h.row.frozenAt j
end

end Go.Proofs.YtbhgbilhoonopaaGreat
namespace Go.Proofs.YtbhgbilhoonopaaGreat
open Go.RowKit
set_option linter.unusedVariables false

set_option maxHeartbeats 400000 in
theorem short_any (A : Option Addr) (n c : Nat) (xs : List Nat) (w : World) (h : Rd w A n c xs) (hm : n ≤ 4194304) :
  Calls Tryz.prog 111 #[.slice A n c] w fun e w' => e = .returned (.slice A (M.tr xs).length c) ∧ w = w' := by
 have hc := h.cap
 have H := Lib.hid h
 clear h
 go_enter Tryz.func111, Tryz.ntmps111
 go_wp2
 go_loop [3] (fun i => ∃ k : Nat, k ≤ n ∧ i = .int .i64 k ∧ M.tr (xs.take k) = M.tr xs) (fun i => (intOf i).toNat)
 case atStart => exact ⟨n, Nat.le_refl _, rfl, by rw [List.take_of_length_le (by rw [H.out.len]; exact Nat.le_refl _)]⟩
 case round =>
  obtain ⟨k, hk, rfl, ht⟩ := hrel
  have HT := Lib.hid ht
  clear ht
  by_cases h0 : k = 0
  ·subst h0
   go_wp2
   go_ret
   exact ⟨by rw [← HT.out]; rfl, rfl⟩
  ·obtain ⟨b, o, x, hA, hx, hxl, hcell⟩ := H.out.at32 (show k - 1 < n by omega)
   subst hA
   have hk1 : 0 < k := by omega
   have HX := Lib.hid hx
   clear hx
   by_cases hx0 : x = 0
   ·subst hx0
    go_wp2
    go_round
    case rel => exact ⟨k - 1, by omega, by go_num, by rw [← HT.out, show k = k - 1 + 1 by omega, M.tr_take_succ HX.out, M.tr_snoc_zero]; simp⟩
    case measure => simp [intOf]; omega
   ·have hl : (M.tr xs).length = k := by
     rw [← HT.out, show k = k - 1 + 1 by omega, M.tr_take_succ HX.out, M.tr_snoc_pos _ hx0, ← M.tr_take_succ HX.out, List.length_take, H.out.len]
     omega
    have HL := Lib.hid hl
    clear hl
    go_wp2
    go_ret
    exact ⟨ret_slice HL.out.symm, rfl⟩

set_option maxHeartbeats 400000 in
theorem limb_any (A : Option Addr) (n c : Nat) (xs : List Nat) (i : Int) (w : World) (h : Rd w A n c xs) (hm : n ≤ 4194304) (h0 : 0 ≤ i) :
  Calls Tryz.prog 152 #[.slice A n c, .int .i64 i] w fun e w' => e = .returned (.int .u32 (M.limbAt xs i.toNat : Nat)) ∧ w = w' := by
 obtain ⟨k, rfl⟩ := Int.eq_ofNat_of_zero_le h0
 rw [Int.toNat_natCast]
 have H := Lib.hid h
 clear h
 by_cases hk : k < n
 ·obtain ⟨b, o, x, hA, hx, hxl, hcell⟩ := H.out.at32 hk
  subst hA
  rw [M.limbAt_some hx]
  clear hx H
  go_enter Tryz.func152, Tryz.ntmps152
  go_wp2
  go_ret
  exact ⟨rfl, rfl⟩
 ·rw [M.limbAt_none (by rw [H.out.len]; omega)]
  clear H
  go_enter Tryz.func152, Tryz.ntmps152
  go_wp2
  go_ret
  exact ⟨rfl, rfl⟩

end Go.Proofs.YtbhgbilhoonopaaGreat

/- slices.Clone, nat.Trim, nat.From, nat.Small: for every slice of limbs. -/
namespace Go.Proofs.YtbhgbilhoonopaaGreat
open Go.RowKit
set_option linter.unusedVariables false

set_option maxHeartbeats 400000 in
theorem clone_any (A : Option Addr) (n c : Nat) (xs : List Nat) (w : World) (h : Rd w A n c xs) (hm : n ≤ 4194304) :
  Calls Tryz.prog 149 #[.slice A n c] w (Gives w xs) := by
 have hq := fun (a : Option Addr) (n c : Nat) (w : World) => Lib.run_eql_slice_nil (P := Tryz.prog) w 22 44 a n c 0 0 Tryz.underlying22
 have hl := h.len
 cases A with
 | none =>
  have hn : n = 0 := by have := h.nil rfl; have := h.cap; omega
  subst hn
  have hx : xs = [] := List.eq_nil_of_length_eq_zero hl
  subst hx
  clear h hl
  go_enter Tryz.func149, Tryz.ntmps149
  go_wp2
  go_ret
  exact ⟨none, 0, rfl, OwK.nil_ _ _, Below.refl _ _⟩
 | some ad =>
  have H := Lib.hid h
  have HL := Lib.hid hl
  clear h hl
  go_enter Tryz.func149, Tryz.ntmps149
  go_wp2_with (at_builtin; refine app_own kU32 _ rfl _ _ rfl w.heap.size _ 0 0 [] rfl (OwK.lit0 (Nat.le_refl _)) (some ad) n c xs rfl (H.out.alloc _) ?b1 ?b2 ?_; rotate_right; intro A1 c1 w1 ho1 hg1)
  case b1 => omega
  case b2 => simp
  go_ret
  have e : 0 + n = xs.length := by rw [HL.out]; omega
  rw [e] at ho1
  refine ⟨A1, c1, ret_slice HL.out.symm, ho1, ((Below.refl _ _).alloc (Nat.le_refl _) _).grown hg1 (by simp) (fun k hk => ?_)⟩
  cases hk
  exact Nat.le_refl _

set_option maxHeartbeats 400000 in
theorem trim_any (A : Option Addr) (n c : Nat) (xs : List Nat) (w : World) (h : Rd w A n c xs) (hm : n ≤ 4194304) :
  Calls Tryz.prog 124 #[.slice A n c] w (Gives w (M.lims (M.val xs))) := by
 have hs := M.tr_length_le xs
 rw [h.len] at hs
 rw [← M.tr_eq_lims h.Lim]
 have H := Lib.hid h
 clear h
 go_enter Tryz.func124, Tryz.ntmps124
 go_wp2_with (first
  | (go_at_call 111; refine (short_any _ _ _ xs _ H.out hm).mono ?_; rintro e w' ⟨rfl, rfl⟩)
  | (go_at_call 149; refine (clone_any _ _ _ _ _ H.out.short (by omega)).mono ?_; rintro e w' ⟨A1, c1, rfl, ho1, hb1⟩))
 go_ret
 exact ⟨A1, c1, rfl, ho1, hb1⟩

theorem lims_small (n : Nat) (h : n < 18446744073709551616) : M.lims n = M.tr [n % M.R, n / M.R] := by
 have h1 : n % M.R < M.R := Nat.mod_lt _ M.R_pos
 have h2 : n / M.R < M.R := by rw [M.R_eq]; omega
 have hl : M.Lim [n % M.R, n / M.R] := M.Lim.cons h1 (M.Lim.cons h2 M.Lim.nil)
 rw [M.tr_eq_lims hl]
 simp only [M.val, Nat.mul_zero, Nat.add_zero]
 rw [Nat.mod_add_div]

/-- A new block of two limbs. -/
theorem Rd.two (w : World) (x y : Nat) (hx : x < M.R) (hy : y < M.R) : Own (w.alloc (.cells #[.int .u32 (x : Int), .int .u32 (y : Int)] 44)) w.heap.size (some ⟨w.heap.size, 0, none⟩) 2 2 [x, y] :=
 ⟨World.ownsRow_lit w #[.int .u32 (x : Int), .int .u32 (y : Int)] 2 (Nat.le_refl _) (by unfold maxLen; omega) rfl, M.Lim.cons hx (M.Lim.cons hy M.Lim.nil)⟩

set_option maxHeartbeats 400000 in
theorem from_any (n : Int) (w : World) (h0 : 0 ≤ n) (h1 : n < 18446744073709551616) :
  Calls Tryz.prog 90 #[.int .u64 n] w (Gives w (M.lims n.toNat)) := by
 obtain ⟨m, rfl⟩ := Int.eq_ofNat_of_zero_le h0
 rw [Int.toNat_natCast]
 have hm : m < 18446744073709551616 := by omega
 have hlt1 : m % M.R < M.R := Nat.mod_lt _ M.R_pos
 have hlt2 : m / M.R < M.R := by rw [M.R_eq]; omega
 have ho := Rd.two w _ _ hlt1 hlt2
 rw [lims_small m hm]
 have HO := Lib.hid ho
 have H1 := Lib.hid (show (m : Int) % 4294967296 = ((m % M.R : Nat) : Int) by rw [M.R_eq]; omega)
 have H2 := Lib.hid (show (m : Int) / 4294967296 = ((m / M.R : Nat) : Int) by rw [M.R_eq]; omega)
 clear ho hlt1 hlt2 hm
 go_enter Tryz.func90, Tryz.ntmps90
 go_wp2_with fail
 rw [H1.out, H2.out]
 refine (short_any _ _ _ _ _ HO.out.rd (by omega)).mono ?_
 rintro e w' ⟨rfl, rfl⟩
 go_wp2
 go_ret
 exact ⟨_, _, rfl, HO.out.short, (Below.refl _ _).alloc (Nat.le_refl _) _⟩

set_option maxHeartbeats 400000 in
theorem small_yes (A : Option Addr) (n c : Nat) (xs : List Nat) (w : World) (h : Rd w A n c xs) (hm : n ≤ 4194304) (hv : M.val xs < 18446744073709551616) :
  Calls Tryz.prog 131 #[.slice A n c] w fun e w' => e = .returned (.tuple #[.int .u64 (M.val xs), .bool true]) ∧ w = w' := by
 have hs : (M.tr xs).length ≤ 2 := by
  rw [M.tr_eq_lims h.Lim, M.lims_length_le]
  exact hv
 have hx0 := M.limbAt_lt h.Lim 0
 have hx1 := M.limbAt_lt h.Lim 1
 rw [M.val_two hs]
 rw [M.R_eq] at hx0 hx1 ⊢
 have H := Lib.hid h
 clear h hv
 go_enter Tryz.func131, Tryz.ntmps131
 go_wp2_with fail
 refine (short_any _ _ _ _ _ H.out hm).mono ?_
 rintro e w' ⟨rfl, rfl⟩
 go_wp2_with fail
 refine (limb_any _ _ _ _ _ _ H.out hm (by omega)).mono ?_
 rintro e w' ⟨rfl, rfl⟩
 go_wp2_with fail
 refine (limb_any _ _ _ _ _ _ H.out hm (by omega)).mono ?_
 rintro e w' ⟨rfl, rfl⟩
 go_wp2_with fail
 go_ret2
 exact ⟨ret_eq (by rw [← or_lo_hi _ _ hx0 hx1]; rfl), rfl⟩

set_option maxHeartbeats 400000 in
theorem small_no (A : Option Addr) (n c : Nat) (xs : List Nat) (w : World) (h : Rd w A n c xs) (hm : n ≤ 4194304) (hv : ¬ M.val xs < 18446744073709551616) :
  Calls Tryz.prog 131 #[.slice A n c] w fun e w' => e = .returned (.tuple #[.int .u64 0, .bool false]) ∧ w = w' := by
 have hs : 2 < (M.tr xs).length := by
  rw [M.tr_eq_lims h.Lim]
  refine Nat.lt_of_not_le fun hc => hv (M.lims_length_le.1 hc)
 have H := Lib.hid h
 clear h hv
 go_enter Tryz.func131, Tryz.ntmps131
 go_wp2_with fail
 refine (short_any _ _ _ _ _ H.out hm).mono ?_
 rintro e w' ⟨rfl, rfl⟩
 go_wp2_with fail
 go_ret2
 exact ⟨rfl, rfl⟩

end Go.Proofs.YtbhgbilhoonopaaGreat

/- litmusref01.Same, same, few, sub2: for every slice of limbs. -/
namespace Go.Proofs.YtbhgbilhoonopaaGreat
open Go.RowKit
set_option linter.unusedVariables false

theorem take_snoc_eq {α : Type} {xs ys : List α} {k : Nat} {x y : α} (h : xs.take k = ys.take k) (hx : xs[k]? = some x) (hy : ys[k]? = some y) (e : x = y) : xs.take (k + 1) = ys.take (k + 1) := by
 rw [List.take_add_one, List.take_add_one, h, hx, hy, e]

theorem below_drewN {B : Nat} {a w : World} (h : Below B a w) (n : Nat) : Below B a (w.drewN n) := ⟨h.os, h.tape, h.output, h.size, h.block⟩

set_option maxHeartbeats 1000000 in
theorem Same_any (A : Option Addr) (n c : Nat) (xs : List Nat) (B : Option Addr) (m d : Nat) (ys : List Nat) (w : World) (h : Rd w A n c xs) (k : Rd w B m d ys) (hm : n ≤ 4194304) (hm' : m ≤ 4194304) :
  Calls Tryz.prog 73 #[.slice A n c, .slice B m d] w fun e w' => e = .returned (.bool (decide (xs = ys))) ∧ Below w.heap.size w w' := by
 have H := Lib.hid h
 have K := Lib.hid k
 clear h k
 by_cases hnm : n = m
 ·have hne : (((n : Nat) : Int) != (m : Int)) = false := by simp [hnm]
  subst hnm
  go_enter Tryz.func73, Tryz.ntmps73
  go_wp2
  go_loopw [5] (fun i wr => ∃ k : Nat, k ≤ n ∧ i = .int .i64 k ∧ xs.take k = ys.take k ∧ Below w.heap.size w wr) (fun i _ => n - (intOf i).toNat)
  case atStart => exact ⟨0, Nat.zero_le _, rfl, rfl, Below.refl _ _⟩
  case round =>
   obtain ⟨k, hk, rfl, ht, hb⟩ := hrel
   have HT := Lib.hid ht
   have HB := Lib.hid hb
   clear ht hb
   by_cases hkn : k < n
   ·obtain ⟨b, o, x, hA, hx, hxl, hcell⟩ := (H.out.below HB.out).at32 hkn
    obtain ⟨b', o', y, hA', hy, hyl, hcell'⟩ := (K.out.below HB.out).at32 hkn
    subst hA hA'
    have HX := Lib.hid hx
    have HY := Lib.hid hy
    clear hx hy
    by_cases hxy : x = y
    ·have hne2 : ((x : Int) != (y : Int)) = false := by simp [hxy]
     go_wp2
     go_quiet (fail)
     go_wp2
     go_roundw
     case rel => exact ⟨k + 1, by omega, by go_num, take_snoc_eq HT.out HX.out HY.out hxy, below_drewN HB.out _⟩
     case measure => simp [intOf]; omega
    ·have hne2 : ((x : Int) != (y : Int)) = true := by simp; omega
     go_wp2
     go_quiet (fail)
     go_wp2
     go_ret
     refine ⟨ret_bool ?_, below_drewN HB.out _⟩
     symm
     rw [decide_eq_false_iff_not]
     intro e
     rw [e, HY.out] at HX
     exact hxy (Option.some.inj HX.out).symm
   ·go_wp2
    go_ret
    refine ⟨ret_bool ?_, HB.out⟩
    symm
    rw [decide_eq_true_iff]
    have h1 := HT.out
    rw [List.take_of_length_le (by rw [H.out.len]; omega), List.take_of_length_le (by rw [K.out.len]; omega)] at h1
    exact h1
 ·have hne : (((n : Nat) : Int) != (m : Int)) = true := by simp; omega
  go_enter Tryz.func73, Tryz.ntmps73
  go_wp2
  go_ret
  refine ⟨ret_bool ?_, Below.refl _ _⟩
  symm
  rw [decide_eq_false_iff_not]
  intro e
  have := H.out.len
  have := K.out.len
  rw [e] at *
  omega

end Go.Proofs.YtbhgbilhoonopaaGreat

/- nat.sum adds rows by columns: for one to three rows of limbs; nat.Add. -/
namespace Go.Proofs.YtbhgbilhoonopaaGreat
open Go.RowKit
set_option linter.unusedVariables false

/-- A slice of limbs, with what it reads as. -/
structure Sl where
 A : Option Addr
 n : Nat
 c : Nat
 xs : List Nat
def Sl.Rd (w : World) (s : Sl) : Prop := RdK kU32 w s.A s.n s.c s.xs

/-- A slice of slices of limbs. -/
structure Rws (w : World) (b : Nat) (rs : List Sl) : Prop where
 cells : ∀ (i : Nat) (s : Sl), rs[i]? = some s → w.cell? ⟨b, i, none⟩ = some (.slice s.A s.n s.c)
 rd : ∀ s ∈ rs, s.Rd w
 few : ∀ s ∈ rs, s.n ≤ 1048576
 lt : b < w.heap.size

def xss (rs : List Sl) : List (List Nat) := rs.map Sl.xs

theorem Rws.below {w w' : World} {b : Nat} {rs : List Sl} (h : Rws w b rs) (hb : Below w.heap.size w w') : Rws w' b rs :=
 ⟨fun i s hs => (hb.cell (p := ⟨b, i, none⟩) h.lt).trans (h.cells i s hs), fun s hs => RdK.below (h.rd s hs) hb, h.few, by have := hb.size; have := h.lt; omega⟩

theorem Rws.limAll {w : World} {b : Nat} {rs : List Sl} (h : Rws w b rs) : ∀ r ∈ xss rs, M.Lim r := by
 intro r hr
 obtain ⟨s, hs, rfl⟩ := List.mem_map.1 hr
 exact (h.rd s hs).lim

set_option maxHeartbeats 2000000 in
theorem sum_any (b : Nat) (rs : List Sl) (cnt : Nat) (w : World) (h : Rws w b rs) (hn : rs.length = cnt) (h1 : 1 ≤ cnt) (h3 : cnt ≤ 3) :
  Calls Tryz.prog 142 #[.slice (some ⟨b, 0, none⟩) cnt cnt] w (Gives w (M.lims (M.vals (xss rs)))) := by
 have H := Lib.hid h
 have HN := Lib.hid hn
 clear h hn
 go_enter Tryz.func142, Tryz.ntmps142
 go_wp2
 go_loop [3, 13] (fun l i => ∃ k m : Nat, k ≤ cnt ∧ i = .int .i64 k ∧ l = .int .i64 m ∧ m ≤ 1048576 ∧ ∀ s ∈ rs.take k, s.n ≤ m) (fun _ i => cnt - (intOf i).toNat)
 case atStart => exact ⟨0, 0, Nat.zero_le _, rfl, rfl, by omega, by simp⟩
 case round =>
  obtain ⟨k, m, hk, rfl, rfl, hm, hall⟩ := hrel
  have HA := Lib.hid hall
  clear hall
  by_cases hkc : k < cnt
  ·obtain ⟨s, hs⟩ : ∃ s, rs[k]? = some s := ⟨_, List.getElem?_eq_getElem (by rw [HN.out]; exact hkc)⟩
   have hcell := H.out.cells k s hs
   have hsn := H.out.few s (List.mem_of_getElem? hs)
   have HS := Lib.hid hs
   clear hs
   have key : ∀ m', m ≤ m' → s.n ≤ m' → ∀ s' ∈ rs.take (k + 1), s'.n ≤ m' := by
    intro m' h1 h2 s' hs'
    rw [List.take_add_one, HS.out] at hs'
    rcases List.mem_append.1 hs' with h | h
    ·exact Nat.le_trans (HA.out s' h) h1
    ·simp at h; subst h; exact h2
   have HK := Lib.hid key
   clear key
   obtain ⟨sA, sn, sc, sxs⟩ := s
   dsimp only at hcell hsn HK
   by_cases hms : (m : Int) < sn
   ·go_wp2
    go_round
    case rel => exact ⟨k + 1, sn, by omega, by go_num, rfl, by omega, HK.out _ (by omega) (by omega)⟩
    case measure => simp [intOf]; omega
   ·go_wp2
    all_goals
     go_round
     case rel => exact ⟨k + 1, m, by omega, by go_num, by go_num, by omega, HK.out _ (by omega) (by omega)⟩
     case measure => simp [intOf]; omega
  ·have hall : ∀ r ∈ xss rs, r.length ≤ m := by
    intro r hr
    obtain ⟨s, hs, rfl⟩ := List.mem_map.1 hr
    have := HA.out s (by rw [List.take_of_length_le (by rw [HN.out]; omega)]; exact hs)
    rw [(H.out.rd s hs).len]
    exact this
   have HAll := Lib.hid hall
   clear hall HA
   go_wp2_with (at_make; refine make_own kU32 _ rfl _ _ rfl .i64 .i64 _ (m + 1) rfl rfl (by omega) (by omega) ?_; intro w1 ho1 hb1; have HO1 := Lib.hid ho1; have HB1 := Lib.hid hb1; clear ho1 hb1)
   go_loopw [6, 7, 26] (fun v q i wr => ∃ (k cy cp : Nat) (A : Option Addr) (ds : List Nat), k ≤ m ∧ i = .int .i64 k ∧ q = .int .u64 cy ∧ cy < cnt ∧ v = .slice A k cp ∧ Own wr w.heap.size A k cp ds ∧
     M.val ds + M.R ^ k * cy = M.tot (xss rs) k ∧ Below w.heap.size w wr) (fun _ _ i _ => m - (intOf i).toNat)
   case atStart => exact ⟨0, 0, m + 1, some ⟨w.heap.size, 0, none⟩, [], Nat.zero_le _, rfl, rfl, by omega, rfl, HO1.out, by rw [M.tot_zero]; rfl, HB1.out⟩
   case round =>
    obtain ⟨k, cy, cp, A, ds, hk, rfl, rfl, hcy, rfl, ho, hv, hb⟩ := hrel
    have HO := Lib.hid ho
    have HV := Lib.hid hv
    have HB := Lib.hid hb
    clear ho hv hb
    have HR := Lib.hid (H.out.below HB.out)
    by_cases hkm : k < m
    ·go_wp2
     go_loop [7, 31] (fun q i => ∃ j c' : Nat, j ≤ cnt ∧ i = .int .i64 j ∧ q = .int .u64 c' ∧ c' = cy + M.col (xss (rs.take j)) k) (fun _ i => cnt - (intOf i).toNat)
     case atStart => exact ⟨0, cy, Nat.zero_le _, rfl, rfl, by simp [xss, M.col]⟩
     case round =>
      obtain ⟨j, c', hj, rfl, rfl, hc'⟩ := hrel
      have HC := Lib.hid hc'
      clear hc'
      by_cases hjc : j < cnt
      ·obtain ⟨s, hs⟩ : ∃ s, rs[j]? = some s := ⟨_, List.getElem?_eq_getElem (by rw [HN.out]; exact hjc)⟩
       have hcell := HR.out.cells j s hs
       have hsn := HR.out.few s (List.mem_of_getElem? hs)
       have hrd := HR.out.rd s (List.mem_of_getElem? hs)
       have hst : M.col (xss (rs.take (j + 1))) k = M.col (xss (rs.take j)) k + M.limbAt s.xs k := by
        unfold xss
        rw [List.map_take, List.map_take]
        exact M.col_take_succ (by rw [List.getElem?_map, hs]; rfl) k
       have hlim := M.limbAt_lt (RdK.Lim hrd) k
       have hle : M.col (xss (rs.take j)) k + j ≤ j * M.R := by
        have h0 := M.col_le (rs := xss (rs.take j)) (fun r hr => by
         obtain ⟨s', hs', rfl⟩ := List.mem_map.1 hr
         exact RdK.Lim (HR.out.rd s' (List.mem_of_mem_take hs'))) k
        have h1 : (xss (rs.take j)).length = j := by unfold xss; rw [List.length_map, List.length_take, HN.out]; omega
        rw [h1] at h0
        exact h0
       have hjR : j * M.R ≤ 3 * M.R := Nat.mul_le_mul_right _ (by omega)
       rw [M.R_eq] at hlim hle hjR
       have hc'b : c' ≤ 12884901900 := by rw [HC.out]; omega
       have HRd := Lib.hid hrd
       have HST := Lib.hid hst
       clear hs hrd hst hle hjR
       obtain ⟨sA, sn, sc, sxs⟩ := s
       dsimp only at hcell hsn HST hlim
       go_wp2_with (go_at_call 152; refine (limb_any _ _ _ sxs _ _ HRd.out (Nat.le_trans hsn (by omega)) (by omega)).mono ?_; rintro e w' ⟨rfl, rfl⟩)
       go_round
       case rel => exact ⟨j + 1, c' + M.limbAt sxs k, by omega, by go_num, by go_num, by rw [HC.out, HST.out]; omega⟩
       case measure => simp [intOf]; omega
      ·have hjc' : j = cnt := by omega
       have hc2 : c' = cy + M.col (xss rs) k := by
        rw [HC.out, hjc', List.take_of_length_le (by rw [HN.out]; exact Nat.le_refl _)]
       have hlen : (xss rs).length = cnt := by unfold xss; rw [List.length_map, HN.out]
       have hcq := M.sum_carry HR.out.limAll (i := k) (c := cy) (by rw [hlen]; exact hcy)
       have hstep := M.sum_step HO.out.len HV.out
       have hcle := M.col_le HR.out.limAll k
       rw [hlen] at hcle
       have hcR : cnt * M.R ≤ 3 * M.R := Nat.mul_le_mul_right _ h3
       rw [← hc2] at hcq hstep
       have hcb : c' ≤ 12884901900 := by rw [M.R_eq] at hcle hcR; omega
       have hd : c' % M.R < M.R := Nat.mod_lt _ M.R_pos
       rw [hlen] at hcq
       have HST := Lib.hid hstep
       have HCQ := Lib.hid hcq
       have HD := Lib.hid hd
       clear hc2 hstep hcq hcle hcR hlen HC hjc' hd
       obtain ⟨d, hd⟩ : ∃ d : Nat, d = c' % M.R := ⟨_, rfl⟩
       obtain ⟨q, hq⟩ : ∃ q : Nat, q = c' / M.R := ⟨_, rfl⟩
       rw [← hd, ← hq] at HST
       rw [← hd] at HD
       rw [← hq] at HCQ
       have hd2 : (c' : Int) % 4294967296 = d := by rw [hd, M.R_eq]; omega
       have hq2 : (c' : Int) / 4294967296 = q := by rw [hq, M.R_eq]; omega
       have HMK : k + 1 ≤ 8388608 := by omega
       clear hd hq
       go_wp2_with (at_builtin; refine app_own kU32 _ rfl _ _ rfl w.heap.size A k cp ds rfl (HO.out.alloc _) _ 1 1 [d] rfl (RdK.one _ d HD.out) HMK (by have := HB.out.size; simp; omega) ?_; intro A2 c2 w2 ho2 hg2; have HO2 := Lib.hid ho2; have HG2 := Lib.hid hg2; clear ho2 hg2)
       go_roundw
       case rel => exact ⟨k + 1, q, c2, A2, ds ++ [d], by omega, by go_num, by go_num, HCQ.out, rfl, HO2.out, HST.out, below_app HB.out HB.out.size HO.out HG2.out⟩
       case measure => simp [intOf]; omega
    ·obtain rfl : k = m := by omega
     have hcyR : cy < M.R := by rw [M.R_eq]; omega
     have hmod : (cy : Int) % 4294967296 = cy := by omega
     have hval : M.vals (xss rs) = M.val (ds ++ [cy]) := by
      rw [← M.tot_all HAll.out, ← HV.out, M.val_append, HO.out.len]
      simp [M.val]
     have HVAL := Lib.hid hval
     have HCY := Lib.hid hcyR
     clear hval hcyR
     go_wp2_with (first
      | (at_builtin; refine app_own kU32 _ rfl _ _ rfl w.heap.size A k cp ds rfl (HO.out.alloc _) _ 1 1 [cy] rfl (RdK.one _ cy HCY.out) (by omega) (by have := HB.out.size; simp; omega) ?_; intro A2 c2 w2 ho2 hg2; have HO2 := Lib.hid ho2; have HG2 := Lib.hid hg2; clear ho2 hg2)
      | (go_at_call 111; refine (short_any _ _ _ _ _ HO2.out.rd (by omega)).mono ?_; rintro e w' ⟨rfl, rfl⟩))
     go_ret
     have hs := HO2.out.short
     rw [M.tr_eq_lims HO2.out.Lim, ← HVAL.out] at hs
     refine ⟨A2, c2, ?_, hs, below_app HB.out HB.out.size HO.out HG2.out⟩
     rw [HVAL.out, ← M.tr_eq_lims HO2.out.Lim]
     rfl

set_option maxHeartbeats 400000 in
theorem add_any (A : Option Addr) (n c : Nat) (xs : List Nat) (B : Option Addr) (m d : Nat) (ys : List Nat) (w : World) (h : Rd w A n c xs) (k : Rd w B m d ys) (hm : n ≤ 1048576) (hm' : m ≤ 1048576) :
  Calls Tryz.prog 118 #[.slice A n c, .slice B m d] w (Gives w (M.lims (M.val xs + M.val ys))) := by
 have e : M.val xs + M.val ys = M.vals (xss [⟨A, n, c, xs⟩, ⟨B, m, d, ys⟩]) := by simp [M.vals, xss]
 rw [e]
 have hw : Rws (w.alloc (.cells #[.slice A n c, .slice B m d] 22)) w.heap.size [⟨A, n, c, xs⟩, ⟨B, m, d, ys⟩] := by
  refine ⟨fun i s hs => ?_, fun s hs => ?_, fun s hs => ?_, by simp⟩
  ·rw [cell_of_row _ _ _ #[.slice A n c, .slice B m d] 22 (0, 0) (heap_alloc_new w _)]
   match i, hs with
   | 0, hs => simp at hs; subst hs; rfl
   | 1, hs => simp at hs; subst hs; rfl
  ·simp at hs
   rcases hs with rfl | rfl
   ·exact h.alloc _
   ·exact k.alloc _
  ·simp at hs
   rcases hs with rfl | rfl
   ·exact hm
   ·exact hm'
 have HW := Lib.hid hw
 clear hw h k e
 go_enter Tryz.func118, Tryz.ntmps118
 go_wp2_with fail
 refine (sum_any _ _ 2 _ HW.out rfl (by omega) (by omega)).mono ?_
 rintro e w1 ⟨A1, c1, rfl, ho1, hb1⟩
 go_wp2
 go_ret
 exact ⟨A1, c1, rfl, ho1.mono (by simp), ((Below.refl _ _).alloc (Nat.le_refl _) _).trans (hb1.mono (by simp))⟩

end Go.Proofs.YtbhgbilhoonopaaGreat
namespace Go.Proofs.YtbhgbilhoonopaaGreat
open Go.RowKit
set_option linter.unusedVariables false

def DivBy (w : World) (g o : Nat) (V d n : Nat) (e : Ending) (w' : World) : Prop :=
 ∃ ys, e = .returned (.int .u32 (V % d : Nat)) ∧ ys.length = n ∧ M.Lim ys ∧ M.val ys = V / d ∧ PutK kU32 w w' g o ys

set_option maxHeartbeats 1000000 in
theorem divideBy_any (g o n c : Nat) (xs : List Nat) (d : Nat) (w : World) (h : WrK kU32 w g o n xs) (hn : n ≤ 4194304) (hd : 0 < d) (hd' : d < 4294967296) :
  Calls Tryz.prog 148 #[.slice (some ⟨g, o, none⟩) n c, .int .u32 (d : Int)] w (DivBy w g o (M.val xs) d n) := by
 have H := Lib.hid h
 clear h
 go_enter Tryz.func148, Tryz.ntmps148
 go_wp2
 go_loopw [5, 6] (fun q i wr => ∃ (k left : Nat) (zs : List Nat), k ≤ n ∧ i = .int .i64 ((k : Int) - 1) ∧ q = .int .u64 left ∧ left < d ∧ zs.length = n - k ∧ M.Lim zs ∧
   M.val (xs.drop k) = M.val zs * d + left ∧ PutK kU32 w wr g (o + k) zs) (fun _ i _ => (intOf i + 1).toNat)
 case atStart => exact ⟨n, 0, [], Nat.le_refl _, rfl, rfl, hd, by simp, M.Lim.nil, by rw [List.drop_of_length_le (by rw [H.out.len]; exact Nat.le_refl _)]; simp [M.val], PutK.start H.out _⟩
 case round =>
  obtain ⟨k, left, zs, hk, rfl, rfl, hleft, hzl, hzs, hv, hp⟩ := hrel
  have HZL := Lib.hid hzl
  have HZS := Lib.hid hzs
  have HV := Lib.hid hv
  have HP := Lib.hid hp
  clear hzl hzs hv hp
  by_cases h0 : k = 0
  ·subst h0
   have hdone := M.div_done hleft HV.out
   have HD := Lib.hid hdone
   clear hdone
   go_wp2
   go_ret
   refine ⟨zs, ret_int ?_, by rw [HZL.out]; omega, HZS.out, HD.out.1, HP.out⟩
   have := HD.out.2
   simp at this
   omega
  ·obtain ⟨b, o', x, hA, hx, hxl, hcell⟩ := (H.out.rd (c := n) (Nat.le_refl _)).at32 (show k - 1 < n by omega)
   injection hA with hA
   injection hA with hA hA'
   subst hA hA'
   have hfz := HP.out.frozen (o + (k - 1))
   have hcell' : wr.cell? ⟨g, o + (k - 1), none⟩ = some (.int .u32 (x : Int)) := by rw [HP.out.cellOut (by omega)]; exact hcell
   rw [M.R_eq] at hxl
   obtain ⟨cur, hcur⟩ : ∃ cur : Nat, cur = 4294967296 * left + x := ⟨_, rfl⟩
   have hor : bits .or .u64 ((left : Int) * 4294967296) (x : Int) = (cur : Int) := by rw [hcur]; exact or_hi_lo x left hxl (by omega)
   have hcl : cur < 18446744073709551616 := by omega
   have hk1 : 1 ≤ k := by omega
   obtain ⟨q, hq⟩ : ∃ q : Nat, q = cur / d := ⟨_, rfl⟩
   obtain ⟨r, hr⟩ : ∃ r : Nat, r = cur % d := ⟨_, rfl⟩
   have hql : q < 4294967296 := by rw [hq, hcur]; exact M.div_limb_lt hleft (by rw [M.R_eq]; exact hxl)
   have hrl : r < d := by rw [hr]; exact Nat.mod_lt _ hd
   have hstep := M.div_step (x := x) hd HV.out
   rw [M.R_eq, ← hcur, ← hq, ← hr] at hstep
   have hq2 : (cur : Int) / (d : Int) = q := by rw [hq]; simp
   have hr2 : (cur : Int) % (d : Int) = r := by rw [hr]; simp
   have HST := Lib.hid hstep
   have HC := Lib.hid hcell
   have HX := Lib.hid hx
   clear hcur hcell hx hq hr hstep
   go_wp2
   go_roundw
   case rel =>
    have hpos : o + k = o + (k - 1) + 1 := by omega
    have hp2 := HP.out
    rw [hpos] at hp2
    refine ⟨k - 1, r, q :: zs, by omega, by go_num, by go_num, hrl, by simp [HZL.out]; omega, M.Lim.cons (by rw [M.R_eq]; exact hql) HZS.out, ?_, hp2.cons q HC.out⟩
    rw [M.drop_pred HX.out, show k - 1 + 1 = k by omega, M.val_cons, M.R_eq]
    exact HST.out
   case measure => simp [intOf]; omega

end Go.Proofs.YtbhgbilhoonopaaGreat

/- nat.addTimes and nat.scale, which write a row in its own room: for every row of limbs in a block that may be written. -/
namespace Go.Proofs.YtbhgbilhoonopaaGreat
open Go.RowKit
set_option linter.unusedVariables false

def AddT (w : World) (g o : Nat) (S n : Nat) (e : Ending) (w' : World) : Prop :=
 ∃ (ys : List Nat) (cy : Nat), e = .returned (.int .u32 (cy : Int)) ∧ cy < M.R ∧ ys.length = n ∧ M.Lim ys ∧ M.val ys + M.R ^ n * cy = S ∧ PutK kU32 w w' g o ys

set_option maxHeartbeats 1000000 in
theorem addTimes_any (g o n c : Nat) (us : List Nat) (A : Option Addr) (c' : Nat) (xs : List Nat) (t : Nat) (w : World) (h : WrK kU32 w g o n us) (h' : Rd w A n c' xs) (hne : ∀ p, A = some p → 0 < n → p.block ≠ g)
  (hn : n ≤ 4194304) (ht : t < 4294967296) :
  Calls Tryz.prog 156 #[.slice (some ⟨g, o, none⟩) n c, .slice A n c', .int .u32 (t : Int)] w (AddT w g o (M.val us + t * M.val xs) n) := by
 have H := Lib.hid h
 have H' := Lib.hid h'
 have HNE := Lib.hid hne
 clear h h' hne
 go_enter Tryz.func156, Tryz.ntmps156
 go_wp2
 go_loopw [7, 12] (fun q i wr => ∃ (k cy : Nat) (zs : List Nat), k ≤ n ∧ i = .int .i64 k ∧ q = .int .u64 cy ∧ cy < 4294967296 ∧ zs.length = k ∧ M.Lim zs ∧
   M.val zs + M.R ^ k * cy = M.val (us.take k) + t * M.val (xs.take k) ∧ PutK kU32 w wr g o zs) (fun _ i _ => n - (intOf i).toNat)
 case atStart => exact ⟨0, 0, [], Nat.zero_le _, rfl, rfl, by omega, rfl, M.Lim.nil, rfl, PutK.start H.out _⟩
 case round =>
  obtain ⟨k, cy, zs, hk, rfl, rfl, hcy, hzl, hzs, hv, hp⟩ := hrel
  have HZL := Lib.hid hzl
  have HZS := Lib.hid hzs
  have HV := Lib.hid hv
  have HP := Lib.hid hp
  clear hzl hzs hv hp
  by_cases hkn : k < n
  ·obtain ⟨b1, o1, u, hA, hu, hul, hcellu⟩ := (H.out.rd (c := n) (Nat.le_refl _)).at32 hkn
   injection hA with hA
   injection hA with hA hA'
   subst hA hA'
   obtain ⟨b, o', x, hA, hx, hxl, hcellx⟩ := (H'.out.put HP.out HNE.out).at32 hkn
   subst hA
   have hfz := HP.out.frozen (o + k)
   have hcellu' : wr.cell? ⟨g, o + k, none⟩ = some (.int .u32 (u : Int)) := by rw [HP.out.cellOut (by rw [HZL.out]; omega)]; exact hcellu
   have hstep := M.addTimes_step hu hx HZL.out HV.out
   have hpl := M.limb_mul_le (t := t) hxl (by rw [M.R_eq]; exact ht)
   obtain ⟨p, hp⟩ : ∃ p : Nat, p = x * t := ⟨_, rfl⟩
   rw [← hp] at hstep hpl
   have hp2 : (x : Int) * (t : Int) = (p : Int) := by rw [hp]; simp
   have hd0 := Nat.mod_lt (cy + (p + u)) M.R_pos
   rw [M.R_eq] at hxl hul
   obtain ⟨d, hd⟩ : ∃ d : Nat, d = (cy + (p + u)) % M.R := ⟨_, rfl⟩
   obtain ⟨q, hq⟩ : ∃ q : Nat, q = (cy + (p + u)) / M.R := ⟨_, rfl⟩
   rw [← hd, ← hq] at hstep
   rw [← hd] at hd0
   have hql : q < 4294967296 := by rw [hq, M.R_eq]; omega
   have hd2 : ((cy : Int) + ((p : Int) + (u : Int))) % 4294967296 = d := by rw [hd, M.R_eq]; omega
   have hq2 : ((cy : Int) + ((p : Int) + (u : Int))) / 4294967296 = q := by rw [hq, M.R_eq]; omega
   have HD := Lib.hid hd0
   have HST := Lib.hid hstep
   have HC := Lib.hid hcellu
   clear hcellu hx hu hd hq hstep hd0 hp
   go_wp2
   go_roundw
   case rel =>
    have hc2 := HC.out
    rw [← HZL.out] at hc2
    have hp3 := HP.out.snoc d hc2
    rw [HZL.out] at hp3
    exact ⟨k + 1, q, zs ++ [d], by omega, by go_num, by go_num, hql, by simp [HZL.out], M.Lim.append HZS.out (M.Lim.cons HD.out M.Lim.nil), HST.out, hp3⟩
   case measure => simp [intOf]; omega
  ·have hkn' : k = n := by omega
   have hmod : (cy : Int) % 4294967296 = cy := by omega
   have hcyR : cy < M.R := by rw [M.R_eq]; exact hcy
   have hv := HV.out
   rw [hkn', List.take_of_length_le (by rw [H.out.len]; exact Nat.le_refl _), List.take_of_length_le (by rw [H'.out.len]; exact Nat.le_refl _)] at hv
   have HV2 := Lib.hid hv
   have HCR := Lib.hid hcyR
   have HK := Lib.hid hkn'
   clear hv HV hcyR hkn'
   go_wp2
   go_ret
   exact ⟨zs, cy, rfl, HCR.out, by rw [HZL.out, HK.out], HZS.out, HV2.out, HP.out⟩

set_option maxHeartbeats 1000000 in
theorem scale_any (g o n c : Nat) (xs : List Nat) (t pl : Nat) (w : World) (h : WrK kU32 w g o n xs) (hn : n ≤ 4194304) (ht : t < 4294967296) (hpl : pl < 4294967296) :
  Calls Tryz.prog 128 #[.slice (some ⟨g, o, none⟩) n c, .int .u32 (t : Int), .int .u32 (pl : Int)] w (AddT w g o (pl + t * M.val xs) n) := by
 have H := Lib.hid h
 clear h
 go_enter Tryz.func128, Tryz.ntmps128
 go_wp2
 go_loopw [7, 14] (fun q i wr => ∃ (k cy : Nat) (zs : List Nat), k ≤ n ∧ i = .int .i64 k ∧ q = .int .u64 cy ∧ cy < 4294967296 ∧ zs.length = k ∧ M.Lim zs ∧
   M.val zs + M.R ^ k * cy = pl + t * M.val (xs.take k) ∧ PutK kU32 w wr g o zs) (fun _ i _ => n - (intOf i).toNat)
 case atStart => exact ⟨0, pl, [], Nat.zero_le _, rfl, rfl, by omega, rfl, M.Lim.nil, by simp [M.val], PutK.start H.out _⟩
 case round =>
  obtain ⟨k, cy, zs, hk, rfl, rfl, hcy, hzl, hzs, hv, hp⟩ := hrel
  have HZL := Lib.hid hzl
  have HZS := Lib.hid hzs
  have HV := Lib.hid hv
  have HP := Lib.hid hp
  clear hzl hzs hv hp
  by_cases hkn : k < n
  ·obtain ⟨b1, o1, x, hA, hx, hxl, hcellu⟩ := (H.out.rd (c := n) (Nat.le_refl _)).at32 hkn
   injection hA with hA
   injection hA with hA hA'
   subst hA hA'
   have hfz := HP.out.frozen (o + k)
   have hcellu' : wr.cell? ⟨g, o + k, none⟩ = some (.int .u32 (x : Int)) := by rw [HP.out.cellOut (by rw [HZL.out]; omega)]; exact hcellu
   have hstep := M.scale_step hx HZL.out HV.out
   have hpb := M.limb_mul_le (t := t) hxl (by rw [M.R_eq]; exact ht)
   obtain ⟨p, hp⟩ : ∃ p : Nat, p = x * t := ⟨_, rfl⟩
   rw [← hp] at hstep hpb
   have hp2 : (x : Int) * (t : Int) = (p : Int) := by rw [hp]; simp
   have hd0 := Nat.mod_lt (cy + p) M.R_pos
   rw [M.R_eq] at hxl
   obtain ⟨d, hd⟩ : ∃ d : Nat, d = (cy + p) % M.R := ⟨_, rfl⟩
   obtain ⟨q, hq⟩ : ∃ q : Nat, q = (cy + p) / M.R := ⟨_, rfl⟩
   rw [← hd, ← hq] at hstep
   rw [← hd] at hd0
   have hql : q < 4294967296 := by rw [hq, M.R_eq]; omega
   have hd2 : ((cy : Int) + (p : Int)) % 4294967296 = d := by rw [hd, M.R_eq]; omega
   have hq2 : ((cy : Int) + (p : Int)) / 4294967296 = q := by rw [hq, M.R_eq]; omega
   have HD := Lib.hid hd0
   have HST := Lib.hid hstep
   have HC := Lib.hid hcellu
   clear hcellu hx hd hq hstep hd0 hp
   go_wp2
   go_roundw
   case rel =>
    have hc2 := HC.out
    rw [← HZL.out] at hc2
    have hp3 := HP.out.snoc d hc2
    rw [HZL.out] at hp3
    exact ⟨k + 1, q, zs ++ [d], by omega, by go_num, by go_num, hql, by simp [HZL.out], M.Lim.append HZS.out (M.Lim.cons HD.out M.Lim.nil), HST.out, hp3⟩
   case measure => simp [intOf]; omega
  ·have hkn' : k = n := by omega
   have hmod : (cy : Int) % 4294967296 = cy := by omega
   have hcyR : cy < M.R := by rw [M.R_eq]; exact hcy
   have hv := HV.out
   rw [hkn', List.take_of_length_le (by rw [H.out.len]; exact Nat.le_refl _)] at hv
   have HV2 := Lib.hid hv
   have HCR := Lib.hid hcyR
   have HK := Lib.hid hkn'
   clear hv HV hcyR hkn'
   go_wp2
   go_ret
   exact ⟨zs, cy, rfl, HCR.out, by rw [HZL.out, HK.out], HZS.out, HV2.out, HP.out⟩

end Go.Proofs.YtbhgbilhoonopaaGreat

/- nat.longProduct, nat.product where the shorter row has fewer than 40 limbs, nat.Mul there. -/
namespace Go.Proofs.YtbhgbilhoonopaaGreat
open Go.RowKit
set_option linter.unusedVariables false

theorem take_piece (ds : List Nat) (k la r : Nat) (hd : ds.length = k + la) : ((ds ++ List.replicate r 0).drop k).take la = ds.drop k := by
 rw [List.drop_append_of_le_length (by omega), List.take_append_of_le_length (by rw [List.length_drop]; omega), List.take_of_length_le (by rw [List.length_drop]; omega)]

theorem set_piece (ds zs : List Nat) (k la r cy : Nat) (hd : ds.length = k + la) (hz : zs.length = la) :
  ((ds ++ List.replicate (r + 1) 0).take k ++ zs ++ (ds ++ List.replicate (r + 1) 0).drop (k + zs.length)).set (k + la) cy = (ds.take k ++ zs ++ [cy]) ++ List.replicate r 0 := by
 rw [List.take_append_of_le_length (by omega), hz, ← hd, List.drop_left, List.replicate_succ]
 have hl : ds.length = (ds.take k ++ zs).length := by rw [List.length_append, List.length_take, hz]; omega
 rw [hl, List.set_append, if_neg (by omega), Nat.sub_self]
 simp

set_option maxHeartbeats 2000000 in
theorem longProduct_any (A : Option Addr) (n c : Nat) (xs : List Nat) (B : Option Addr) (m d : Nat) (ys : List Nat) (w : World) (h : Rd w A n c xs) (k : Rd w B m d ys) (hmn : m ≤ n) (hn : n ≤ 1048576) :
  Calls Tryz.prog 141 #[.slice A n c, .slice B m d] w (Gives w (M.lims (M.val xs * M.val ys))) := by
 have H := Lib.hid h
 have K := Lib.hid k
 have hAb : ∀ p, A = some p → 0 < n → p.block ≠ w.heap.size := fun p hp hn' e => by have := h.blk hn' hp; omega
 have HAB := Lib.hid hAb
 clear h k hAb
 go_enter Tryz.func141, Tryz.ntmps141
 go_wp2_with (at_make; refine make_full kU32 _ rfl _ _ rfl .i64 .i64 _ _ (n + m) rfl rfl (by omega) (by omega) (by omega) M.R_pos ?_; intro w1 ho1 hb1; have HO1 := Lib.hid ho1; have HB1 := Lib.hid hb1; clear ho1 hb1)
 go_loopw [16] (fun i wr => ∃ (j : Nat) (ds : List Nat), j ≤ m ∧ i = .int .i64 j ∧ ds.length = j + n ∧ M.Lim ds ∧ M.val ds = M.val xs * M.val (ys.take j) ∧
   Own wr w.heap.size (some ⟨w.heap.size, 0, none⟩) (n + m) (n + m) (ds ++ List.replicate (m - j) 0) ∧ Below w.heap.size w wr) (fun i _ => m - (intOf i).toNat)
 case atStart =>
  refine ⟨0, List.replicate n 0, Nat.zero_le _, rfl, by simp, M.lim_replicate n, by rw [M.val_replicate]; simp [M.val], ?_, HB1.out⟩
  rw [Nat.sub_zero, List.replicate_append_replicate]
  exact HO1.out
 case round =>
  obtain ⟨j, ds, hj, rfl, hdl, hds, hv, ho, hb⟩ := hrel
  have HDL := Lib.hid hdl
  have HDS := Lib.hid hds
  have HV := Lib.hid hv
  have HO := Lib.hid ho
  have HB := Lib.hid hb
  clear hdl hds hv ho hb HO1 HB1
  by_cases hjm : j < m
  ·obtain ⟨b, o', t, hA, ht, htl, hcell⟩ := (K.out.below HB.out).at32 hjm
   subst hA
   have hrd := H.out.below HB.out
   have hwr := OwK.wr (o := j) (m := n) HO.out (by omega)
   rw [take_piece ds j n _ HDL.out] at hwr
   rw [M.R_eq] at htl
   have hjc : ¬ n + m = j := by omega
   have HRD := Lib.hid hrd
   have HWR := Lib.hid hwr
   have HT := Lib.hid ht
   clear hrd hwr ht
   go_wp2_with fail
   refine (addTimes_any w.heap.size j n _ _ A c xs t wr HWR.out HRD.out HAB.out (by omega) htl).mono ?_
   rintro e w2 ⟨zs, cy, rfl, hcy, hzl, hzs, hzv, hp⟩
   have hstep := M.mul_step HDL.out hzl HT.out HV.out hzv
   have ho2 := HO.out.put hp (by omega) hzs
   obtain ⟨ho3, hg3⟩ := ho2.set_ (j + n) cy hcy
   have hrest : m - j = m - (j + 1) + 1 := by omega
   rw [hrest, set_piece ds zs j n _ cy HDL.out hzl] at ho3
   have hl2 : (((ds ++ List.replicate (m - j) 0).take j ++ zs ++ (ds ++ List.replicate (m - j) 0).drop (j + zs.length)))[j + n]? ≠ none := by
    rw [Ne, List.getElem?_eq_none_iff, ho2.len]
    omega
   obtain ⟨old, hold⟩ := Option.ne_none_iff_exists'.1 hl2
   have hcell2 := ho2.cellAt hold
   have hfz2 := ho2.frozenAt (j + n)
   simp only [kU32] at hcell2
   have hb3 : Below w.heap.size w (w2.setCell ⟨w.heap.size, j + n, none⟩ (kU32.enc cy)) :=
    (HB.out.grown hp.grown HB.out.size (fun k hk => by cases hk; exact Nat.le_refl _)).setCell (p := ⟨w.heap.size, j + n, none⟩) (Nat.le_refl _) _
   have hdl2 : (ds.take j ++ zs ++ [cy]).length = j + 1 + n := by
    rw [List.length_append, List.length_append, List.length_take, hzl, HDL.out]
    simp
    omega
   have hdlim : M.Lim (ds.take j ++ zs ++ [cy]) := ((HDS.out.take j).append hzs).append (M.Lim.cons hcy M.Lim.nil)
   have HST := Lib.hid hstep
   have HO3 := Lib.hid ho3
   have HB3 := Lib.hid hb3
   have HDL2 := Lib.hid hdl2
   have HLIM := Lib.hid hdlim
   clear hstep ho3 hb3 hdl2 hdlim hg3 ho2 hold hl2 hrest hzv hp hzl hzs hcy
   go_wp2
   go_roundw
   case rel => exact ⟨j + 1, _, by omega, by go_num, HDL2.out, HLIM.out, HST.out, HO3.out, HB3.out⟩
   case measure => simp [intOf]; omega
  ·have hjm' : j = m := by omega
   have hv := HV.out
   have ho := HO.out
   rw [hjm', List.take_of_length_le (by rw [K.out.len]; exact Nat.le_refl _)] at hv
   rw [hjm', Nat.sub_self, List.replicate_zero, List.append_nil] at ho
   have hs := ho.short
   rw [M.tr_eq_lims HDS.out, hv] at hs
   have HV2 := Lib.hid hv
   have HO2 := Lib.hid ho
   have HS := Lib.hid hs
   clear hv ho hs hjm' HO HV
   go_wp2_with (go_at_call 111; refine (short_any _ _ _ _ _ HO2.out.rd (by omega)).mono ?_; rintro e w' ⟨rfl, rfl⟩)
   go_ret
   refine ⟨_, _, ret_slice ?_, HS.out, HB.out⟩
   rw [M.tr_eq_lims HDS.out, HV2.out]

set_option maxHeartbeats 1000000 in
theorem product_few (A : Option Addr) (n c : Nat) (xs : List Nat) (B : Option Addr) (m d : Nat) (ys : List Nat) (w : World) (h : Rd w A n c xs) (k : Rd w B m d ys) (hn : n ≤ 1048576) (hm : m ≤ 1048576) (hmn : min n m < 40) :
  Calls Tryz.prog 110 #[.slice A n c, .slice B m d] w (Gives w (M.lims (M.val xs * M.val ys))) := by
 have H := Lib.hid h
 have K := Lib.hid k
 clear h k
 by_cases hlt : n < m
 ·have hn40 : n < 40 := by omega
  rw [Nat.mul_comm]
  go_enter Tryz.func110, Tryz.ntmps110
  go_wp2_with fail
  refine (longProduct_any _ _ _ _ _ _ _ _ _ K.out H.out (by omega) hm).mono ?_
  rintro e w1 ⟨A1, c1, rfl, ho1, hb1⟩
  go_wp2
  go_ret
  exact ⟨A1, c1, rfl, ho1, hb1⟩
 ·have hn40 : m < 40 := by omega
  go_enter Tryz.func110, Tryz.ntmps110
  go_wp2_with fail
  refine (longProduct_any _ _ _ _ _ _ _ _ _ H.out K.out (by omega) hn).mono ?_
  rintro e w1 ⟨A1, c1, rfl, ho1, hb1⟩
  go_wp2
  go_ret
  exact ⟨A1, c1, rfl, ho1, hb1⟩

end Go.Proofs.YtbhgbilhoonopaaGreat

/- nat.Mul where one row has fewer than 40 limbs; nat.Div by 0, by more, and by one limb; nat.smallGcd; nat.Gcd of numbers below 2^64. -/
namespace Go.Proofs.YtbhgbilhoonopaaGreat
open Go.RowKit
set_option linter.unusedVariables false

set_option maxHeartbeats 1000000 in
theorem mul_few (A : Option Addr) (n c : Nat) (xs : List Nat) (B : Option Addr) (m d : Nat) (ys : List Nat) (w : World) (h : Rd w A n c xs) (k : Rd w B m d ys) (hn : n ≤ 1048576) (hm : m ≤ 1048576)
  (hmn : min (M.lims (M.val xs)).length (M.lims (M.val ys)).length < 40) :
  Calls Tryz.prog 68 #[.slice A n c, .slice B m d] w (Gives w (M.lims (M.val xs * M.val ys))) := by
 rw [← M.tr_eq_lims h.Lim, ← M.tr_eq_lims k.Lim] at hmn
 have h1 := M.tr_length_le xs
 have h2 := M.tr_length_le ys
 rw [h.len] at h1
 rw [k.len] at h2
 have hs := h.short
 have ks := k.short
 rw [← M.val_tr xs, ← M.val_tr ys]
 have H := Lib.hid h
 have K := Lib.hid k
 have HS := Lib.hid hs
 have KS := Lib.hid ks
 clear h k hs ks
 go_enter Tryz.func68, Tryz.ntmps68
 go_wp2_with fail
 refine (short_any _ _ _ _ _ H.out (by omega)).mono ?_
 rintro e w' ⟨rfl, rfl⟩
 go_wp2_with fail
 refine (short_any _ _ _ _ _ K.out (by omega)).mono ?_
 rintro e w' ⟨rfl, rfl⟩
 go_wp2_with fail
 refine (product_few _ _ _ _ _ _ _ _ _ HS.out KS.out (by omega) (by omega) hmn).mono ?_
 rintro e w1 ⟨A1, c1, rfl, ho1, hb1⟩
 go_wp2
 go_ret
 exact ⟨A1, c1, rfl, ho1, hb1⟩

/-- Div answers two new rows and a code. -/
def Gives2 (w : World) (xs ys : List Nat) (code : Int) (e : Ending) (w' : World) : Prop :=
 ∃ A c B d, e = .returned (.tuple #[.slice A xs.length c, .slice B ys.length d, .int .i64 code]) ∧ Own w' w.heap.size A xs.length c xs ∧ Own w' w.heap.size B ys.length d ys ∧
  (∀ p q, A = some p → B = some q → p.block ≠ q.block) ∧ Below w.heap.size w w'

set_option maxHeartbeats 1000000 in
theorem div_zero (A : Option Addr) (n c : Nat) (xs : List Nat) (B : Option Addr) (m d : Nat) (ys : List Nat) (w : World) (h : Rd w A n c xs) (k : Rd w B m d ys) (hn : n ≤ 1048576) (hm : m ≤ 1048576) (h0 : M.val ys = 0) :
  Calls Tryz.prog 133 #[.slice A n c, .slice B m d] w (Gives2 w [] [] 3) := by
 have hy : (M.tr ys).length = 0 := by rw [(M.tr_eq_nil_iff ys).2 h0]; rfl
 have H := Lib.hid h
 have K := Lib.hid k
 have HY := Lib.hid hy
 clear h k hy
 go_enter Tryz.func133, Tryz.ntmps133
 go_wp2_with fail
 refine (short_any _ _ _ _ _ H.out (by omega)).mono ?_
 rintro e w' ⟨rfl, rfl⟩
 go_wp2_with fail
 refine (short_any _ _ _ _ _ K.out (by omega)).mono ?_
 rw [HY.out]
 rintro e w' ⟨rfl, rfl⟩
 go_wp2_with fail
 go_ret3
 exact ⟨none, 0, none, 0, rfl, OwK.nil_ _ _, OwK.nil_ _ _, (fun _ _ h => by cases h), Below.refl _ _⟩

set_option maxHeartbeats 1000000 in
theorem div_less (A : Option Addr) (n c : Nat) (xs : List Nat) (B : Option Addr) (m d : Nat) (ys : List Nat) (w : World) (h : Rd w A n c xs) (k : Rd w B m d ys) (hn : n ≤ 1048576) (hm : m ≤ 1048576)
  (hl : (M.tr xs).length < (M.tr ys).length) : Calls Tryz.prog 133 #[.slice A n c, .slice B m d] w (Gives2 w [] (M.tr xs) 0) := by
 have h1 := M.tr_length_le xs
 have h2 := M.tr_length_le ys
 rw [h.len] at h1
 rw [k.len] at h2
 have hs := h.short
 have H := Lib.hid h
 have K := Lib.hid k
 have HS := Lib.hid hs
 clear h k hs
 obtain ⟨nx, hnx⟩ : ∃ nx, (M.tr xs).length = nx := ⟨_, rfl⟩
 obtain ⟨ny, hny⟩ : ∃ ny, (M.tr ys).length = ny := ⟨_, rfl⟩
 rw [hnx, hny] at hl
 rw [hnx] at h1 HS
 rw [hny] at h2
 have HNX := Lib.hid hnx
 have HNY := Lib.hid hny
 clear hnx hny
 have hne : ((ny : Int) == 0) = false := by simp; omega
 go_enter Tryz.func133, Tryz.ntmps133
 go_wp2_with fail
 refine (short_any _ _ _ _ _ H.out (by omega)).mono ?_
 rw [HNX.out]
 rintro e w' ⟨rfl, rfl⟩
 go_wp2_with fail
 refine (short_any _ _ _ _ _ K.out (by omega)).mono ?_
 rw [HNY.out]
 rintro e w' ⟨rfl, rfl⟩
 go_wp2_with fail
 refine (clone_any _ _ _ _ _ HS.out (by omega)).mono ?_
 rintro e w1 ⟨A1, c1, rfl, ho1, hb1⟩
 go_wp2_with fail
 go_ret3
 exact ⟨none, 0, A1, c1, rfl, OwK.nil_ _ _, ho1, (fun _ _ h => by cases h), hb1⟩

end Go.Proofs.YtbhgbilhoonopaaGreat

/- nat.Div by a number of one limb; nat.smallGcd; nat.Gcd of numbers below 2^64. -/
namespace Go.Proofs.YtbhgbilhoonopaaGreat
open Go.RowKit
set_option linter.unusedVariables false

theorem OwK.head {α : Type} {K : Kd α} {w : World} {base n c : Nat} {A : Option Addr} {xs : List α} (h : OwK K w base A n c xs) (hn : 0 < n) : ∃ g, A = some ⟨g, 0, none⟩ ∧ base ≤ g ∧ g < w.heap.size := by
 rcases h.cases with ⟨_, h0, _⟩ | ⟨g, cur, hg, hb, hh, _⟩
 ·omega
 ·exact ⟨g, hg, hb, (Array.getElem?_eq_some_iff.1 hh).1⟩

theorem Gives_len {w : World} {xs : List Nat} {n : Nat} (h : xs.length = n) : Gives w xs = fun e w' => ∃ A c, e = .returned (.slice A n c) ∧ Own w' w.heap.size A n c xs ∧ Below w.heap.size w w' := by
 subst h
 rfl

set_option maxHeartbeats 2000000 in
theorem div_limb (A : Option Addr) (n c : Nat) (xs : List Nat) (B : Option Addr) (m d : Nat) (ys : List Nat) (y : Nat) (w : World) (h : Rd w A n c xs) (k : Rd w B m d ys) (hn : n ≤ 1048576) (hm : m ≤ 1048576)
  (hy : M.tr ys = [y]) (hx : 1 ≤ (M.tr xs).length) : Calls Tryz.prog 133 #[.slice A n c, .slice B m d] w (Gives2 w (M.lims (M.val xs / y)) (M.lims (M.val xs % y)) 0) := by
 have h1 := M.tr_length_le xs
 rw [h.len] at h1
 have hs := h.short
 have ks := k.short
 rw [hy] at ks
 obtain ⟨b, o, y', hB, hy', hyl, hcell⟩ := ks.at32 (i := 0) (by simp)
 simp at hy'
 subst hy'
 subst hB
 have hypos : 0 < y := by
  rcases Nat.eq_zero_or_pos y with h0 | h0
  ·have := M.tr_tr ys
   rw [hy, h0] at this
   simp [M.tr] at this
  ·exact h0
 rw [M.R_eq] at hyl
 rw [← M.val_tr xs]
 have hblt : b < w.heap.size := World.block_lt_of_cell? w _ hcell
 have H := Lib.hid h
 have K := Lib.hid k
 have HS := Lib.hid hs
 have HY := Lib.hid hy
 have HC := Lib.hid hcell
 clear h k hs ks hy hcell
 obtain ⟨nx, hnx⟩ : ∃ nx, (M.tr xs).length = nx := ⟨_, rfl⟩
 rw [hnx] at h1 hx HS
 have HNX := Lib.hid hnx
 clear hnx
 have hne : ((nx : Int) < 1) = False := by simp; omega
 go_enter Tryz.func133, Tryz.ntmps133
 go_wp2_with fail
 refine (short_any _ _ _ _ _ H.out (by omega)).mono ?_
 rw [HNX.out]
 rintro e w' ⟨rfl, rfl⟩
 go_wp2_with fail
 refine (short_any _ _ _ _ _ K.out (by omega)).mono ?_
 rw [HY.out]
 rintro e w' ⟨rfl, rfl⟩
 go_wp2_with fail
 refine (clone_any _ _ _ _ _ HS.out (by omega)).mono ?_
 rw [Gives_len HNX.out]
 rintro e w1 ⟨A1, c1, rfl, ho1, hb1⟩
 obtain ⟨g, rfl, hg, hg'⟩ := ho1.head (by omega)
 have hcell1 : w1.cell? ⟨b, o, none⟩ = some (.int .u32 (y : Int)) := (hb1.cell (p := ⟨b, o, none⟩) hblt).trans HC.out
 have hwr := OwK.wr (o := 0) (m := nx) ho1 (by omega)
 rw [List.drop_zero, List.take_of_length_le (by rw [HNX.out]; exact Nat.le_refl _)] at hwr
 have HO1 := Lib.hid ho1
 have HB1 := Lib.hid hb1
 have HW := Lib.hid hwr
 clear ho1 hb1 hwr
 go_wp2_with fail
 refine (divideBy_any g 0 nx c1 _ y w1 HW.out (by omega) hypos hyl).mono ?_
 rintro e w2 ⟨zs, rfl, hzl, hzs, hzv, hp⟩
 have ho2 := HO1.out.put hp (by omega) hzs
 rw [List.take_zero, List.nil_append, Nat.zero_add, hzl, List.drop_of_length_le (by rw [HNX.out]; exact Nat.le_refl _), List.append_nil] at ho2
 have hb2 : Below w.heap.size w w2 := HB1.out.grown hp.grown HB1.out.size (fun k hk => by cases hk; exact hg)
 have hlt2 : M.val (M.tr xs) % y < y := Nat.mod_lt _ hypos
 obtain ⟨r, hr⟩ : ∃ r, M.val (M.tr xs) % y = r := ⟨_, rfl⟩
 rw [hr] at hlt2 ⊢
 have hs2 := ho2.short
 have hsz : g < w2.heap.size := by rw [hp.size]; exact hg'
 rw [M.tr_eq_lims hzs, hzv] at hs2
 have hsl : (M.tr zs).length = (M.lims (M.val (M.tr xs) / y)).length := by rw [M.tr_eq_lims hzs, hzv]
 have HO2 := Lib.hid ho2
 have HB2 := Lib.hid hb2
 have HS2 := Lib.hid hs2
 have HSL := Lib.hid hsl
 have HR := Lib.hid hr
 clear ho2 hb2 hs2 hzs hzv hp hr hsl hzl
 go_wp2_with fail
 refine (short_any _ _ _ _ _ HO2.out.rd (by omega)).mono ?_
 rw [HSL.out]
 rintro e w' ⟨rfl, rfl⟩
 go_wp2_with fail
 refine (from_any _ _ (by omega) (by omega)).mono ?_
 rw [Int.toNat_natCast]
 rintro e w3 ⟨B3, c3, rfl, ho3, hb3⟩
 go_wp2_with fail
 go_ret3
 rw [HR.out]
 refine ⟨_, _, B3, c3, rfl, HS2.out.below hb3, ho3.mono HB2.out.size, ?_, HB2.out.trans (hb3.mono HB2.out.size)⟩
 intro p q hp hq e
 cases hp
 have := (ho3.lt hq).1
 dsimp only at e
 omega

set_option maxHeartbeats 1000000 in
theorem smallGcd_any (x y : Nat) (w : World) (hx : x < 18446744073709551616) (hy : y < 18446744073709551616) :
  Calls Tryz.prog 132 #[.int .u64 (x : Int), .int .u64 (y : Int)] w fun e w' => e = .returned (.int .u64 (Nat.gcd x y : Nat)) ∧ Below w.heap.size w w' := by
 go_enter Tryz.func132, Tryz.ntmps132
 go_wp2
 go_loopw [0, 1] (fun p q wr => ∃ a b : Nat, p = .int .u64 a ∧ q = .int .u64 b ∧ a < 18446744073709551616 ∧ b < 18446744073709551616 ∧ Nat.gcd a b = Nat.gcd x y ∧ Below w.heap.size w wr) (fun _ q _ => (intOf q).toNat)
 case atStart => exact ⟨x, y, rfl, rfl, hx, hy, rfl, Below.refl _ _⟩
 case round =>
  obtain ⟨a, b, rfl, rfl, ha, hb, hg, hB⟩ := hrel
  have HG := Lib.hid hg
  have HB := Lib.hid hB
  clear hg hB
  by_cases hb0 : b = 0
  ·subst hb0
   have HG2 := Lib.hid (show a = Nat.gcd x y by rw [← HG.out, Nat.gcd_zero_right])
   go_wp2
   go_ret
   exact ⟨ret_int (by rw [← HG2.out]), HB.out⟩
  ·have hbne : ((b : Int) != 0) = true := by simp; omega
   have hbp : 0 < b := by omega
   obtain ⟨r, hr⟩ : ∃ r : Nat, r = a % b := ⟨_, rfl⟩
   have hrl : r < b := by rw [hr]; exact Nat.mod_lt _ hbp
   have hg2 : Nat.gcd b r = Nat.gcd x y := by rw [← HG.out, hr, Nat.gcd_comm a b, Nat.gcd_rec b a, Nat.gcd_comm]
   have hr2 : (a : Int) % (b : Int) = r := by rw [hr]; simp
   have HG2 := Lib.hid hg2
   clear hg2 hr hb0 HG
   go_wp2
   go_quiet (fail)
   go_wp2
   go_roundw
   case rel => exact ⟨b, r, rfl, by go_num, hb, by omega, HG2.out, below_drewN HB.out _⟩
   case measure => simp [intOf]; omega

end Go.Proofs.YtbhgbilhoonopaaGreat
namespace Go.Proofs.YtbhgbilhoonopaaGreat
open Go.RowKit
set_option linter.unusedVariables false

set_option maxHeartbeats 1000000 in
theorem chunk_any (s : ByteArray) (w : World) (hs : s.size ≤ 9) (hd : M.Dig (M.bytes s)) :
  Calls Tryz.prog 129 #[.string s] w fun e w' => e = .returned (.int .u32 (M.dec 0 (M.bytes s) : Nat)) ∧ w = w' := by
 have HD := Lib.hid hd
 clear hd
 go_enter Tryz.func129, Tryz.ntmps129
 go_wp2
 go_loop [3, 7] (fun v i => ∃ k v' : Nat, k ≤ s.size ∧ i = .int .i64 k ∧ v = .int .u32 v' ∧ v' = M.dec 0 ((M.bytes s).take k)) (fun _ i => s.size - (intOf i).toNat)
 case atStart => exact ⟨0, 0, Nat.zero_le _, rfl, rfl, rfl⟩
 case round =>
  obtain ⟨k, v', hk, rfl, rfl, hv⟩ := hrel
  have HV := Lib.hid hv
  by_cases hkn : k < s.size
  ·have hx := M.bytes_get s k hkn
   have hxd := HD.out _ (List.mem_of_getElem? hx)
   have hb : v' < 100000000 := by
    rw [hv]
    have h1 := M.dec_lt (l := (M.bytes s).take k) (fun x hx => HD.out x (List.mem_of_mem_take hx))
    have h2 : 10 ^ ((M.bytes s).take k).length ≤ 10 ^ 8 := Nat.pow_le_pow_right (by omega) (by rw [List.length_take]; omega)
    omega
   have hstep : M.dec 0 ((M.bytes s).take (k + 1)) = v' * 10 + (s[k].toNat - 48) := by
    rw [List.take_add_one, hx, hv]
    exact M.dec_snoc _ _ _
   have HST := Lib.hid hstep
   clear hv hstep hx
   go_wp2
   go_round
   case rel => exact ⟨k + 1, v' * 10 + (s[k].toNat - 48), by omega, by go_num, by go_num, HST.out.symm⟩
   case measure => simp [intOf]; omega
  ·have HV2 := Lib.hid (show v' = M.dec 0 (M.bytes s) by rw [hv, List.take_of_length_le (by rw [M.bytes_len]; omega)])
   clear hv
   go_wp2
   go_ret
   exact ⟨ret_int (by rw [← HV2.out]), rfl⟩

theorem toList_empty {s : ByteArray} : s.toList.isEmpty = decide (s.size = 0) := by
 rw [Lib.toList_data, Lib.size_eq]
 cases s.data.toList <;> simp

set_option maxHeartbeats 2000000 in
theorem isDigits_any (s : ByteArray) (w : World) (hs : s.size ≤ 1048576) :
  Calls Tryz.prog 127 #[.string s] w fun e w' => e = .returned (.bool (decide (M.Digits (M.bytes s)))) ∧ w = w' := by
 have hlen := M.bytes_len s
 by_cases h0 : s.size = 0
 ·have he : s.toList.isEmpty = true := by rw [toList_empty]; simp [h0]
  have hno : decide (M.Digits (M.bytes s)) = false := by
   rw [decide_eq_false_iff_not]
   intro hc
   exact hc.1 (List.eq_nil_of_length_eq_zero (by omega))
  rw [hno]
  clear hno hlen h0
  go_enter Tryz.func127, Tryz.ntmps127
  go_wp2
  go_ret
  exact ⟨rfl, rfl⟩
 ·have he : s.toList.isEmpty = false := by rw [toList_empty]; simp [h0]
  have hpos : 0 < s.size := by omega
  have hx0 := M.bytes_get s 0 hpos
  by_cases hz : s[0].toNat = 48 ∧ 1 < s.size
  ·have hno : decide (M.Digits (M.bytes s)) = false := by
    rw [decide_eq_false_iff_not]
    intro hc
    have := hc.2.1 (by rw [hx0, hz.1])
    omega
   rw [hno]
   obtain ⟨hz1, hz2⟩ := hz
   have hzb : ((s[0].toNat : Int) == 48) = true := by simp; omega
   clear hno hlen hx0 h0 hz1
   go_enter Tryz.func127, Tryz.ntmps127
   go_wp2
   go_ret
   exact ⟨rfl, rfl⟩
  ·have main : ∀ (hyp : (((s[0].toNat : Int) == 48) = true ∧ s.size ≤ 1) ∨ ((s[0].toNat : Int) == 48) = false), Calls Tryz.prog 127 #[.string s] w fun e w' => e = .returned (.bool (decide (M.Digits (M.bytes s)))) ∧ w = w' := by
    have h1 : (M.bytes s)[0]? = some 48 → (M.bytes s).length = 1 := by
     intro h
     rw [hx0] at h
     injection h with h
     omega
    have h2 : M.bytes s ≠ [] := by
     intro h
     rw [h] at hlen
     simp at hlen
     omega
    have hiff : decide (M.Digits (M.bytes s)) = decide (M.Dig (M.bytes s)) := by
     rw [decide_eq_decide]
     exact ⟨fun h => h.2.2, fun h => ⟨h2, h1, h⟩⟩
    have HI := Lib.hid hiff
    clear hiff h1 h2 hx0 hz h0 hlen
    rintro (⟨hzb, hz1⟩ | hzb)
    all_goals
     go_enter Tryz.func127, Tryz.ntmps127
     go_wp2
     go_loop [18] (fun i => ∃ k : Nat, k ≤ s.size ∧ i = .int .i64 k ∧ M.Dig ((M.bytes s).take k)) (fun i => s.size - (intOf i).toNat)
     case atStart => exact ⟨0, Nat.zero_le _, rfl, by intro x hx; simp at hx⟩
     case round =>
      obtain ⟨k, hk, rfl, hd⟩ := hrel
      have HD := Lib.hid hd
      clear hd
      by_cases hkn : k < s.size
      ·have hx := M.bytes_get s k hkn
       have HX := Lib.hid hx
       clear hx
       by_cases hlo : (s[k].toNat : Int) < 48
       ·have HN := Lib.hid (show decide (M.Digits (M.bytes s)) = false by
         rw [HI.out, decide_eq_false_iff_not]
         intro hc
         have := hc _ (List.mem_of_getElem? HX.out)
         omega)
        go_wp2
        go_ret
        exact ⟨ret_bool HN.out.symm, rfl⟩
       ·by_cases hhi : (57 : Int) < s[k].toNat
        ·have HN := Lib.hid (show decide (M.Digits (M.bytes s)) = false by
          rw [HI.out, decide_eq_false_iff_not]
          intro hc
          have := hc _ (List.mem_of_getElem? HX.out)
          omega)
         go_wp2
         go_ret
         exact ⟨ret_bool HN.out.symm, rfl⟩
        ·have HN := Lib.hid (show M.Dig ((M.bytes s).take (k + 1)) by
          rw [List.take_add_one, HX.out]
          intro x hx
          rcases List.mem_append.1 hx with hx | hx
          ·exact HD.out x hx
          ·simp at hx
           subst hx
           omega)
         go_wp2
         go_round
         case rel => exact ⟨k + 1, by omega, by go_num, HN.out⟩
         case measure => simp [intOf]; omega
      ·have HN := Lib.hid (show decide (M.Digits (M.bytes s)) = true by
        rw [HI.out, decide_eq_true_iff]
        have := HD.out
        rw [List.take_of_length_le (by rw [M.bytes_len]; omega)] at this
        exact this)
       go_wp2
       go_ret
       exact ⟨ret_bool HN.out.symm, rfl⟩
   by_cases h48 : s[0].toNat = 48
   ·exact main (.inl ⟨by simp; omega, by omega⟩)
   ·exact main (.inr (by simp; omega))

end Go.Proofs.YtbhgbilhoonopaaGreat

/- nat.Parse: for every text (of 2^20 bytes at most). -/
namespace Go.Proofs.YtbhgbilhoonopaaGreat
open Go.RowKit
set_option linter.unusedVariables false

set_option maxHeartbeats 400000 in
theorem scale_empty (A : Option Addr) (c t pl : Nat) (w : World) (hpl : pl < 4294967296) :
  Calls Tryz.prog 128 #[.slice A 0 c, .int .u32 (t : Int), .int .u32 (pl : Int)] w fun e w' => e = .returned (.int .u32 (pl : Int)) ∧ w = w' := by
 have hmod : (pl : Int) % 4294967296 = pl := by omega
 go_enter Tryz.func128, Tryz.ntmps128
 go_wp2
 go_loop [7, 14] (fun q i => q = .int .u64 pl ∧ i = .int .i64 0) (fun _ _ => 0)
 case atStart => exact ⟨rfl, rfl⟩
 case round =>
  obtain ⟨rfl, rfl⟩ := hrel
  go_wp2
  go_ret
  exact ⟨rfl, rfl⟩

def strLen : Value → Nat | .string s => s.size | _ => 0

/-- Parse of digits answers their number's row. -/
def GivesB (w : World) (xs : List Nat) (b : Bool) (e : Ending) (w' : World) : Prop :=
 ∃ A c, e = .returned (.tuple #[.slice A xs.length c, .bool b]) ∧ Own w' w.heap.size A xs.length c xs ∧ Below w.heap.size w w'

set_option maxHeartbeats 400000 in
theorem parse_no (s : ByteArray) (w : World) (hs : s.size ≤ 1048576) (hd : ¬ M.Digits (M.bytes s)) :
  Calls Tryz.prog 94 #[.string s] w (GivesB w [] false) := by
 have hd' := Lib.hid (show decide (M.Digits (M.bytes s)) = false by rw [decide_eq_false_iff_not]; exact hd)
 clear hd
 go_enter Tryz.func94, Tryz.ntmps94
 go_wp2_with fail
 refine (isDigits_any _ _ hs).mono ?_
 rw [hd'.out]
 rintro e w' ⟨rfl, rfl⟩
 go_wp2
 go_ret2
 exact ⟨none, 0, rfl, OwK.nil_ _ _, Below.refl _ _⟩

set_option maxHeartbeats 2000000 in
theorem parse_yes (s : ByteArray) (w : World) (hs : s.size ≤ 1048576) (hd : M.Digits (M.bytes s)) :
  Calls Tryz.prog 94 #[.string s] w (GivesB w (M.lims (M.dec 0 (M.bytes s))) true) := by
 have hd' := Lib.hid (show decide (M.Digits (M.bytes s)) = true by rw [decide_eq_true_iff]; exact hd)
 have HD := Lib.hid hd
 clear hd
 go_enter Tryz.func94, Tryz.ntmps94
 go_wp2_with fail
 refine (isDigits_any _ _ hs).mono ?_
 rw [hd'.out]
 rintro e w' ⟨rfl, rfl⟩
 go_wp2
 go_loopw [0, 4] (fun p q wr => ∃ (t : ByteArray) (v n c : Nat) (A : Option Addr), p = .string t ∧ q = .slice A n c ∧ M.dec v (M.bytes t) = M.dec 0 (M.bytes s) ∧ M.Dig (M.bytes t) ∧ (v = 0 ∨ t.size % 9 = 0) ∧
   (M.lims v).length = n ∧ n + t.size ≤ s.size ∧ Own wr w.heap.size A n c (M.lims v) ∧ Below w.heap.size w wr) (fun p _ _ => strLen p)
 case atStart =>
  refine ⟨s, 0, 0, 0, none, rfl, rfl, rfl, HD.out.2.2, .inl rfl, by rw [M.lims_zero]; rfl, by omega, ?_, Below.refl _ _⟩
  rw [M.lims_zero]
  exact OwK.nil_ _ _
 case round =>
  obtain ⟨t, v, n, c, A, rfl, rfl, hv, hdt, h9, hn, hnt, ho, hb⟩ := hrel
  have HV := Lib.hid hv
  have HDT := Lib.hid hdt
  have H9 := Lib.hid h9
  have HN := Lib.hid hn
  have HO := Lib.hid ho
  have HB := Lib.hid hb
  clear hv hdt h9 hn ho hb
  by_cases ht0 : t.size = 0
  ·have hbt : M.bytes t = [] := List.eq_nil_of_length_eq_zero (by rw [M.bytes_len]; exact ht0)
   have HE := Lib.hid (show v = M.dec 0 (M.bytes s) by rw [← HV.out, hbt, M.dec_nil])
   clear hbt
   go_wp2
   go_ret2
   have ho := HO.out
   rw [HE.out] at ho
   have hn := HN.out
   rw [HE.out] at hn
   rw [← hn] at ho
   exact ⟨A, c, ret_eq (by rw [hn]; rfl), ho, HB.out⟩
  ·have htp : 0 < t.size := by omega
   obtain ⟨k, hk⟩ : ∃ k, k = (t.size - 1) % 9 + 1 := ⟨_, rfl⟩
   have hk9 : k ≤ 9 := by omega
   have hkt : k ≤ t.size := by omega
   have hkI : ((t.size : Int) - 1) % 9 + 1 = k := by omega
   have hb1 : M.bytes (t.extract 0 k) = (M.bytes t).take k := by rw [M.bytes_extract]; simp
   have hb2 : M.bytes (t.extract k t.size) = (M.bytes t).drop k := M.bytes_tail t k
   have hd1 : M.Dig (M.bytes (t.extract 0 k)) := by rw [hb1]; intro x hx; exact HDT.out x (List.mem_of_mem_take hx)
   have hd2 : M.Dig (M.bytes (t.extract k t.size)) := by rw [hb2]; intro x hx; exact HDT.out x (List.mem_of_mem_drop hx)
   have hsz1 : (t.extract 0 k).size = k := by rw [← M.bytes_len, hb1, List.length_take, M.bytes_len]; omega
   have hsz2 : (t.extract k t.size).size = t.size - k := by rw [← M.bytes_len, hb2, List.length_drop, M.bytes_len]
   have hch := M.dec_lt hd1
   rw [M.bytes_len, hsz1] at hch
   have hch2 : M.dec 0 (M.bytes (t.extract 0 k)) < 1000000000 := Nat.lt_of_lt_of_le hch (Nat.pow_le_pow_right (by omega) hk9)
   obtain ⟨ch, hce⟩ : ∃ ch, M.dec 0 (M.bytes (t.extract 0 k)) = ch := ⟨_, rfl⟩
   rw [hce] at hch2
   have hnext : M.dec (v * 1000000000 + ch) (M.bytes (t.extract k t.size)) = M.dec 0 (M.bytes s) := by
    rw [← HV.out, hb2]
    have e : M.bytes t = (M.bytes t).take k ++ (M.bytes t).drop k := (List.take_append_drop _ _).symm
    have e2 : M.dec v ((M.bytes t).take k) = v * 1000000000 + ch := by
     rw [M.dec_shift, ← hb1, hce, M.bytes_len, hsz1]
     rcases H9.out with h | h
     ·rw [h, Nat.zero_mul, Nat.zero_mul]
     ·have : k = 9 := by omega
      rw [this]
    rw [← e2, ← M.dec_append, ← e]
   have h9n : v * 1000000000 + ch = 0 ∨ (t.extract k t.size).size % 9 = 0 := by right; rw [hsz2]; omega
   have hszb : (t.extract 0 k).size ≤ 9 := by omega
   have HCE := Lib.hid hce
   have HD1 := Lib.hid hd1
   have HD2 := Lib.hid hd2
   have HNX := Lib.hid hnext
   have H9N := Lib.hid h9n
   have HS1 := Lib.hid hszb
   have HS2 := Lib.hid hsz2
   clear hk hb1 hb2 hd1 hd2 hsz1 hsz2 hch hce hnext h9n hszb ht0
   go_wp2_with fail
   refine (chunk_any _ _ HS1.out HD1.out).mono ?_
   rw [HCE.out]
   rintro e w' ⟨rfl, rfl⟩
   by_cases hv0 : v = 0
   ·have hn0 : n = 0 := by rw [← HN.out, hv0, M.lims_zero]; rfl
    have HV0 := Lib.hid hv0
    have HO0 : Hid (Own wr w.heap.size A 0 c []) := by
     have := HO.out
     rw [hv0, M.lims_zero, hn0] at this
     exact this
    clear hv0
    subst hn0
    go_wp2_with fail
    refine (scale_empty _ _ 1000000000 ch _ (by omega)).mono ?_
    rintro e w' ⟨rfl, rfl⟩
    have hvc : Hid (v * 1000000000 + ch = ch) := by rw [HV0.out, Nat.zero_mul, Nat.zero_add]; rfl
    by_cases hc0 : ch = 0
    ·subst hc0
     go_wp2
     go_roundw
     case rel =>
      refine ⟨_, v * 1000000000 + 0, 0, c, A, rfl, rfl, HNX.out, HD2.out, H9N.out, ?_, ?_, ?_, HB.out⟩
      ·rw [hvc.out, M.lims_zero]; rfl
      ·rw [HS2.out]; omega
      ·rw [hvc.out, M.lims_zero]; exact HO0.out
     case measure => simp only [strLen]; rw [HS2.out]; omega
    ·have hcne : ((ch : Int) != 0) = true := by simp; omega
     have hchR : ch < M.R := by rw [M.R_eq]; omega
     have hlim : Hid (M.lims (v * 1000000000 + ch) = [ch]) := by
      have := M.lims_snoc (ds := []) M.Lim.nil hchR hc0
      rw [hvc.out]
      rw [M.val_nil, List.length_nil, Nat.pow_zero, Nat.one_mul, Nat.zero_add, List.nil_append] at this
      exact this
     have HCR := Lib.hid hchR
     clear hchR
     go_wp2_with (at_builtin; refine app_own kU32 _ rfl _ _ rfl w.heap.size A 0 c [] rfl (HO0.out.alloc _) _ 1 1 [ch] rfl (RdK.one _ ch HCR.out) (by omega) (by have := HB.out.size; simp; omega) ?_; intro A2 c2 w2 ho2 hg2; have HO2 := Lib.hid ho2; have HG2 := Lib.hid hg2; clear ho2 hg2)
     go_roundw
     case rel =>
      refine ⟨_, v * 1000000000 + ch, 1, c2, A2, rfl, rfl, HNX.out, HD2.out, H9N.out, ?_, ?_, ?_, below_app HB.out HB.out.size HO0.out HG2.out⟩
      ·rw [hlim.out]; rfl
      ·rw [HS2.out]; omega
      ·rw [hlim.out]; exact HO2.out
     case measure => simp only [strLen]; rw [HS2.out]; omega
   ·have hnp : 0 < n := by
     rw [← HN.out]
     exact List.length_pos_iff.2 (fun h => hv0 (M.lims_eq_nil.1 h))
    obtain ⟨g, hA, hg, hg'⟩ := HO.out.head hnp
    subst hA
    have hwr := OwK.wr (o := 0) (m := n) HO.out (by omega)
    rw [List.drop_zero, List.take_of_length_le (by rw [HN.out]; exact Nat.le_refl _)] at hwr
    have HW := Lib.hid hwr
    clear hwr
    go_wp2_with fail
    refine (scale_any g 0 n c _ 1000000000 ch wr HW.out (by omega) (by omega) (by omega)).mono ?_
    rintro e w2 ⟨zs, cy, rfl, hcy, hzl, hzs, hzv, hp⟩
    rw [M.val_lims] at hzv
    have ho2 := HO.out.put hp (by omega) hzs
    rw [List.take_zero, List.nil_append, Nat.zero_add, hzl, List.drop_of_length_le (by rw [HN.out]; exact Nat.le_refl _), List.append_nil] at ho2
    have hb2 : Below w.heap.size w w2 := HB.out.grown hp.grown HB.out.size (fun k hk => by cases hk; exact hg)
    have hvv : v * 1000000000 + ch = M.val zs + M.R ^ zs.length * cy := by rw [hzl, hzv]; omega
    have HO2 := Lib.hid ho2
    have HB2 := Lib.hid hb2
    have HCY := Lib.hid hcy
    rw [M.R_eq] at hcy
    by_cases hc0 : cy = 0
    ·have hlim : M.lims (v * 1000000000 + ch) = zs := by
      rw [hvv, hc0, Nat.mul_zero, Nat.add_zero]
      refine M.lims_of_len hzs (.inr ?_)
      have h1 := M.pow_le_lims (v := v) (fun h => hv0 (M.lims_eq_nil.1 h))
      rw [HN.out] at h1
      rw [hzl]
      have h2 : M.val zs = v * 1000000000 + ch := by rw [hvv, hc0, Nat.mul_zero, Nat.add_zero]
      rw [h2]
      omega
     have HLIM := Lib.hid hlim
     have HZL := Lib.hid hzl
     clear hlim ho2 hb2 hp hvv hzv hzs hzl
     subst hc0
     go_wp2
     go_roundw
     case rel =>
      refine ⟨_, v * 1000000000 + ch, n, c, _, rfl, rfl, HNX.out, HD2.out, H9N.out, ?_, ?_, ?_, HB2.out⟩
      ·rw [HLIM.out, HZL.out]
      ·rw [HS2.out]; omega
      ·rw [HLIM.out]; exact HO2.out
     case measure => simp only [strLen]; rw [HS2.out]; omega
    ·have hcne : ((cy : Int) != 0) = true := by simp; omega
     have hlim : M.lims (v * 1000000000 + ch) = zs ++ [cy] := by rw [hvv]; exact M.lims_snoc hzs HCY.out hc0
     have HLIM := Lib.hid hlim
     have HZL := Lib.hid hzl
     clear hlim ho2 hb2 hp hvv hzv hzs hzl
     go_wp2_with (at_builtin; refine app_own kU32 _ rfl _ _ rfl w.heap.size _ n c zs rfl (HO2.out.alloc _) _ 1 1 [cy] rfl (RdK.one _ cy HCY.out) (by omega) (by have := HB2.out.size; simp; omega) ?_; intro A3 c3 w3 ho3 hg3; have HO3 := Lib.hid ho3; have HG3 := Lib.hid hg3; clear ho3 hg3)
     go_roundw
     case rel =>
      refine ⟨_, v * 1000000000 + ch, n + 1, c3, A3, rfl, rfl, HNX.out, HD2.out, H9N.out, ?_, ?_, ?_, below_app HB2.out HB2.out.size HO2.out HG3.out⟩
      ·rw [HLIM.out, List.length_append, HZL.out]; rfl
      ·rw [HS2.out]; omega
      ·rw [HLIM.out]; exact HO3.out
     case measure => simp only [strLen]; rw [HS2.out]; omega

end Go.Proofs.YtbhgbilhoonopaaGreat

/- nat.digitTaker's closure: it takes the digits of a number, the lowest first. -/
namespace Go.Proofs.YtbhgbilhoonopaaGreat
open Go.RowKit
set_option linter.unusedVariables false

/-- A box: a block of one cell. -/
def Bx (w : World) (B : Nat) (t : TypeId) (v : Value) : Prop := w.heap[B]? = some (.cells #[v] t (0, 0))
section
variable {w w' : World} {B : Nat} {t : TypeId} {v : Value}
theorem Bx.cell (h : Bx w B t v) : w.cell? ⟨B, 0, none⟩ = some v := by
 rw [cell_of_row w B 0 #[v] t (0, 0) h]
 rfl
theorem Bx.frozen (h : Bx w B t v) : w.frozen? ⟨B, 0, none⟩ = false := frozen_of_row w B 0 #[v] t h
theorem Bx.set_ (h : Bx w B t v) (u : Value) : Bx (w.setCell ⟨B, 0, none⟩ u) B t u := by
 unfold Bx at h ⊢
 rw [heap_setCell_same w B 0 #[v] t u h]
 rfl
theorem Bx.far (h : Bx w B t v) {p : Addr} (hp : B ≠ p.block) (u : Value) : Bx (w.setCell p u) B t v := by
 unfold Bx at h ⊢
 rw [heap_setCell_other w p B u hp]
 exact h
theorem Bx.drew (h : Bx w B t v) : Bx w.drew B t v := h
theorem Bx.lt (h : Bx w B t v) : B < w.heap.size := (Array.getElem?_eq_some_iff.1 h).1
theorem Bx.grown {row : Option Nat} (h : Bx w B t v) (hg : w.grownBy w' row) (hr : some B ≠ row) : Bx w' B t v := (hg.block B h.lt hr).trans h
theorem Bx.alloc (h : Bx w B t v) (o : Obj) : Bx (w.alloc o) B t v := (Below.heap_alloc w o B h.lt).trans h
theorem Bx.new (w : World) (t : TypeId) (v : Value) : Bx (w.alloc (.cells #[v] t)) w.heap.size t v := heap_alloc_new w _
end

theorem OwK.setFar {α : Type} {K : Kd α} {w : World} {base n c : Nat} {A : Option Addr} {xs : List α} (h : OwK K w base A n c xs) {D : Nat} (hA : ∀ p, A = some p → p.block < D) {q : Addr} (hq : D ≤ q.block) (u : Value) :
  OwK K (w.setCell q u) base A n c xs :=
 h.grown (grownBy_setCell w q u) fun p hp e => by
  have h1 := hA p hp
  have h2 : p.block = q.block := by injection e
  omega

/-- w' is w but for the blocks from base to D. -/
structure BA (base D : Nat) (w w' : World) : Prop where
 below : Below base w w'
 size : w'.heap.size = w.heap.size
 above : ∀ k, D < k → w'.heap[k]? = w.heap[k]?
theorem BA.refl (base D : Nat) (w : World) : BA base D w w := ⟨Below.refl _ _, rfl, fun _ _ => rfl⟩
theorem BA.drew {base D : Nat} {a w : World} (h : BA base D a w) : BA base D a w.drew := ⟨h.below.drew, h.size, h.above⟩
theorem BA.setCell {base D : Nat} {a w : World} (h : BA base D a w) {p : Addr} (hp : base ≤ p.block) (hq : p.block ≤ D) (u : Value) : BA base D a (w.setCell p u) :=
 ⟨h.below.setCell hp u, by simp [World.setCell]; exact h.size, fun k hk => (heap_setCell_other w p k u (by omega)).trans (h.above k hk)⟩
theorem BA.put {base D : Nat} {a w w' : World} {α : Type} {K : Kd α} {g o : Nat} {ys : List α} (h : BA base D a w) (hp : PutK K w w' g o ys) (hg : base ≤ g) (hD : g ≤ D) (hb : base ≤ w.heap.size) : BA base D a w' := by
 refine ⟨h.below.grown hp.grown hb (fun k hk => by cases hk; exact hg), hp.size.trans h.size, fun k hk => ?_⟩
 by_cases hlt : k < w.heap.size
 ·exact (hp.grown.block k hlt (fun e => by injection e with e; omega)).trans (h.above k hk)
 ·rw [← h.above k hk, Array.getElem?_eq_none (by rw [hp.size]; omega), Array.getElem?_eq_none (by omega)]

/-- The state of a taker of digits: T is the number whose digits are still to be taken. -/
structure Tk (w : World) (base Bc Br Bl : Nat) (T : Nat) : Prop where
 ord1 : base ≤ Br
 ord2 : Br < Bl
 ord3 : Bl < Bc
 st : ∃ (low cnt N n c : Nat) (A : Option Addr), Bx w Bc 3 (.int .i64 (cnt : Int)) ∧ Bx w Br 22 (.slice A n c) ∧ Bx w Bl 44 (.int .u32 (low : Int)) ∧ (M.lims N).length = n ∧ n ≤ 1048576 ∧
  Own w base A n c (M.lims N) ∧ (∀ p, A = some p → p.block < Br) ∧ cnt ≤ 9 ∧ low < 10 ^ cnt ∧ T = low + 10 ^ cnt * N ∧ (0 < cnt → T ≠ 0)

/-- The digit that is taken, and whether there was one. -/
def tdig (T : Nat) : Nat := if T = 0 then 0 else 48 + T % 10
def tmore (T : Nat) : Bool := decide (T ≠ 0)
theorem tdig_pos {T : Nat} (h : T ≠ 0) : tdig T = 48 + T % 10 := if_neg h
theorem tmore_pos {T : Nat} (h : T ≠ 0) : tmore T = true := decide_eq_true h
theorem tmore_zero : tmore 0 = false := rfl

def Took (w : World) (base Bc Br Bl T : Nat) (e : Ending) (w' : World) : Prop :=
 Tk w' base Bc Br Bl (T / 10) ∧ e = .returned (.tuple #[.int .u8 ((tdig T : Nat) : Int), .bool (tmore T)]) ∧ BA base Bc w w'

set_option maxHeartbeats 2000000 in
theorem taker_end (base Bc Br Bl : Nat) (w : World) (h : Tk w base Bc Br Bl 0) :
  Calls Tryz.prog 147 #[.pointer (some ⟨Bc, 0, none⟩), .pointer (some ⟨Br, 0, none⟩), .pointer (some ⟨Bl, 0, none⟩)] w (Took w base Bc Br Bl 0) := by
 obtain ⟨low, cnt, N, n, c, A, hc, hr, hl, hn, hnb, ho, hA, hc9, hlow, hT, hpos⟩ := h.st
 have hcnt : cnt = 0 := by
  rcases Nat.eq_zero_or_pos cnt with h0 | h0
  ·exact h0
  ·exact absurd rfl (hpos h0)
 subst hcnt
 have hN : N = 0 := by simp at hT; omega
 subst hN
 have hn0 : n = 0 := by rw [← hn, M.lims_zero]; rfl
 subst hn0
 have c1 := hc.cell
 have c2 := hr.cell
 have H := Lib.hid h
 clear hc hr hl hn ho hA hc9 hlow hT hpos h
 go_enter Tryz.func147, Tryz.ntmps147
 go_wp2
 go_ret2
 exact ⟨H.out, rfl, BA.refl _ _ _⟩

theorem tk_digit {low cnt N T : Nat} (hc : 0 < cnt) (hT : T = low + 10 ^ cnt * N) : low % 10 = T % 10 ∧ T / 10 = low / 10 + 10 ^ (cnt - 1) * N := by
 obtain ⟨k, rfl⟩ : ∃ k, cnt = k + 1 := ⟨cnt - 1, by omega⟩
 rw [hT, Nat.pow_succ, Nat.mul_comm (10 ^ k) 10, Nat.mul_assoc, Nat.add_sub_cancel]
 omega

set_option maxHeartbeats 2000000 in
theorem taker_mid (base Bc Br Bl T low cnt N n c : Nat) (A : Option Addr) (w : World) (o1 : base ≤ Br) (o2 : Br < Bl) (o3 : Bl < Bc) (hc : Bx w Bc 3 (.int .i64 (cnt : Int))) (hr : Bx w Br 22 (.slice A n c))
  (hl : Bx w Bl 44 (.int .u32 (low : Int))) (hn : (M.lims N).length = n) (hnb : n ≤ 1048576) (ho : Own w base A n c (M.lims N)) (hA : ∀ p, A = some p → p.block < Br) (hc9 : cnt ≤ 9) (hlow : low < 10 ^ cnt)
  (hT : T = low + 10 ^ cnt * N) (hcp : 0 < cnt) (hT0 : T ≠ 0) :
  Calls Tryz.prog 147 #[.pointer (some ⟨Bc, 0, none⟩), .pointer (some ⟨Br, 0, none⟩), .pointer (some ⟨Bl, 0, none⟩)] w (Took w base Bc Br Bl T) := by
 have hlow9 : low < 1000000000 := Nat.lt_of_lt_of_le hlow (Nat.pow_le_pow_right (by omega) hc9)
 obtain ⟨hdig, hdiv⟩ := tk_digit hcp hT
 have c1 := hc.cell
 have c2 := hr.cell
 have c3 := hl.cell
 have f1 := hc.frozen
 have f3 := hl.frozen
 have hcne : ((cnt : Int) == 0) = false := by simp; omega
 have HC := Lib.hid hc
 have HR := Lib.hid hr
 have HL := Lib.hid hl
 have HN := Lib.hid hn
 have HO := Lib.hid ho
 have HA := Lib.hid hA
 have HLOW := Lib.hid hlow
 have HT := Lib.hid hT
 have HDIG := Lib.hid hdig
 have HDIV := Lib.hid hdiv
 clear hc hr hl hn ho hA hlow hT hdig hdiv
 go_enter Tryz.func147, Tryz.ntmps147
 go_wp2
 go_region
 have e1 : (low : Int) / 10 = ((low / 10 : Nat) : Int) := by omega
 have e2 : (cnt : Int) - 1 = ((cnt - 1 : Nat) : Int) := by omega
 have e3 : (48 : Int) + (low : Int) % 10 = ((48 + T % 10 : Nat) : Int) := by rw [← HDIG.out]; omega
 rw [e1, e2, e3]
 have b3 := ((HL.out.set_ (.int .u32 ((low / 10 : Nat) : Int))).far (p := ⟨Bc, 0, none⟩) (by dsimp only; omega) (.int .i64 ((cnt - 1 : Nat) : Int))).drew
 have b1 := ((HC.out.far (p := ⟨Bl, 0, none⟩) (by dsimp only; omega) (.int .u32 ((low / 10 : Nat) : Int))).set_ (.int .i64 ((cnt - 1 : Nat) : Int))).drew
 have b2 := ((HR.out.far (p := ⟨Bl, 0, none⟩) (by dsimp only; omega) (.int .u32 ((low / 10 : Nat) : Int))).far (p := ⟨Bc, 0, none⟩) (by dsimp only; omega) (.int .i64 ((cnt - 1 : Nat) : Int))).drew
 have ho1 := ((HO.out.setFar HA.out (q := ⟨Bl, 0, none⟩) (by dsimp only; omega) (.int .u32 ((low / 10 : Nat) : Int))).setFar HA.out (q := ⟨Bc, 0, none⟩) (by dsimp only; omega) (.int .i64 ((cnt - 1 : Nat) : Int))).drew
 have hbe := (((BA.refl base Bc w).setCell (p := ⟨Bl, 0, none⟩) (by dsimp only; omega) (by dsimp only; omega) (.int .u32 ((low / 10 : Nat) : Int))).setCell (p := ⟨Bc, 0, none⟩) (by dsimp only; omega) (by dsimp only; omega) (.int .i64 ((cnt - 1 : Nat) : Int))).drew
 generalize ((w.setCell ⟨Bl, 0, none⟩ (.int .u32 ((low / 10 : Nat) : Int))).setCell ⟨Bc, 0, none⟩ (.int .i64 ((cnt - 1 : Nat) : Int))).drew = W at *
 have hpw : low / 10 < 10 ^ (cnt - 1) := by
  have h1 := HLOW.out
  rw [show cnt = cnt - 1 + 1 by omega, Nat.pow_succ] at h1
  rw [Nat.div_lt_iff_lt_mul (by omega)]
  exact h1
 generalize hl2 : low / 10 = lo at *
 generalize hc2 : cnt - 1 = cn at *
 have d1 := b1.cell
 have d2 := b2.cell
 have d3 := b3.cell
 have g1 := b1.frozen
 have B1 := Lib.hid b1
 have B2 := Lib.hid b2
 have B3 := Lib.hid b3
 have HO1 := Lib.hid ho1
 have HBE := Lib.hid hbe
 have HPW := Lib.hid hpw
 have hcn : cn ≤ 9 := by omega
 clear b1 b2 b3 ho1 hbe hpw e1 e2 e3 hl2 hc2 HC HR HL HO HLOW HT HDIG c1 c2 c3 f1 f3 hcne
 obtain ⟨d, hd⟩ : ∃ d, d = 48 + T % 10 := ⟨_, rfl⟩
 rw [← hd]
 have HD := Lib.hid hd
 have hd57 : d ≤ 57 := by omega
 clear hd
 by_cases hlo : lo = 0
 ·by_cases hn0 : n = 0
  ·have hN0 : N = 0 := by have := HN.out; rw [hn0] at this; exact M.lims_eq_nil.1 (List.eq_nil_of_length_eq_zero this)
   have HN0 := Lib.hid hN0
   have HT0 := Lib.hid hT0
   clear hN0 hT0
   subst hlo
   subst hn0
   go_wp2
   go_ret2
   refine ⟨⟨o1, o2, o3, 0, 0, 0, 0, c, _, B1.out.set_ _, B2.out.far (p := ⟨Bc, 0, none⟩) (by dsimp only; omega) _, B3.out.far (p := ⟨Bc, 0, none⟩) (by dsimp only; omega) _, by rw [M.lims_zero]; rfl, by omega, ?_, HA.out, by omega, by simp, ?_, (fun h => by omega)⟩, ?_, HBE.out.setCell (p := ⟨Bc, 0, none⟩) (by dsimp only; omega) (Nat.le_refl _) _⟩
   ·have := HO1.out
    rw [HN0.out] at this
    exact this.setFar HA.out (by dsimp only; omega) _
   ·rw [HDIV.out, HN0.out]; simp
   ·rw [tdig_pos HT0.out, ← HD.out, tmore_pos HT0.out]; rfl
  ·have hnne : ((n : Int) == 0) = false := by simp; omega
   have HT0 := Lib.hid hT0
   have HLO := Lib.hid hlo
   clear hT0
   subst hlo
   go_wp2
   go_ret2
   refine ⟨⟨o1, o2, o3, 0, cn, N, n, c, _, B1.out, B2.out, B3.out, HN.out, hnb, HO1.out, HA.out, hcn, HPW.out, HDIV.out, fun _ h => ?_⟩, ?_, HBE.out⟩
   ·rw [HDIV.out] at h
    have h1 : 0 < N := by
     rcases Nat.eq_zero_or_pos N with h0 | h0
     ·have := HN.out; rw [h0, M.lims_zero] at this; simp at this; omega
     ·exact h0
    have h2 : 0 < 10 ^ cn * N := Nat.mul_pos (Nat.pow_pos (by omega)) h1
    omega
   ·rw [tdig_pos HT0.out, ← HD.out, tmore_pos HT0.out]; rfl
 ·have hlne : ((lo : Int) == 0) = false := by simp; omega
  have HT0 := Lib.hid hT0
  clear hT0
  go_wp2
  go_ret2
  refine ⟨⟨o1, o2, o3, lo, cn, N, n, c, _, B1.out, B2.out, B3.out, HN.out, hnb, HO1.out, HA.out, hcn, HPW.out, HDIV.out, fun _ h => ?_⟩, ?_, HBE.out⟩
  ·rw [HDIV.out] at h
   omega
  ·rw [tdig_pos HT0.out, ← HD.out, tmore_pos HT0.out]; rfl

set_option maxHeartbeats 2000000 in
theorem taker_fill (base Bc Br Bl T low0 n0 c : Nat) (A : Option Addr) (w0 : World) (o1 : base ≤ Br) (o2 : Br < Bl) (o3 : Bl < Bc) (hc : Bx w0 Bc 3 (.int .i64 (0 : Int))) (hr : Bx w0 Br 22 (.slice A n0 c))
  (hl : Bx w0 Bl 44 (.int .u32 (low0 : Int))) (hn : (M.lims T).length = n0) (hnb0 : n0 ≤ 1048576) (ho : Own w0 base A n0 c (M.lims T)) (hA : ∀ p, A = some p → p.block < Br) (hT0 : T ≠ 0) :
  Calls Tryz.prog 147 #[.pointer (some ⟨Bc, 0, none⟩), .pointer (some ⟨Br, 0, none⟩), .pointer (some ⟨Bl, 0, none⟩)] w0 (Took w0 base Bc Br Bl T) := by
 have hn0 : 0 < n0 := by rw [← hn]; exact List.length_pos_iff.2 (fun h => hT0 (M.lims_eq_nil.1 h))
 obtain ⟨g, hAg, hg, hg'⟩ := ho.head hn0
 subst hAg
 have hgB : g < Br := hA _ rfl
 have hwr := OwK.wr (o := 0) (m := n0) ho (by omega)
 rw [List.drop_zero, List.take_of_length_le (by rw [hn]; exact Nat.le_refl _)] at hwr
 have hnne : ((n0 : Int) == 0) = false := by simp; omega
 have c1 := hc.cell
 have c2 := hr.cell
 have HC0 := Lib.hid hc
 have HR0 := Lib.hid hr
 have HL0 := Lib.hid hl
 have HN0 := Lib.hid hn
 have HO0 := Lib.hid ho
 have HA := Lib.hid hA
 have HW := Lib.hid hwr
 clear hc hr hl hn ho hA hwr
 go_enter Tryz.func147, Tryz.ntmps147
 go_wp2_with fail
 refine (divideBy_any g 0 n0 c _ 1000000000 w0 HW.out (by omega) (by omega) (by omega)).mono ?_
 rintro e w2 ⟨zs, rfl, hzl, hzs, hzv, hp⟩
 rw [M.val_lims] at hzv ⊢
 have ho2 := HO0.out.put hp (by omega) hzs
 rw [List.take_zero, List.nil_append, Nat.zero_add, hzl, List.drop_of_length_le (by rw [HN0.out]; exact Nat.le_refl _), List.append_nil] at ho2
 obtain ⟨low, hlowe⟩ : ∃ low, T % 1000000000 = low := ⟨_, rfl⟩
 obtain ⟨N, hNe⟩ : ∃ N, T / 1000000000 = N := ⟨_, rfl⟩
 have hlow9 : low < 1000000000 := by omega
 have hTe : T = low + 10 ^ 9 * N := by omega
 rw [hlowe]
 rw [hNe] at hzv
 have bl2 := ((HL0.out.grown hp.grown (by intro e; injection e with e; omega)).set_ (.int .u32 (low : Int))).far (p := ⟨Bc, 0, none⟩) (by dsimp only; omega) (.int .i64 9)
 have bc2 := ((HC0.out.grown hp.grown (by intro e; injection e with e; omega)).far (p := ⟨Bl, 0, none⟩) (by dsimp only; omega) (.int .u32 (low : Int))).set_ (.int .i64 9)
 have br1 := HR0.out.grown hp.grown (by intro e; injection e with e; omega)
 have br2 := (br1.far (p := ⟨Bl, 0, none⟩) (by dsimp only; omega) (.int .u32 (low : Int))).far (p := ⟨Bc, 0, none⟩) (by dsimp only; omega) (.int .i64 9)
 have ho3 := (ho2.setFar HA.out (q := ⟨Bl, 0, none⟩) (by dsimp only; omega) (.int .u32 (low : Int))).setFar HA.out (q := ⟨Bc, 0, none⟩) (by dsimp only; omega) (.int .i64 9)
 have hbe0 : BA base Bc w0 ((w2.setCell ⟨Bl, 0, none⟩ (.int .u32 (low : Int))).setCell ⟨Bc, 0, none⟩ (.int .i64 9)) :=
  ((BA.refl base Bc w0).put hp hg (by omega) (by omega)).setCell (p := ⟨Bl, 0, none⟩) (by dsimp only; omega) (by dsimp only; omega) _ |>.setCell (p := ⟨Bc, 0, none⟩) (by dsimp only; omega) (Nat.le_refl _) _
 have cl1 := (HL0.out.grown hp.grown (by intro e; injection e with e; omega)).cell
 have fl1 := (HL0.out.grown hp.grown (by intro e; injection e with e; omega)).frozen
 have cc1 := (HC0.out.grown hp.grown (by intro e; injection e with e; omega)).cell
 have fc1 := (HC0.out.grown hp.grown (by intro e; injection e with e; omega)).frozen
 have cr1 := br1.cell
 have BL2 := Lib.hid bl2
 have BC2 := Lib.hid bc2
 have BR2 := Lib.hid br2
 have HO3 := Lib.hid ho3
 have HBE0 := Lib.hid hbe0
 have HZV := Lib.hid hzv
 have HZS := Lib.hid hzs
 have HTE := Lib.hid hTe
 clear bl2 bc2 br2 ho3 hbe0 hzv hzs hTe hlowe hNe hp ho2 br1 hzl
 go_wp2_with fail
 generalize (w2.setCell ⟨Bl, 0, none⟩ (.int .u32 (low : Int))).setCell ⟨Bc, 0, none⟩ (.int .i64 9) = w3 at *
 have cl3 := BL2.out.cell
 have fl3 := BL2.out.frozen
 have cc3 := BC2.out.cell
 have fc3 := BC2.out.frozen
 have cr3 := BR2.out.cell
 have fr3 := BR2.out.frozen
 clear cl1 fl1 cc1 fc1 cr1 c1 c2
 obtain ⟨n, hn⟩ : ∃ n, (M.tr zs).length = n := ⟨_, rfl⟩
 have hnb : n ≤ 1048576 := by
  have h1 := M.tr_length_le zs
  have h2 := HO3.out.len
  omega
 have HNT := Lib.hid hn
 clear hn
 refine (short_any _ _ _ _ _ HO3.out.rd (by omega)).mono ?_
 rw [HNT.out]
 rintro e w' ⟨rfl, rfl⟩
 go_wp2
 have hzt : M.tr zs = M.lims N := by rw [M.tr_eq_lims HZS.out, HZV.out]
 have hlim : (M.lims N).length = n := by rw [← hzt]; exact HNT.out
 have HL : Hid (Bx (w3.setCell ⟨Br, 0, none⟩ (.slice (some ⟨g, 0, none⟩) n c)) Bl 44 (.int .u32 (low : Int))) := BL2.out.far (by dsimp only; omega) _
 have HC : Hid (Bx (w3.setCell ⟨Br, 0, none⟩ (.slice (some ⟨g, 0, none⟩) n c)) Bc 3 (.int .i64 9)) := BC2.out.far (by dsimp only; omega) _
 have HR : Hid (Bx (w3.setCell ⟨Br, 0, none⟩ (.slice (some ⟨g, 0, none⟩) n c)) Br 22 (.slice (some ⟨g, 0, none⟩) n c)) := BR2.out.set_ _
 have hO := HO3.out.short
 rw [hzt, hlim] at hO
 have HO : Hid (Own (w3.setCell ⟨Br, 0, none⟩ (.slice (some ⟨g, 0, none⟩) n c)) base (some ⟨g, 0, none⟩) n c (M.lims N)) := hO.setFar HA.out (Nat.le_refl _) _
 have HB0 : Hid (BA base Bc w0 (w3.setCell ⟨Br, 0, none⟩ (.slice (some ⟨g, 0, none⟩) n c))) := HBE0.out.setCell (p := ⟨Br, 0, none⟩) o1 (by dsimp only; omega) _
 have HN := Lib.hid hlim
 clear hlim hO hzt cl3 fl3 cc3 fc3 cr3 fr3
 generalize w3.setCell ⟨Br, 0, none⟩ (.slice (some ⟨g, 0, none⟩) n c) = w at *
 have c1 := HC.out.cell
 have c2 := HR.out.cell
 have c3 := HL.out.cell
 have f1 := HC.out.frozen
 have f3 := HL.out.frozen
 obtain ⟨cnt, hcnt⟩ : ∃ cnt, cnt = 9 := ⟨_, rfl⟩
 have hcI : (9 : Int) = (cnt : Int) := by omega
 have hlow : low < 10 ^ cnt := by rw [hcnt]; exact hlow9
 have hT : T = low + 10 ^ cnt * N := by rw [hcnt]; exact HTE.out
 obtain ⟨hdig, hdiv⟩ := tk_digit (show 0 < cnt by omega) hT
 have HLOW := Lib.hid hlow
 have HT := Lib.hid hT
 have HDIG := Lib.hid hdig
 have HDIV := Lib.hid hdiv
 have hcne : True := trivial
 clear hlow hT hdig hdiv
 rw [hcI] at HC c1
 have hcp : 0 < cnt := by omega
 have hc9 : cnt ≤ 9 := by omega
 clear hcI hcnt
 go_region
 have e1 : (low : Int) / 10 = ((low / 10 : Nat) : Int) := by omega
 have e2 : (cnt : Int) - 1 = ((cnt - 1 : Nat) : Int) := by omega
 have e3 : (48 : Int) + (low : Int) % 10 = ((48 + T % 10 : Nat) : Int) := by rw [← HDIG.out]; omega
 rw [e1, e2, e3]
 have b3 := ((HL.out.set_ (.int .u32 ((low / 10 : Nat) : Int))).far (p := ⟨Bc, 0, none⟩) (by dsimp only; omega) (.int .i64 ((cnt - 1 : Nat) : Int))).drew
 have b1 := ((HC.out.far (p := ⟨Bl, 0, none⟩) (by dsimp only; omega) (.int .u32 ((low / 10 : Nat) : Int))).set_ (.int .i64 ((cnt - 1 : Nat) : Int))).drew
 have b2 := ((HR.out.far (p := ⟨Bl, 0, none⟩) (by dsimp only; omega) (.int .u32 ((low / 10 : Nat) : Int))).far (p := ⟨Bc, 0, none⟩) (by dsimp only; omega) (.int .i64 ((cnt - 1 : Nat) : Int))).drew
 have ho1 := ((HO.out.setFar HA.out (q := ⟨Bl, 0, none⟩) (by dsimp only; omega) (.int .u32 ((low / 10 : Nat) : Int))).setFar HA.out (q := ⟨Bc, 0, none⟩) (by dsimp only; omega) (.int .i64 ((cnt - 1 : Nat) : Int))).drew
 have hbe := ((HB0.out.setCell (p := ⟨Bl, 0, none⟩) (by dsimp only; omega) (by dsimp only; omega) (.int .u32 ((low / 10 : Nat) : Int))).setCell (p := ⟨Bc, 0, none⟩) (by dsimp only; omega) (by dsimp only; omega) (.int .i64 ((cnt - 1 : Nat) : Int))).drew
 generalize ((w.setCell ⟨Bl, 0, none⟩ (.int .u32 ((low / 10 : Nat) : Int))).setCell ⟨Bc, 0, none⟩ (.int .i64 ((cnt - 1 : Nat) : Int))).drew = W at *
 have hpw : low / 10 < 10 ^ (cnt - 1) := by
  have h1 := HLOW.out
  rw [show cnt = cnt - 1 + 1 by omega, Nat.pow_succ] at h1
  rw [Nat.div_lt_iff_lt_mul (by omega)]
  exact h1
 generalize hl2 : low / 10 = lo at *
 generalize hc2 : cnt - 1 = cn at *
 have d1 := b1.cell
 have d2 := b2.cell
 have d3 := b3.cell
 have g1 := b1.frozen
 have B1 := Lib.hid b1
 have B2 := Lib.hid b2
 have B3 := Lib.hid b3
 have HO1 := Lib.hid ho1
 have HBE := Lib.hid hbe
 have HPW := Lib.hid hpw
 have hcn : cn ≤ 9 := by omega
 clear b1 b2 b3 ho1 hbe hpw e1 e2 e3 hl2 hc2 HC HR HL HO HLOW HT HDIG c1 c2 c3 f1 f3 hcne
 obtain ⟨d, hd⟩ : ∃ d, d = 48 + T % 10 := ⟨_, rfl⟩
 rw [← hd]
 have HD := Lib.hid hd
 have hd57 : d ≤ 57 := by omega
 clear hd
 by_cases hlo : lo = 0
 ·by_cases hn0 : n = 0
  ·have hN0 : N = 0 := by have := HN.out; rw [hn0] at this; exact M.lims_eq_nil.1 (List.eq_nil_of_length_eq_zero this)
   have HN0 := Lib.hid hN0
   have HT0 := Lib.hid hT0
   clear hN0 hT0
   subst hlo
   subst hn0
   go_wp2
   go_ret2
   refine ⟨⟨o1, o2, o3, 0, 0, 0, 0, c, _, B1.out.set_ _, B2.out.far (p := ⟨Bc, 0, none⟩) (by dsimp only; omega) _, B3.out.far (p := ⟨Bc, 0, none⟩) (by dsimp only; omega) _, by rw [M.lims_zero]; rfl, by omega, ?_, HA.out, by omega, by simp, ?_, (fun h => by omega)⟩, ?_, HBE.out.setCell (p := ⟨Bc, 0, none⟩) (by dsimp only; omega) (Nat.le_refl _) _⟩
   ·have := HO1.out
    rw [HN0.out] at this
    exact this.setFar HA.out (by dsimp only; omega) _
   ·rw [HDIV.out, HN0.out]; simp
   ·rw [tdig_pos HT0.out, ← HD.out, tmore_pos HT0.out]; rfl
  ·have hnne : ((n : Int) == 0) = false := by simp; omega
   have HT0 := Lib.hid hT0
   have HLO := Lib.hid hlo
   clear hT0
   subst hlo
   go_wp2
   go_ret2
   refine ⟨⟨o1, o2, o3, 0, cn, N, n, c, _, B1.out, B2.out, B3.out, HN.out, hnb, HO1.out, HA.out, hcn, HPW.out, HDIV.out, fun _ h => ?_⟩, ?_, HBE.out⟩
   ·rw [HDIV.out] at h
    have h1 : 0 < N := by
     rcases Nat.eq_zero_or_pos N with h0 | h0
     ·have := HN.out; rw [h0, M.lims_zero] at this; simp at this; omega
     ·exact h0
    have h2 : 0 < 10 ^ cn * N := Nat.mul_pos (Nat.pow_pos (by omega)) h1
    omega
   ·rw [tdig_pos HT0.out, ← HD.out, tmore_pos HT0.out]; rfl
 ·have hlne : ((lo : Int) == 0) = false := by simp; omega
  have HT0 := Lib.hid hT0
  clear hT0
  go_wp2
  go_ret2
  refine ⟨⟨o1, o2, o3, lo, cn, N, n, c, _, B1.out, B2.out, B3.out, HN.out, hnb, HO1.out, HA.out, hcn, HPW.out, HDIV.out, fun _ h => ?_⟩, ?_, HBE.out⟩
  ·rw [HDIV.out] at h
   omega
  ·rw [tdig_pos HT0.out, ← HD.out, tmore_pos HT0.out]; rfl

theorem taker_any (base Bc Br Bl T : Nat) (w : World) (h : Tk w base Bc Br Bl T) :
  Calls Tryz.prog 147 #[.pointer (some ⟨Bc, 0, none⟩), .pointer (some ⟨Br, 0, none⟩), .pointer (some ⟨Bl, 0, none⟩)] w (Took w base Bc Br Bl T) := by
 by_cases hT0 : T = 0
 ·subst hT0
  exact taker_end base Bc Br Bl w h
 ·obtain ⟨low, cnt, N, n, c, A, hc, hr, hl, hn, hnb, ho, hA, hc9, hlow, hT, hpos⟩ := h.st
  rcases Nat.eq_zero_or_pos cnt with h0 | h0
  ·subst h0
   have hN : N = T := by simp at hlow; subst hlow; simp at hT; exact hT.symm
   subst hN
   exact taker_fill base Bc Br Bl N low n c A w h.ord1 h.ord2 h.ord3 hc hr hl hn hnb ho hA hT0
  ·exact taker_mid base Bc Br Bl T low cnt N n c A w h.ord1 h.ord2 h.ord3 hc hr hl hn hnb ho hA hc9 hlow hT h0 hT0

end Go.Proofs.YtbhgbilhoonopaaGreat

/- slices.Reverse of bytes, nat.digitTaker, nat.Text: for every row of limbs (of 10^5 at most). -/
namespace Go.Proofs.YtbhgbilhoonopaaGreat
open Go.RowKit
set_option linter.unusedVariables false

def kU8 : Kd Nat := ⟨fun x => .int .u8 (x : Int), fun x => x < 256, 5, 50, 0, 1, fun _ => rfl, Tryz.underlying50, by kernel_rfl, rfl, by decide⟩

theorem grownBy_same {a b c : World} {g : Nat} (h : a.grownBy b (some g)) (k : b.grownBy c (some g)) : a.grownBy c (some g) :=
 ⟨k.os.trans h.os, k.tape.trans h.tape, k.output.trans h.output, Nat.le_trans h.size k.size, fun i hi hn => (k.block i (by have := h.size; omega) hn).trans (h.block i hi hn)⟩
theorem grownBy_drew {a b : World} {r : Option Nat} (h : a.grownBy b r) : a.grownBy b.drew r := ⟨h.os, h.tape, h.output, h.size, h.block⟩

/-- The row, its first and last k elements turned round. -/
def Rev (xs ys : List Nat) (n k : Nat) : Prop := ys.length = n ∧ ∀ i, i < n → ys[i]? = if i < k ∨ n - k ≤ i then xs[n - 1 - i]? else xs[i]?

theorem Rev.start {xs : List Nat} {n : Nat} (h : xs.length = n) : Rev xs xs n 0 := ⟨h, fun i hi => by rw [if_neg (by omega)]⟩

theorem Rev.step {xs ys : List Nat} {n k x y : Nat} (h : Rev xs ys n k) (hk : k < n - 1 - k) (hx : xs[k]? = some x) (hy : xs[n - 1 - k]? = some y) : Rev xs ((ys.set k y).set (n - 1 - k) x) n (k + 1) := by
 refine ⟨by simp [h.1], fun i hi => ?_⟩
 rw [List.getElem?_set, List.getElem?_set, List.length_set, h.1]
 by_cases h1 : n - 1 - k = i
 ·rw [if_pos h1, if_pos (by omega), if_pos (by omega), ← h1, show n - 1 - (n - 1 - k) = k by omega, hx]
 ·rw [if_neg h1]
  by_cases h2 : k = i
  ·rw [if_pos h2, if_pos (by omega), if_pos (by omega), ← h2, hy]
  ·rw [if_neg h2, h.2 i hi]
   by_cases h3 : i < k ∨ n - k ≤ i
   ·rw [if_pos h3, if_pos (by omega)]
   ·rw [if_neg h3, if_neg (by omega)]

theorem Rev.done {xs ys : List Nat} {n k : Nat} (h : Rev xs ys n k) (hl : xs.length = n) (hk : n - 1 ≤ 2 * k) : ys = xs.reverse := by
 apply List.ext_getElem?
 intro i
 by_cases hi : i < n
 ·rw [h.2 i hi, List.getElem?_reverse (by omega), hl]
  by_cases h3 : i < k ∨ n - k ≤ i
  ·rw [if_pos h3]
  ·rw [if_neg h3, show n - 1 - i = i by omega]
 ·rw [List.getElem?_eq_none (by rw [h.1]; omega), List.getElem?_eq_none (by rw [List.length_reverse]; omega)]

theorem Rev.get {xs ys : List Nat} {n k i : Nat} (h : Rev xs ys n k) (hi : i < n) (h1 : k ≤ i) (h2 : i < n - k) : ys[i]? = xs[i]? := by
 rw [h.2 i hi, if_neg (by omega)]

def Revd (w : World) (base g n c : Nat) (xs : List Nat) (e : Ending) (w' : World) : Prop :=
 e = .returned (.tuple #[]) ∧ OwK kU8 w' base (some ⟨g, 0, none⟩) n c xs ∧ w.grownBy w' (some g)

set_option maxHeartbeats 2000000 in
theorem reverse_any (base g n c : Nat) (xs : List Nat) (w : World) (h : OwK kU8 w base (some ⟨g, 0, none⟩) n c xs) (hn : n ≤ 1048576) :
  Calls Tryz.prog 123 #[.slice (some ⟨g, 0, none⟩) n c] w (Revd w base g n c xs.reverse) := by
 have H := Lib.hid h
 clear h
 go_enter Tryz.func123, Tryz.ntmps123
 go_wp2
 go_loopw [2, 3] (fun p q wr => ∃ (k : Nat) (ys : List Nat), 2 * k ≤ n ∧ p = .int .i64 k ∧ q = .int .i64 ((n : Int) - 1 - k) ∧ Rev xs ys n k ∧ OwK kU8 wr base (some ⟨g, 0, none⟩) n c ys ∧ w.grownBy wr (some g)) (fun p _ _ => n - (intOf p).toNat)
 case atStart => exact ⟨0, xs, by omega, rfl, by go_num, Rev.start H.out.len, H.out, World.grownBy.refl w _⟩
 case round =>
  obtain ⟨k, ys, hk, rfl, rfl, hv, ho, hg⟩ := hrel
  have HV := Lib.hid hv
  have HO := Lib.hid ho
  have HG := Lib.hid hg
  clear hv ho hg
  by_cases hlt : (k : Int) < (n : Int) - 1 - k
  ·obtain ⟨x, hx⟩ : ∃ x, xs[k]? = some x := ⟨_, List.getElem?_eq_getElem (by rw [H.out.len]; omega)⟩
   obtain ⟨y, hy⟩ : ∃ y, xs[n - 1 - k]? = some y := ⟨_, List.getElem?_eq_getElem (by rw [H.out.len]; omega)⟩
   have c1 := HO.out.cellAt ((HV.out.get (i := k) (by omega) (by omega) (by omega)).trans hx)
   have c2 := HO.out.cellAt ((HV.out.get (i := n - 1 - k) (by omega) (by omega) (by omega)).trans hy)
   have f1 := HO.out.frozenAt k
   have f2 := HO.out.frozenAt (n - 1 - k)
   simp only [kU8] at c1 c2
   have hxl : x < 256 := H.out.lim x (List.mem_of_getElem? hx)
   have hyl : y < 256 := H.out.lim y (List.mem_of_getElem? hy)
   have hst := HV.out.step (by omega) hx hy
   obtain ⟨ho2, hg2⟩ := HO.out.set_ k y hyl
   obtain ⟨ho3, hg3⟩ := ho2.set_ (n - 1 - k) x hxl
   have hj : ((n : Int) - 1 - k).toNat = n - 1 - k := by omega
   have HST := Lib.hid hst
   have HO3 := Lib.hid ho3
   have HG2 := Lib.hid hg2
   have HG3 := Lib.hid hg3
   clear hst ho2 ho3 hg2 hg3 hx hy
   go_wp2
   go_region
   go_wp2
   go_roundw
   case rel => exact ⟨k + 1, _, by omega, by go_num, by go_num, HST.out, HO3.out.drew, grownBy_drew (grownBy_same (grownBy_same HG.out HG2.out) HG3.out)⟩
   case measure => simp [intOf]; omega
  ·have HD := Lib.hid (HV.out.done H.out.len (by omega))
   go_wp2
   go_end0
   exact ⟨rfl, by rw [← HD.out]; exact HO.out, HG.out⟩

def GivesTaker (w : World) (T : Nat) (e : Ending) (w' : World) : Prop :=
 ∃ Bc Br Bl, e = .returned (.func (.func 147) #[] #[.pointer (some ⟨Bc, 0, none⟩), .pointer (some ⟨Br, 0, none⟩), .pointer (some ⟨Bl, 0, none⟩)]) ∧ Tk w' w.heap.size Bc Br Bl T ∧ Bc < w'.heap.size ∧ Below w.heap.size w w'

set_option maxHeartbeats 1000000 in
theorem digitTaker_any (A : Option Addr) (n c : Nat) (xs : List Nat) (w : World) (h : Rd w A n c xs) (hn : n ≤ 1048576) :
  Calls Tryz.prog 122 #[.slice A n c] w (GivesTaker w (M.val xs)) := by
 have H := Lib.hid h
 have hlx : (M.lims (M.val xs)).length ≤ 1048576 := by have := M.lims_val_length_le h.Lim; rw [h.len] at this; omega
 clear h
 obtain ⟨nx, hnx⟩ : ∃ nx, (M.lims (M.val xs)).length = nx := ⟨_, rfl⟩
 rw [hnx] at hlx
 have HNX := Lib.hid hnx
 clear hnx
 go_enter Tryz.func122, Tryz.ntmps122
 go_wp2_with fail
 refine (trim_any _ _ _ _ _ H.out (by omega)).mono ?_
 rw [Gives_len HNX.out]
 rintro e w1 ⟨A1, c1, rfl, ho1, hb1⟩
 have HO1 := Lib.hid ho1
 have HB1 := Lib.hid hb1
 clear ho1 hb1
 go_wp2
 go_ret
 refine ⟨w1.heap.size + 1 + 1, w1.heap.size, w1.heap.size + 1, rfl, ⟨HB1.out.size, by omega, by omega, 0, 0, M.val xs, nx, c1, A1, ?_, ?_, ?_, HNX.out, hlx, ?_, fun p hp => (HO1.out.lt hp).2, by omega, by simp, by simp, fun h => by omega⟩, by simp, ?_⟩
 ·have := Bx.new ((w1.alloc (.cells #[.slice A1 nx c1] 22)).alloc (.cells #[.int .u32 0] 44)) 3 (.int .i64 0)
  simpa using this
 ·exact ((Bx.new w1 22 (.slice A1 nx c1)).alloc _).alloc _
 ·have := (Bx.new (w1.alloc (.cells #[.slice A1 nx c1] 22)) 44 (.int .u32 0)).alloc (.cells #[.int .i64 0] 3)
  simpa using this
 ·exact ((HO1.out.alloc _).alloc _).alloc _
 ·exact ((HB1.out.alloc HB1.out.size _).alloc (by have := HB1.out.size; simp; omega) _).alloc (by have := HB1.out.size; simp; omega) _

theorem OwK.above {α : Type} {K : Kd α} {w w' : World} {base b n c D : Nat} {A : Option Addr} {xs : List α} (h : OwK K w base A n c xs) (hb : BA b D w w') (hD : D < base) : OwK K w' base A n c xs := by
 refine ⟨⟨h.row.1, ?_⟩, h.lim⟩
 rcases h.row.2 with h' | ⟨g, cap, cur, hv, hg, hh, r⟩
 ·exact .inl h'
 ·exact .inr ⟨g, cap, cur, hv, hg, (hb.above g (by omega)).trans hh, r⟩

theorem Tk.grown {w w' : World} {base Bc Br Bl T : Nat} {row : Option Nat} (h : Tk w base Bc Br Bl T) (hg : w.grownBy w' row) (hr : ∀ g, row = some g → Bc < g) : Tk w' base Bc Br Bl T := by
 obtain ⟨low, cnt, N, n, c, A, hc, hr1, hl, hn, hnb, ho, hA, rest⟩ := h.st
 have o2 := h.ord2
 have o3 := h.ord3
 refine ⟨h.ord1, o2, o3, low, cnt, N, n, c, A, hc.grown hg (fun e => by have := hr _ e.symm; omega), hr1.grown hg (fun e => by have := hr _ e.symm; omega), hl.grown hg (fun e => by have := hr _ e.symm; omega), hn, hnb, ho.grown hg (fun p hp e => ?_), hA, rest⟩
 have h1 := hA p hp
 have h2 := hr _ e.symm
 omega

end Go.Proofs.YtbhgbilhoonopaaGreat

/- nat.Text: for every row of limbs (of 10^5 at most). -/
namespace Go.Proofs.YtbhgbilhoonopaaGreat
open Go.RowKit
set_option linter.unusedVariables false

def slLen : Value → Nat | .slice _ n _ => n | _ => 0

/-- A call answers a text: these bytes. -/
def GivesT (w : World) (l : List Nat) (e : Ending) (w' : World) : Prop := ∃ s, e = .returned (.string s) ∧ M.bytes s = l ∧ Below w.heap.size w w'

theorem bytes_strOfNums {l : List Nat} (h : M.Dig l) : M.bytes (strOfNums (l.map fun x : Nat => (x : Int))) = l := by
 unfold M.bytes
 rw [strOfNums_data, List.map_map, List.map_map]
 have : ∀ x ∈ l, (UInt8.toNat ∘ (fun n : Int => UInt8.ofNat n.toNat) ∘ fun x : Nat => (x : Int)) x = x := by
  intro x hx
  have := h x hx
  simp only [Function.comp, Int.toNat_natCast]
  rw [UInt8.toNat_ofNat']
  omega
 exact (List.map_congr_left this).trans (List.map_id' l)

set_option maxHeartbeats 4000000 in
theorem text_any (A0 : Option Addr) (n0 c0 : Nat) (xs : List Nat) (w : World) (h : Rd w A0 n0 c0 xs) (hn : n0 ≤ 100000) :
  Calls Tryz.prog 85 #[.slice A0 n0 c0] w (GivesT w (M.txt (M.val xs))) := by
 have H := Lib.hid h
 have hL : (M.lows (M.val xs)).length ≤ 1000000 := by have := M.lows_val_len h.Lim; rw [h.len] at this; omega
 clear h
 obtain ⟨V, hV⟩ : ∃ V, M.val xs = V := ⟨_, rfl⟩
 rw [hV] at hL ⊢
 have HV := Lib.hid hV
 clear hV
 go_enter Tryz.func85, Tryz.ntmps85
 go_wp2_with fail
 refine (digitTaker_any _ _ _ _ _ H.out (by omega)).mono ?_
 rw [HV.out]
 rintro e w1 ⟨Bc, Br, Bl, rfl, htk1, hbc1, hb1⟩
 have HTK1 := Lib.hid htk1
 have HB1 := Lib.hid hb1
 clear htk1 hb1
 go_wp2_with fail
 refine (taker_any _ _ _ _ _ _ HTK1.out).mono ?_
 rintro e w2 ⟨htk2, rfl, hba2⟩
 have HTK2 := Lib.hid htk2
 have HBA2 := Lib.hid hba2
 clear htk2 hba2
 go_wp2_with fail
 go_loopw [4, 5, 6] (fun q dg mo wr => ∃ (n c T : Nat) (A : Option Addr), q = .slice A n c ∧ dg = .int .u8 (tdig T : Nat) ∧ mo = .bool (tmore T) ∧ T = V / 10 ^ n ∧ n ≤ (M.lows V).length ∧
   OwK kU8 wr (Bc + 1) A n c ((M.lows V).take n) ∧ Tk wr w.heap.size Bc Br Bl (T / 10) ∧ Below w.heap.size w wr ∧ Bc < wr.heap.size) (fun q _ _ _ => (M.lows V).length - slLen q)
 case atStart =>
  refine ⟨0, 0, V, none, rfl, rfl, rfl, by simp, by omega, OwK.nil_ _ _, HTK2.out, HB1.out.trans HBA2.out.below, ?_⟩
  rw [HBA2.out.size]
  exact hbc1
 case round =>
  obtain ⟨n, c, T, A, rfl, rfl, hmo, hT, hnL, ho, htk, hb, hbc⟩ := hrel
  have HO := Lib.hid ho
  have HTK := Lib.hid htk
  have HB := Lib.hid hb
  have HT := Lib.hid hT
  clear ho htk hb hT HTK1 HTK2 HBA2 HB1
  by_cases hT0 : T = 0
  ·subst hT0
   rw [tmore_zero] at hmo
   subst hmo
   have htake := M.lows_take_all V n HT.out.symm
   have ho := HO.out
   rw [htake] at ho
   have HO2 := Lib.hid ho
   clear htake ho
   by_cases hn0 : n = 0
   ·subst hn0
    have hV0 : V = 0 := by have := HT.out; simp at this; exact this.symm
    have HV0 := Lib.hid hV0
    clear hV0
    go_wp2
    go_ret
    refine ⟨_, rfl, ?_, HB.out⟩
    rw [HV0.out]
    rfl
   ·have hnne : ((n : Int) == 0) = false := by simp; omega
    obtain ⟨g, hA, hg, hg'⟩ := HO2.out.head (by omega)
    subst hA
    have hV0 : V ≠ 0 := by
     intro e
     have := HO2.out.len
     rw [e, M.lows_zero] at this
     simp at this
     omega
    have HV0 := Lib.hid hV0
    clear hV0
    go_wp2_with fail
    refine (reverse_any _ g n c _ _ HO2.out (by omega)).mono ?_
    rintro e w3 ⟨rfl, ho3, hg3⟩
    have hlen3 := ho3.len
    have hconv := run_convert_bytes_arg (P := Tryz.prog) w3 50 5 Tryz.underlying50 Tryz.underlying5 g 0 n c ((M.lows V).reverse.map fun x : Nat => (x : Int)) (by rw [List.length_map]; exact hlen3) (fun i hi => by
     obtain ⟨x, hx⟩ : ∃ x, (M.lows V).reverse[i]? = some x := ⟨_, List.getElem?_eq_getElem (by rw [hlen3]; exact hi)⟩
     have := ho3.cellAt hx
     rw [Nat.zero_add, this]
     simp only [kU8]
     rw [List.getD_eq_getElem?_getD, List.getElem?_map, hx]
     rfl) 9 Tryz.underlying9
    have hb3 := HB.out.grown hg3 HB.out.size (fun k hk => by cases hk; have := HB.out.size; have := HTK.out.ord1; have := HTK.out.ord2; have := HTK.out.ord3; omega)
    have HB3 := Lib.hid hb3
    clear ho3 hg3 hb3 hlen3
    go_wp2
    go_ret
    refine ⟨_, rfl, ?_, HB3.out⟩
    rw [← List.map_reverse, bytes_strOfNums (fun x hx => M.lows_dig V x (List.mem_reverse.1 hx))]
    unfold M.txt
    rw [if_neg HV0.out]
  ·rw [tmore_pos hT0] at hmo
   subst hmo
   have hd : tdig T < 256 := by rw [tdig_pos hT0]; omega
   have htd : (M.lows V).take (n + 1) = (M.lows V).take n ++ [tdig T] := by
    rw [tdig_pos hT0, HT.out]
    exact M.lows_take V n (by rw [← HT.out]; exact hT0)
   have hlt : n < (M.lows V).length := M.lows_lt (by rw [← HT.out]; exact hT0)
   have hTn : T / 10 = V / 10 ^ (n + 1) := by rw [HT.out, Nat.pow_succ, Nat.div_div_eq_div_mul]
   have HTD := Lib.hid htd
   have HTN := Lib.hid hTn
   have HD := Lib.hid hd
   generalize tdig T = d at *
   clear htd hTn hd
   go_wp2_with (at_builtin; refine app_own kU8 _ rfl _ _ rfl (Bc + 1) A n c _ rfl (HO.out.alloc _) _ 1 1 [d] rfl (RdK.one _ d HD.out) (by omega) (by simp; omega) ?_; intro A2 c2 w3 ho3 hg3; have HO3 := Lib.hid ho3; have HG3 := Lib.hid hg3; clear ho3 hg3)
   have htk3 := (HTK.out.grown (World.grownBy_alloc wr _ none) (fun g hg => by cases hg)).grown HG3.out (fun g hg => by have := (HO.out.row.lt g hg).1; omega)
   have hb3 := (HB.out.alloc HB.out.size _).grown HG3.out (by have := HB.out.size; simp; omega) (fun g hg => by have := (HO.out.row.lt g hg).1; have := HTK.out.ord1; have := HTK.out.ord2; have := HTK.out.ord3; omega)
   have hsz3 : Bc < w3.heap.size := by have := HG3.out.size; simp at this; omega
   refine (taker_any _ _ _ _ _ _ htk3).mono ?_
   rintro e w4 ⟨htk4, rfl, hba4⟩
   have ho4 := HO3.out.above hba4 (by omega)
   rw [← HTD.out] at ho4
   have hb4 := hb3.trans hba4.below
   have hsz4 : Bc < w4.heap.size := by rw [hba4.size]; exact hsz3
   have HO4 := Lib.hid ho4
   have HTK4 := Lib.hid htk4
   have HB4 := Lib.hid hb4
   clear ho4 htk4 hba4 hb4 htk3 hb3
   go_wp2
   go_roundw
   case rel => exact ⟨n + 1, c2, T / 10, A2, rfl, rfl, rfl, HTN.out, by omega, HO4.out, HTK4.out, HB4.out, hsz4⟩
   case measure => simp only [slLen]; omega

end Go.Proofs.YtbhgbilhoonopaaGreat
namespace Go.Proofs.YtbhgbilhoonopaaGreat
open Go.RowKit
set_option linter.unusedVariables false

theorem lit1 (w : World) (x : Nat) (v : Int) (hx : x < M.R) (hv : v = (x : Int)) : Rd (w.alloc (.cells #[.int .u32 v] 44)) (some ⟨w.heap.size, 0, none⟩) 1 1 [x] := by
 subst hv
 exact RdK.one (K := kU32) w x hx
theorem bl_alloc (w : World) (o : Obj) : Below w.heap.size w (w.alloc o) := (Below.refl _ _).alloc (Nat.le_refl _) o
theorem bl_trans {a b c : World} (h : Below a.heap.size a b) (k : Below b.heap.size b c) : Below a.heap.size a c := h.trans (k.mono h.size)

theorem lows_dec (x : Nat) (hx : 49 ≤ x) (hx' : x ≤ 57) (r : List Nat) (h : M.Dig r) : M.lows (M.dec 0 (x :: r.reverse)) = r ++ [x] ∧ M.dec 0 (x :: r.reverse) ≠ 0 := by
 induction r with
 | nil =>
  rw [List.reverse_nil, M.dec_cons, M.dec_nil]
  have h0 : 0 * 10 + (x - 48) ≠ 0 := by omega
  refine ⟨?_, h0⟩
  rw [M.lows_pos h0, show (0 * 10 + (x - 48)) / 10 = 0 by omega, M.lows_zero, show 48 + (0 * 10 + (x - 48)) % 10 = x by omega]
  rfl
 | cons y r ih =>
  obtain ⟨ih1, ih2⟩ := ih fun z hz => h z (by simp [hz])
  have hy := h y (by simp)
  have e : x :: (y :: r).reverse = (x :: r.reverse) ++ [y] := by simp
  rw [e, M.dec_snoc]
  generalize M.dec 0 (x :: r.reverse) = V at *
  have h0 : V * 10 + (y - 48) ≠ 0 := by omega
  refine ⟨?_, h0⟩
  rw [M.lows_pos h0, show (V * 10 + (y - 48)) / 10 = V by omega, ih1, show 48 + (V * 10 + (y - 48)) % 10 = y by omega]
  rfl

theorem txt_dec {l : List Nat} (h : M.Digits l) : M.txt (M.dec 0 l) = l := by
 obtain ⟨h1, h2, h3⟩ := h
 cases l with
 | nil => exact absurd rfl h1
 | cons x m =>
  by_cases hx : x = 48
  ·have hm := h2 (by rw [hx]; rfl)
   have : m = [] := List.eq_nil_of_length_eq_zero (by simpa using hm)
   subst this
   subst hx
   rfl
  ·have hxd := h3 x (by simp)
   have := lows_dec x (by omega) (by omega) m.reverse (fun z hz => h3 z (by simp at hz; simp [hz]))
   rw [List.reverse_reverse] at this
   unfold M.txt
   rw [if_neg this.2, this.1]
   simp

end Go.Proofs.YtbhgbilhoonopaaGreat

/- What the laws' walks share: arguments as rows; Small of any row. -/
namespace Go.Proofs.YtbhgbilhoonopaaGreat
open Go.RowKit
set_option linter.unusedVariables false

def sb (v : Nat) : Bool := decide (v < 18446744073709551616)
end Go.Proofs.YtbhgbilhoonopaaGreat
namespace Go.Proofs.YtbhgbilhoonopaaGreat
open Go.ChangeShapes Go.WideShapes Go.RowKit Go.Joins Go.Deep
set_option linter.unusedVariables false
set_option maxRecDepth 100000

section
variable {H : Type} {enc : TypeId × Value → H} {w : World}

theorem okWide_array {P : Program} {t e : TypeId} {n base : Nat} {r : Reach} {v : Value} (ht : P.underlying t = some (.array n e)) (h : Value.okWide P w r base t v) : ∃ cs, v = .agg cs ∧ cs.size = P.cellsOf t := by
 simp only [Value.okWide, ht] at h
 obtain ⟨cs, h1, h2, _⟩ := h
 exact ⟨cs, h1, h2⟩

end

end Go.Proofs.YtbhgbilhoonopaaGreat
namespace Go.Proofs.YtbhgbilhoonopaaGreat
open Go.ChangeShapes Go.WideShapes Go.RowKit Go.Joins Go.Deep
set_option linter.unusedVariables false
set_option maxRecDepth 100000

section
variable {H : Type} {enc : TypeId × Value → H} {w : World}

theorem open_u8 {c : Value} {m : Nat} {y : DataW H × List MemPlace} (h : DataW.trod enc Tryz.prog w 0 (fun _ => true) true m 5 [c] = some y) : ∃ x : Nat, c = .int .u8 (x : Int) ∧ x < 256 := by
 obtain ⟨n, hn, _, wf⟩ := DataW.trod_int Tryz.underlying5 h
 injection hn with hn
 have hb := bounds_u8 wf
 exact ⟨n.toNat, by rw [hn, Int.toNat_of_nonneg hb.1], by omega⟩

theorem open_b2_arg {r : Reach} {b0 : Nat} {v : Value} {d : DataW H} {p : List MemPlace} (hv : Value.okWide Tryz.prog w r b0 49 v) (h : DataW.Trod enc Tryz.prog w 0 (fun _ => true) true 49 v d p) :
  ∃ x y : Nat, v = .agg #[.int .u8 (x : Int), .int .u8 (y : Int)] ∧ x < 256 ∧ y < 256 := by
 obtain ⟨cs, rfl, hsz⟩ := okWide_array Tryz.underlying49 hv
 obtain ⟨l⟩ := cs
 match l, hsz.trans (show _ = 2 by kernel_rfl) with
 | [c0, c1], _ =>
  obtain ⟨fuel, hf⟩ := h
  obtain ⟨xs, m, _, _, _, hl, hg⟩ := DataW.trod_array Tryz.underlying49 hf
  match xs, hl with
  | [y0, y1], _ =>
   have hc : Tryz.prog.cellsOf 5 = 1 := by kernel_rfl
   have g0 := hg 0 (by omega)
   have g1 := hg 1 (by omega)
   rw [hc] at g0 g1
   obtain ⟨x, rfl, hx⟩ := open_u8 (c := c0) (y := y0) g0
   obtain ⟨y, rfl, hy⟩ := open_u8 (c := c1) (y := y1) g1
   exact ⟨x, y, rfl, hx, hy⟩
end

end Go.Proofs.YtbhgbilhoonopaaGreat
namespace Go.Proofs.YtbhgbilhoonopaaGreat
open Go.RowKit Go.Shelf
set_option linter.unusedVariables false
attribute [local go_sem] Oper.semAt_some

/-- What has come when k rounds are over. -/
def prs (xs ys : List Nat) (k : Nat) : List (Nat × Nat) := (List.range k).map fun i => (M.limbAt xs i, M.limbAt ys i)
theorem prs_succ (xs ys : List Nat) (k : Nat) : prs xs ys (k + 1) = prs xs ys k ++ [(M.limbAt xs k, M.limbAt ys k)] := by simp [prs, List.range_succ]
theorem prs_length (xs ys : List Nat) (k : Nat) : (prs xs ys k).length = k := by simp [prs]

/-- These blocks lie as they lay. -/
def Keep (S : Nat → Prop) (W W' : World) : Prop := ∀ k, S k → W'.heap[k]? = W.heap[k]?

/-- A pair of limbs. -/
abbrev LL := { x : Nat × Nat // x.1 < M.R ∧ x.2 < M.R }

set_option maxRecDepth 100000 in
set_option maxHeartbeats 2000000 in
theorem pairs1_in (n : Nat) (hn : 1 ≤ n) (l Ba Bb : Nat) (S : Nat → Prop) (A : Option Addr) (na ca : Nat) (xs : List Nat) (B : Option Addr) (nb cb : Nat) (ys : List Nat) (hna : na ≤ 1048576) (hnb : nb ≤ 1048576)
  (hA : ∀ p, A = some p → 0 < na → S p.block) (hB : ∀ p, B = some p → 0 < nb → S p.block) (hBa : S Ba) (hBb : S Bb) (J Jx : List (Nat × Nat) → World → Prop)
  (hY : ∀ pre (x : Nat × Nat) W, x.1 < M.R → x.2 < M.R → J pre W → pre.length < max na nb → YieldAt Fence.wide (n - 1) Tryz.prog l #[.int .u32 (x.1 : Int), .int .u32 (x.2 : Int)] W fun e W' =>
   (e = .returned (.bool true) ∧ J (pre ++ [x]) W' ∧ Keep S W W') ∨ (e = .returned (.bool false) ∧ Jx (pre ++ [x]) W'))
  (hJd : ∀ pre W, J pre W → J pre W.drew)
  (W : World) (ha : W.cell? ⟨Ba, 0, none⟩ = some (.slice A na ca)) (hb : W.cell? ⟨Bb, 0, none⟩ = some (.slice B nb cb)) (hx : Rd W A na ca xs) (hy : Rd W B nb cb ys) (h0 : J [] W) :
  CallsIn Fence.wide n Tryz.prog 154 #[.func (.yield l) #[] #[], .pointer (some ⟨Ba, 0, none⟩), .pointer (some ⟨Bb, 0, none⟩)] W fun e W' => (∃ v, e = .returned v) ∧
   ((∃ zs, zs = prs xs ys (max na nb) ∧ J zs W') ∨ (∃ pre, (∃ k, k ≤ max na nb ∧ pre = prs xs ys k) ∧ Jx pre W')) := by
 refine callsIn_of_wp Tryz.func154 rfl trivial ?_ rfl
 simp only [Tryz.ntmps154, List.size_toArray, List.length_cons, List.length_nil, Nat.reduceAdd, Nat.reduceSub, Array.replicate_succ, Array.replicate_zero, List.push_toArray, List.append_toArray, List.nil_append, List.cons_append]
 have HX := Lib.hid hx
 have HY := Lib.hid hy
 have HYI := Lib.hid hY
 have HJ0 := Lib.hid h0
 have HJD := Lib.hid hJd
 have hmo : Tryz.prog.follows .mixedOrders = true := by kernel_rfl
 clear hx hy hY h0 hJd
 obtain ⟨m, hm⟩ : ∃ m, max na nb = m := ⟨_, rfl⟩
 have hm2 : m ≤ 1048576 := by omega
 have hlen : xs.length ≤ m ∧ ys.length ≤ m := by rw [HX.out.len, HY.out.len]; omega
 have HLEN := Lib.hid hlen
 rw [hm] at HYI ⊢
 clear hlen
 have hcase : ((na : Int) < nb ∧ m = nb) ∨ (na = nb ∧ m = nb) ∨ ((nb : Int) < na ∧ m = na) := by omega
 have HM := Lib.hid hm
 clear hm
 rcases hcase with ⟨hc, he⟩ | ⟨hc, he⟩ | ⟨hc, he⟩
 all_goals subst he
 case' inr.inl => obtain rfl : m = na := hc.symm
 all_goals
  gi_wp2
  gi_loopw [10] (fun i wr => ∃ k : Nat, k ≤ m ∧ i = .int .i64 k ∧ J (prs xs ys k) wr ∧ Keep S W wr) (fun i _ => m - (intOf i).toNat)
  case atStart => exact ⟨0, Nat.zero_le _, rfl, HJ0.out, fun _ _ => rfl⟩
  case round =>
   obtain ⟨k, hk, rfl, hJs, hnx⟩ := hrel
   have HJS := Lib.hid hJs
   have HNX := Lib.hid hnx
   have ha' := (World.cell?_of_block (a := ⟨Ba, 0, none⟩) (hnx Ba hBa)).trans ha
   have hb' := (World.cell?_of_block (a := ⟨Bb, 0, none⟩) (hnx Bb hBb)).trans hb
   clear hJs hnx
   by_cases hkm : k < m
   ·have hxr := (HX.out.keep (w' := wr) fun p hp hn' => HNX.out _ (hA p hp hn'))
    have hyr := (HY.out.keep (w' := wr) fun p hp hn' => HNX.out _ (hB p hp hn'))
    have hlx := M.limbAt_lt hxr.Lim k
    have hly := M.limbAt_lt hyr.Lim k
    obtain ⟨fn, tmps, assign, body, hyy, hR⟩ := HYI.out _ (M.limbAt xs k, M.limbAt ys k) wr.drew hlx hly (HJD.out _ _ HJS.out) (by rw [prs_length]; exact hkm)
    dsimp only at hyy
    have HR : Hid (RoundIn Fence.wide (n - 1) Tryz.prog l fn tmps assign body wr.drew fun e W' => ∃ b, e = .returned (.bool b) ∧ ((b = true ∧ J (prs xs ys (k + 1)) W' ∧ Keep S wr.drew W') ∨ (b = false ∧ Jx (prs xs ys (k + 1)) W'))) := by
     refine hR.mono ?_
     rintro e W3 (⟨rfl, hJ3, hk3⟩ | ⟨rfl, hJx3⟩)
     ·exact ⟨true, rfl, .inl ⟨rfl, by rw [prs_succ]; exact hJ3, hk3⟩⟩
     ·exact ⟨false, rfl, .inr ⟨rfl, by rw [prs_succ]; exact hJx3⟩⟩
    have L1 := Lib.hid (callsIn_wide (n := n - 1) |>.2 (limb_any A _ _ xs (k : Int) _ hxr.drew (by omega) (by omega)))
    have L2 := Lib.hid (callsIn_wide (n := n - 1) |>.2 (limb_any B _ _ ys (k : Int) _ hyr.drew (by omega) (by omega)))
    rw [Int.toNat_natCast] at L1 L2
    clear hR hxr hyr
    gi_wp2
    gi_region_with_o (first
     | (refine ⟨trivial, ?_⟩; gi_at_call 152; ((with_reducible refine L1.out.mono ?_); rintro e w' ⟨rfl, rfl⟩))
     | (refine ⟨trivial, ?_⟩; gi_at_call 152; ((with_reducible refine L2.out.mono ?_); rintro e w' ⟨rfl, rfl⟩))
     | (refine HR.out.mono ?_; rintro e W3 ⟨b, rfl, hb3⟩))
    all_goals
     rcases hb3 with ⟨rfl, hJ3, hk3⟩ | ⟨rfl, hJx3⟩
     ·have HJ3 := Lib.hid hJ3
      have HK3 := Lib.hid hk3
      clear hJ3 hk3
      gi_wp2
      go_roundw
      case rel => exact ⟨k + 1, by omega, by go_num, HJ3.out, fun j hj => (HK3.out j hj).trans (HNX.out j hj)⟩
      case measure => simp [intOf]; omega
     ·have HJX3 := Lib.hid hJx3
      clear hJx3
      gi_wp2
      refine bodyPost_ret (results_none rfl _ _ _) rfl ?_
      exact ⟨⟨_, rfl⟩, .inr ⟨_, ⟨k + 1, by omega, rfl⟩, HJX3.out⟩⟩
   ·obtain rfl : k = m := by omega
    gi_wp2
    go_end0
    exact ⟨⟨_, rfl⟩, .inl ⟨_, rfl, HJS.out⟩⟩

set_option maxHeartbeats 1000000 in
theorem pairs_in (n : Nat) (A : Option Addr) (na ca : Nat) (B : Option Addr) (nb cb : Nat) (w : World) :
  CallsIn Fence.wide n Tryz.prog 136 #[.slice A na ca, .slice B nb cb] w fun e w' =>
   e = .returned (.func (.func 154) #[] #[.pointer (some ⟨w.heap.size, 0, none⟩), .pointer (some ⟨w.heap.size + 1, 0, none⟩)]) ∧ w' = (w.alloc (.cells #[.slice A na ca] 22)).alloc (.cells #[.slice B nb cb] 22) := by
 refine callsIn_of_wp Tryz.func136 rfl trivial ?_ rfl
 simp only [Tryz.ntmps136, List.size_toArray, List.length_cons, List.length_nil, Nat.reduceAdd, Nat.reduceSub, Array.replicate_succ, Array.replicate_zero, List.push_toArray, List.append_toArray, List.nil_append, List.cons_append]
 gi_wp2
 go_ret
 exact ⟨rfl, rfl⟩

/-- What comes, as pairs of numbers. -/
def raw (l : List LL) : List (Nat × Nat) := l.map Subtype.val

theorem pairs_stops (n : Nat) (hn : 1 ≤ n) (Ba Bb : Nat) (S : Nat → Prop) (A : Option Addr) (na ca : Nat) (xs : List Nat) (B : Option Addr) (nb cb : Nat) (ys : List Nat) (hna : na ≤ 1048576) (hnb : nb ≤ 1048576) (w : World)
  (hA : ∀ p, A = some p → 0 < na → S p.block) (hB : ∀ p, B = some p → 0 < nb → S p.block) (hBa : S Ba) (hBb : S Bb) (hS : ∀ k, S k → k < w.heap.size)
  (ha : w.cell? ⟨Ba, 0, none⟩ = some (.slice A na ca)) (hb : w.cell? ⟨Bb, 0, none⟩ = some (.slice B nb cb)) (hx : Rd w A na ca xs) (hy : Rd w B nb cb ys) :
  SeqStopsK Fence.wide n Tryz.prog 154 #[.pointer (some ⟨Ba, 0, none⟩), .pointer (some ⟨Bb, 0, none⟩)] (fun x : LL => #[.int .u32 (x.1.1 : Int), .int .u32 (x.1.2 : Int)]) (Keep S)
   (fun zs => raw zs = prs xs ys (max na nb)) (fun pre => ∃ k, k ≤ max na nb ∧ raw pre = prs xs ys k) (max na nb) w := fun l J Jx W hW hJ hJx hY h0 => by
 refine (pairs1_in n hn l Ba Bb S A na ca xs B nb cb ys hna hnb hA hB hBa hBb (fun zs W => ∃ ls : List LL, raw ls = zs ∧ J ls W) (fun zs W => ∃ ls : List LL, raw ls = zs ∧ Jx ls W) ?_ ?_ W ?_ ?_ (hx.below hW) (hy.below hW) ⟨[], rfl, h0⟩).mono ?_
 ·rintro pre x W1 h1 h2 ⟨ls, hls, hJs⟩ hlen
  obtain ⟨fn, tmps, assign, body, hyy, hR⟩ := hY ls ⟨x, h1, h2⟩ W1 hJs (by rw [← hls] at hlen; simpa [raw] using hlen)
  refine ⟨fn, tmps, assign, body, hyy, hR.mono ?_⟩
  rintro e W2 (⟨rfl, hJ2, hk2⟩ | ⟨rfl, hJ2⟩)
  ·exact .inl ⟨rfl, ⟨_, by simp [raw, ← hls], hJ2⟩, hk2⟩
  ·exact .inr ⟨rfl, ⟨_, by simp [raw, ← hls], hJ2⟩⟩
 ·rintro pre W1 ⟨ls, hls, hJs⟩
  exact ⟨ls, hls, hJ ls W1 W1.drew none hJs ⟨rfl, rfl, rfl, Nat.le_refl _, fun _ _ _ => rfl⟩ (fun r e => by cases e)⟩
 ·exact (hW.cell (p := ⟨Ba, 0, none⟩) (hS Ba hBa)).trans ha
 ·exact (hW.cell (p := ⟨Bb, 0, none⟩) (hS Bb hBb)).trans hb
 ·rintro e W2 ⟨he, ⟨zs, rfl, ls, hls, hJ2⟩ | ⟨pre, ⟨k, hk, rfl⟩, ls, hls, hJ2⟩⟩
  ·exact ⟨he, .inl ⟨ls, hls, hJ2⟩⟩
  ·exact ⟨he, .inr ⟨ls, ⟨k, hk, hls⟩, hJ2⟩⟩

end Go.Proofs.YtbhgbilhoonopaaGreat

/- cmp.Compare of limbs, nat.Cmp: for every two rows of limbs (of 2^20 at most). -/
namespace Go.Proofs.YtbhgbilhoonopaaGreat
open Go.RowKit Go.Shelf
set_option linter.unusedVariables false
attribute [local go_sem] Oper.semAt_some

/-- -1, 0, 1: less, as much, more. -/
def cmpV (x y : Nat) : Int := if x < y then -1 else if x = y then 0 else 1
theorem cmpV_lt {x y : Nat} (h : x < y) : cmpV x y = -1 := if_pos h
theorem cmpV_eq (x : Nat) : cmpV x x = 0 := by unfold cmpV; rw [if_neg (by omega), if_pos rfl]
theorem cmpV_gt {x y : Nat} (h : y < x) : cmpV x y = 1 := by unfold cmpV; rw [if_neg (by omega), if_neg (by omega)]

/-- The last difference tells. -/
def cmpF (l : List (Nat × Nat)) : Int := l.foldl (fun o p => if p.1 = p.2 then o else cmpV p.1 p.2) 0
theorem cmpF_snoc (l : List (Nat × Nat)) (p : Nat × Nat) : cmpF (l ++ [p]) = if p.1 = p.2 then cmpF l else cmpV p.1 p.2 := by unfold cmpF; rw [List.foldl_append]; rfl

theorem cmpF_prs {xs ys : List Nat} (hx : M.Lim xs) (hy : M.Lim ys) (k : Nat) : cmpF (prs xs ys k) = cmpV (M.val (xs.take k)) (M.val (ys.take k)) := by
 induction k with
 | zero => simp only [List.take_zero, M.val_nil]; rw [cmpV_eq]; rfl
 | succ k ih =>
  rw [prs_succ, cmpF_snoc, M.val_take_succ, M.val_take_succ, ih]
  have h1 := M.val_lt_pow (hx.take k) (k := k) (by rw [List.length_take]; omega)
  have h2 := M.val_lt_pow (hy.take k) (k := k) (by rw [List.length_take]; omega)
  generalize M.val (xs.take k) = a at *
  generalize M.val (ys.take k) = b at *
  generalize M.limbAt xs k = x at *
  generalize M.limbAt ys k = y at *
  generalize M.R ^ k = P at *
  dsimp only
  by_cases he : x = y
  ·rw [if_pos he, he]
   rcases Nat.lt_trichotomy a b with h | h | h
   ·rw [cmpV_lt h, cmpV_lt (by omega)]
   ·subst h
    rw [cmpV_eq, cmpV_eq]
   ·rw [cmpV_gt h, cmpV_gt (by omega)]
  ·rw [if_neg he]
   rcases Nat.lt_or_ge x y with h3 | h3
   ·have : P * (x + 1) ≤ P * y := Nat.mul_le_mul_left _ h3
    rw [Nat.mul_add] at this
    rw [cmpV_lt h3, cmpV_lt (by omega)]
   ·have : P * (y + 1) ≤ P * x := Nat.mul_le_mul_left _ (show y + 1 ≤ x by omega)
    rw [Nat.mul_add] at this
    rw [cmpV_gt (show y < x by omega), cmpV_gt (by omega)]

set_option maxHeartbeats 400000 in
theorem compare_any (x y : Nat) (w : World) (hx : x < 4294967296) (hy : y < 4294967296) (hne : x ≠ y) :
  Calls Tryz.prog 137 #[.int .u32 (x : Int), .int .u32 (y : Int)] w fun e w' => e = .returned (.int .i64 (cmpV x y)) ∧ w = w' := by
 rcases Nat.lt_or_ge x y with h | h
 ·rw [cmpV_lt h]
  go_enter Tryz.func137, Tryz.ntmps137
  go_wp2
  go_ret
  exact ⟨rfl, rfl⟩
 ·rw [cmpV_gt (by omega)]
  have h' : y < x := by omega
  go_enter Tryz.func137, Tryz.ntmps137
  go_wp2
  go_ret
  exact ⟨rfl, rfl⟩

set_option maxRecDepth 100000 in
set_option maxHeartbeats 2000000 in
theorem cmp_in (A : Option Addr) (na ca : Nat) (xs : List Nat) (B : Option Addr) (nb cb : Nat) (ys : List Nat) (w : World) (h : Rd w A na ca xs) (k : Rd w B nb cb ys) (hna : na ≤ 1048576) (hnb : nb ≤ 1048576) :
  CallsIn Fence.wide 5 Tryz.prog 104 #[.slice A na ca, .slice B nb cb] w fun e w' => e = .returned (.int .i64 (cmpV (M.val xs) (M.val ys))) ∧ Below w.heap.size w w' := by
 refine callsIn_of_wp_marks Tryz.func104 rfl trivial ?_ rfl
 simp only [Tryz.ntmps104, List.size_toArray, List.length_cons, List.length_nil, Nat.reduceAdd, Nat.reduceSub, Array.replicate_succ, Array.replicate_zero, List.push_toArray, List.append_toArray, List.nil_append, List.cons_append]
 gi_wp2_with (refine ⟨trivial, ?_⟩; gi_at_call 136; refine (pairs_in _ _ _ _ _ _ _ _).mono ?_; rintro e w' ⟨rfl, rfl⟩)
 have bS := Boxed.new w 3 (.int .i64 0)
 have bA := Boxed.new (w.alloc (.cells #[.int .i64 0] 3)) 22 (.slice A na ca)
 have bB := Boxed.new ((w.alloc (.cells #[.int .i64 0] 3)).alloc (.cells #[.slice A na ca] 22)) 22 (.slice B nb cb)
 simp only [World.size_alloc] at bA bB
 have hB0 : Below w.heap.size w (((w.alloc (.cells #[.int .i64 0] 3)).alloc (.cells #[.slice A na ca] 22)).alloc (.cells #[.slice B nb cb] 22)) := (((Below.refl _ w).alloc (Nat.le_refl _) _).alloc (by simp) _).alloc (by simp; omega) _
 refine wpIn_rangeFunc_ownG rfl (by omega) (gf := 154) (lb := #[.pointer (some ⟨w.heap.size + 1, 0, none⟩), .pointer (some ⟨w.heap.size + 1 + 1, 0, none⟩)]) rfl trivial (enters_of Tryz.func154 (by kernel_rfl) rfl)
  (pairs_stops 4 (by omega) (w.heap.size + 1) (w.heap.size + 1 + 1) (fun j => j ≠ w.heap.size ∧ j < w.heap.size + 3) A na ca xs B nb cb ys hna hnb _ (fun p hp hn => by have := h.blk hn hp; omega) (fun p hp hn => by have := k.blk hn hp; omega) (by omega) (by omega) (by simp) (bA.alloc _).cell bB.cell (h.below hB0) (k.below hB0))
  (fun h1 h2 j hj => (h2 j hj).trans (h1 j hj)) (fun W l o o' hl _ _ _ j hj => World.putObj_heap_other (by simp at hl; omega)) (Below.refl _ _) (fun _ => rfl)
  (fun pre W => (W.cell? ⟨w.heap.size, 0, none⟩ = some (.int .i64 (cmpF (raw pre))) ∧ W.frozen? ⟨w.heap.size, 0, none⟩ = false) ∧ Below w.heap.size w W)
  (fun _ _ _ => False)
  (OwnFrom.and (Go.Own.from (fun s A B row hs hg hr => ⟨cell_kept hs.1 hg hr, (frozen_kept hs.1 hg hr).trans hs.2⟩) _) (ownFrom_below (Nat.le_refl _) (by simp; omega)))
  (fun _ _ _ _ _ hs _ _ => hs)
  ⟨⟨((bS.alloc _).alloc _).cell, ((bS.alloc _).alloc _).frozen⟩, hB0⟩
  (fun x => { tmps := #[.slice A na ca, .slice B nb cb, undef, undef, .int .i64 0, .pointer (some ⟨w.heap.size, 0, none⟩), .int .u32 (x.1.1 : Int), .int .u32 (x.1.2 : Int), .slice A na ca, .slice B nb cb, .func (.func 154) #[] #[.pointer (some ⟨w.heap.size + 1, 0, none⟩), .pointer (some ⟨w.heap.size + 1 + 1, 0, none⟩)], .int .u32 (x.1.1 : Int), .int .u32 (x.1.2 : Int), undef, undef, undef, undef, undef, undef, undef], defers := [] }) ?assign ?body ?done ?stop
 case assign =>
  intro l x W K hK
  gi_wp2
  exact hK
 case body =>
  rintro l pre ⟨⟨x1, x2⟩, hx1, hx2⟩ W ⟨⟨hc, hf⟩, hB⟩ _
  dsimp only at hx1 hx2 ⊢
  rw [M.R_eq] at hx1 hx2
  have HC := Lib.hid hc
  have HF := Lib.hid hf
  have HB := Lib.hid hB
  clear hB
  by_cases he : x1 = x2
  ·have hne : ((x1 : Int) != (x2 : Int)) = false := by simp [he]
   gi_wp2
   refine ⟨KeepsFrom.refl _ _, fun _ _ => rfl, ⟨?_, HF.out⟩, HB.out⟩
   rw [HC.out]
   simp only [raw, List.map_append, List.map_cons, List.map_nil]
   rw [cmpF_snoc, if_pos he]
  ·have hne : ((x1 : Int) != (x2 : Int)) = true := by simp; omega
   gi_wp2_with (refine ⟨trivial, ?_⟩; gi_at_call 137; refine (CallsIn.inRound l (callsIn_wide.2 (compare_any x1 x2 _ hx1 hx2 he))).mono ?_; rintro e w' ⟨rfl, rfl⟩)
   refine ⟨(KeepsOthers.setCell _ _ _).from _, fun j hj => heap_setCell_other W ⟨w.heap.size, 0, none⟩ j _ hj.1, ⟨?_, by rw [World.frozen?_setCell]; exact HF.out⟩, HB.out.setCell (p := ⟨w.heap.size, 0, none⟩) (Nat.le_refl _) _⟩
   rw [World.cell?_setCell_same' _ _ _ (by rw [HC.out]; rfl)]
   simp only [raw, List.map_append, List.map_cons, List.map_nil]
   rw [cmpF_snoc, if_neg he]
 case done =>
  rintro D zs W hD hz ⟨⟨hc, _⟩, hB⟩ hK
  rw [hz, cmpF_prs h.Lim k.Lim, List.take_of_length_le (by rw [h.len]; omega), List.take_of_length_le (by rw [k.len]; omega)] at hc
  gi_wp2
  refine ⟨by simp, .inl ⟨_, _, rfl, run_takeDeferred hK, ?_⟩⟩
  exact ⟨_, results_tmp rfl _ _ _, rfl, hB.trans (belowK_b (w := w) (Nat.le_refl _) W D _ _ (by simp at hD; omega) hK rfl rfl)⟩
 case stop =>
  rintro D c pre W _ _ h _
  exact h.elim

theorem cmp_any (A : Option Addr) (na ca : Nat) (xs : List Nat) (B : Option Addr) (nb cb : Nat) (ys : List Nat) (w : World) (h : Rd w A na ca xs) (k : Rd w B nb cb ys) (hna : na ≤ 1048576) (hnb : nb ≤ 1048576) :
  Calls Tryz.prog 104 #[.slice A na ca, .slice B nb cb] w fun e w' => e = .returned (.int .i64 (cmpV (M.val xs) (M.val ys))) ∧ Below w.heap.size w w' :=
 callsIn_wide.1 (cmp_in A na ca xs B nb cb ys w h k hna hnb)

end Go.Proofs.YtbhgbilhoonopaaGreat

/- math/bits.Sub32: the difference of two limbs and a borrow, and what is borrowed. -/
namespace Go.Proofs.YtbhgbilhoonopaaGreat
open Go.RowKit
set_option linter.unusedVariables false

theorem sub32_bits (x y z b bo : Nat) (hx : x < 4294967296) (hy : y < 4294967296) (hz : z < 4294967296) (hb : b ≤ 1) (hbo : bo ≤ 1) (h : x + 4294967296 * bo = z + y + b) :
  (((4294967295 ^^^ x) &&& y) ||| ((4294967295 ^^^ (x ^^^ y)) &&& z)) / 2147483648 = bo := by
 have e : (2147483648 : Nat) = 2 ^ 31 := rfl
 rw [e, ← Nat.shiftRight_eq_div_pow, Nat.shiftRight_or_distrib, Nat.shiftRight_and_distrib, Nat.shiftRight_and_distrib, Nat.shiftRight_xor_distrib, Nat.shiftRight_xor_distrib, Nat.shiftRight_xor_distrib,
  Nat.shiftRight_eq_div_pow, Nat.shiftRight_eq_div_pow, Nat.shiftRight_eq_div_pow, Nat.shiftRight_eq_div_pow, ← e, show 4294967295 / 2147483648 = 1 from rfl]
 have h1 : x / 2147483648 ≤ 1 := by omega
 have h2 : y / 2147483648 ≤ 1 := by omega
 have h3 : z / 2147483648 ≤ 1 := by omega
 have ex := Nat.div_add_mod x 2147483648
 have ey := Nat.div_add_mod y 2147483648
 have ez := Nat.div_add_mod z 2147483648
 have lx := Nat.mod_lt x (show 0 < 2147483648 by omega)
 have ly := Nat.mod_lt y (show 0 < 2147483648 by omega)
 have lz := Nat.mod_lt z (show 0 < 2147483648 by omega)
 generalize x / 2147483648 = xt at *
 generalize y / 2147483648 = yt at *
 generalize z / 2147483648 = zt at *
 rcases (show xt = 0 ∨ xt = 1 by omega) with rfl | rfl <;> rcases (show yt = 0 ∨ yt = 1 by omega) with rfl | rfl <;> rcases (show zt = 0 ∨ zt = 1 by omega) with rfl | rfl
 all_goals first
  | (show 0 = bo; omega)
  | (show 1 = bo; omega)

theorem xor_lt32 {a b : Nat} (ha : a < 4294967296) (hb : b < 4294967296) : a ^^^ b < 4294967296 := Nat.xor_lt_two_pow (n := 32) ha hb
theorem and_lt32 {a b : Nat} (hb : b < 4294967296) : a &&& b < 4294967296 := Nat.lt_of_le_of_lt Nat.and_le_right hb

theorem sub32_int (x y z b bo : Nat) (hx : x < 4294967296) (hy : y < 4294967296) (hz : z < 4294967296) (hb : b ≤ 1) (hbo : bo ≤ 1) (h : x + 4294967296 * bo = z + y + b) :
  bits BinOp.or IntKind.u32 (bits BinOp.and IntKind.u32 (bits BinOp.xor IntKind.u32 IntKind.u32.max (x : Int)) (y : Int))
   (bits BinOp.and IntKind.u32 (bits BinOp.xor IntKind.u32 IntKind.u32.max (bits BinOp.xor IntKind.u32 (x : Int) (y : Int))) (z : Int)) / 2147483648 = (bo : Int) := by
 have em : IntKind.u32.max = ((4294967295 : Nat) : Int) := rfl
 have hxy := xor_lt32 hx hy
 have h1 := xor_lt32 (show (4294967295 : Nat) < 4294967296 by omega) hx
 have h2 := xor_lt32 (show (4294967295 : Nat) < 4294967296 by omega) hxy
 rw [em, u32_xor_nat _ _ hx hy, u32_xor_nat _ _ (by omega) hx, u32_xor_nat _ _ (by omega) hxy, u32_and_nat _ _ h1 hy, u32_and_nat _ _ h2 hz, u32_or_nat _ _ (and_lt32 hy) (and_lt32 hz)]
 have := sub32_bits x y z b bo hx hy hz hb hbo h
 rw [← this]
 simp

def Subs (w : World) (x y b : Nat) (e : Ending) (w' : World) : Prop :=
 ∃ z bo : Nat, e = .returned (.tuple #[.int .u32 (z : Int), .int .u32 (bo : Int)]) ∧ z < 4294967296 ∧ bo ≤ 1 ∧ x + 4294967296 * bo = z + y + b ∧ w = w'

set_option maxHeartbeats 400000 in
theorem sub32_any (x y b : Nat) (w : World) (hx : x < 4294967296) (hy : y < 4294967296) (hb : b ≤ 1) :
  Calls Tryz.prog 158 #[.int .u32 (x : Int), .int .u32 (y : Int), .int .u32 (b : Int)] w (Subs w x y b) := by
 go_enter Tryz.func158, Tryz.ntmps158
 obtain ⟨bo, z, hbo, hz, hsum⟩ : ∃ bo z : Nat, bo ≤ 1 ∧ z < 4294967296 ∧ x + 4294967296 * bo = z + y + b := by
  by_cases hlt : x < y + b
  ·exact ⟨1, x + 4294967296 - y - b, by omega, by omega, by omega⟩
  ·exact ⟨0, x - y - b, by omega, by omega, by omega⟩
 have hz2 : ((x : Int) - (y : Int) - (b : Int)) % 4294967296 = (z : Int) := by omega
 have HB := Lib.hid (sub32_int x y z b bo hx hy hz hb hbo hsum)
 go_wp2
 go_ret2
 refine ⟨z, bo, ret_eq ?_, hz, hbo, hsum, rfl⟩
 rw [← HB.out]
 rfl

end Go.Proofs.YtbhgbilhoonopaaGreat

/- nat.Sub: for every two rows of limbs (of 2^20 at most). -/
namespace Go.Proofs.YtbhgbilhoonopaaGreat
open Go.RowKit Go.Shelf
set_option linter.unusedVariables false
attribute [local go_sem] Oper.semAt_some

/-- What has been taken away so far: the rows' first limbs, side by side; zs: what is left; bo: what is borrowed. -/
structure SubR (l : List (Nat × Nat)) (zs : List Nat) (bo : Nat) : Prop where
 len : zs.length = l.length
 lim : M.Lim zs
 bo1 : bo ≤ 1
 sum : M.val (l.map Prod.fst) + M.R ^ l.length * bo = M.val zs + M.val (l.map Prod.snd)

theorem SubR.start : SubR [] [] 0 := ⟨rfl, M.Lim.nil, by omega, rfl⟩
theorem SubR.step {l : List (Nat × Nat)} {zs : List Nat} {bo x y z bo' : Nat} (h : SubR l zs bo) (hz : z < 4294967296) (hb : bo' ≤ 1) (hs : x + 4294967296 * bo' = z + y + bo) : SubR (l ++ [(x, y)]) (zs ++ [z]) bo' := by
 refine ⟨by simp [h.len], h.lim.append (M.Lim.cons (by rw [M.R_eq]; exact hz) M.Lim.nil), hb, ?_⟩
 rw [List.map_append, List.map_append, M.val_append, M.val_append, M.val_append, h.len, List.length_map, List.length_map, List.length_append]
 simp only [List.map_cons, List.map_nil, M.val, Nat.mul_zero, Nat.add_zero, List.length_cons, List.length_nil, Nat.zero_add, Nat.pow_succ]
 have e := h.sum
 have e1 : M.R ^ l.length * (x + M.R * bo') = M.R ^ l.length * (z + y + bo) := by rw [M.R_eq, hs]
 have e2 : M.R ^ l.length * (x + M.R * bo') = M.R ^ l.length * x + M.R ^ l.length * M.R * bo' := by rw [Nat.mul_add, Nat.mul_assoc]
 have e3 : M.R ^ l.length * (z + y + bo) = M.R ^ l.length * z + M.R ^ l.length * y + M.R ^ l.length * bo := by rw [Nat.mul_add, Nat.mul_add]
 omega

theorem prs_fst (xs ys : List Nat) (k : Nat) : M.val ((prs xs ys k).map Prod.fst) = M.val (xs.take k) := by
 induction k with
 | zero => rfl
 | succ k ih =>
  rw [prs_succ, List.map_append, M.val_append, ih, List.length_map, prs_length, M.val_take_succ]
  simp [M.val]
theorem prs_snd (xs ys : List Nat) (k : Nat) : M.val ((prs xs ys k).map Prod.snd) = M.val (ys.take k) := by
 induction k with
 | zero => rfl
 | succ k ih =>
  rw [prs_succ, List.map_append, M.val_append, ih, List.length_map, prs_length, M.val_take_succ]
  simp [M.val]

/-- append of one limb where there is room: the block stays. -/
theorem appIn_fits {F : Fence} {n : Nat} (w : World) {ops : Array Oper} {rest : List Oper} {o : Oper} {a : Act} {Q : Exit → Act → World → Prop} (hgd : o.guard = none) (s x : Operand)
  (ho : o.op = .call { callee := .builtin .append, args := #[s, x], argTypes := #[22, 22] })
  (base g k cap : Nat) (xs : List Nat) (hs : a.eval s = .slice (some ⟨g, 0, none⟩) k cap) (hown : Own w base (some ⟨g, 0, none⟩) k cap xs)
  (B : Addr) (y : Nat) (hx : a.eval x = .slice (some B) 1 1) (hr : Rd w (some B) 1 1 [y]) (hroom : k + 1 ≤ cap)
  (h : ∀ w', Own w' base (some ⟨g, 0, none⟩) (k + 1) cap (xs ++ [y]) → w.grownBy w' (some g) → wpListIn F n Tryz.prog ops Q rest (a.put o.dst (.slice (some ⟨g, 0, none⟩) (k + 1) cap)) w') :
  wpListIn F n Tryz.prog ops Q (o :: rest) a w := by
 obtain ⟨i0, hi, hz0, hz1, hz2⟩ := info_parts kU32.info
 refine wpListIn_append_fits w hgd s x 22 ho base 44 i0 1 Tryz.underlying22 hi hz1 g k cap (xs.map kU32.enc) hs hown.row B 1 1 [kU32.enc y] hx rfl ?_ ?_ hroom ?_
 ·intro j u hj
  match j, hj with
  | 0, hj =>
   simp at hj
   subst hj
   obtain ⟨b, o', hA, hc⟩ := hr.cells (by omega)
   cases hA
   have := hc 0 y rfl
   rw [Addr.add_lit]
   exact this
 ·intro u hu
  simp at hu
  subst hu
  rfl
 ·intro w' h1 h2
  refine h w' ⟨?_, ?_⟩ h2
  ·rw [List.map_append]
   exact h1
  ·intro z hz
   rcases List.mem_append.1 hz with hz | hz
   ·exact hown.lim z hz
   ·exact hr.lim z hz

theorem makeIn_own {F : Fence} {n : Nat} (w : World) {ops : Array Oper} {rest : List Oper} {o : Oper} {a : Act} {Q : Exit → Act → World → Prop} (hg : o.guard = none) (l c : Operand)
  (hop : o.op = Op.makeSlice 22 l c) (kl kc : IntKind) (C : Int) (m : Nat) (hl : a.eval l = .int kl 0) (hc : a.eval c = .int kc C) (hC : C = (m : Int)) (hm : m ≤ 8388608)
  (hK : ∀ w', Own w' w.heap.size (some ⟨w.heap.size, 0, none⟩) 0 m [] → Below w.heap.size w w' → wpListIn F n Tryz.prog ops Q rest (a.put o.dst (.slice (some ⟨w.heap.size, 0, none⟩) 0 m)) w') :
  wpListIn F n Tryz.prog ops Q (o :: rest) a w := by
 obtain ⟨i0, hi, hz0, hz1, hz2⟩ := info_parts kU32.info
 refine wpListIn_make_own w hg l c 22 hop w.heap.size 44 i0 (kU32.enc kU32.zero) 1 Tryz.underlying22 hi hz0 hz1 kl kc C m hl hc hC ?_ (by unfold maxLen; omega) (Nat.le_refl _) ?_
 ·rw [hz2]
  show 4 * m ≤ _
  omega
 ·intro w' h1 h2
  exact hK w' ⟨h1, fun _ hx => by cases hx⟩ (below_of_grownBy h2)

/-- A block of cells lies as it lay behind a turn of a block that is none. -/
theorem cells_kept {W W' : World} {row : Option Nat} (hg : W.grownBy W' row) (hr : ∀ r, row = some r → ∃ o : Obj, W.heap[r]? = some o ∧ o.isCells = false) {b : Nat} {o : Obj} (h : W.heap[b]? = some o) (ho : o.isCells = true) : W'.heap[b]? = W.heap[b]? := by
 refine hg.block b (Array.getElem?_eq_some_iff.1 h).1 fun e => ?_
 obtain ⟨o', h1, h2⟩ := hr b e.symm
 rw [h] at h1
 cases h1
 rw [ho] at h2
 cases h2

/-- The state between two rounds. -/
def SubI (g Bo Bb m L : Nat) (w : World) (pre : List LL) (W : World) : Prop :=
 (∃ (zs : List Nat) (bo : Nat), Boxed W Bo 22 (.slice (some ⟨g, 0, none⟩) pre.length m) ∧ Boxed W Bb 44 (.int .u32 (bo : Int)) ∧ Own W g (some ⟨g, 0, none⟩) pre.length m zs ∧ SubR (raw pre) zs bo) ∧ Below g w W ∧ L ≤ W.heap.size

theorem SubI.own (g Bo Bb m L : Nat) (w : World) (D : Nat) (hD : g ≤ D) : OwnFrom D (SubI g Bo Bb m L w) := by
 rintro pre W W' row ⟨⟨zs, bo, h1, h2, h3, h4⟩, hb, hL⟩ hg hr
 have hr' : ∀ r, row = some r → ∃ o : Obj, W.heap[r]? = some o ∧ o.isCells = false := fun r e => (hr r e).2
 refine ⟨⟨zs, bo, (cells_kept hg hr' h1 rfl).trans h1, (cells_kept hg hr' h2 rfl).trans h2, ?_, h4⟩, ?_⟩
 ·refine h3.grown hg fun p hp e => ?_
  rcases h3.cases with ⟨h0, _⟩ | ⟨g', cur, hA, _, hh, _⟩
  ·cases h0
  ·cases hA
   cases hp
   obtain ⟨o', h5, h6⟩ := hr' g e.symm
   rw [hh] at h5
   cases h5
   cases h6
 ·have hsz : g ≤ W.heap.size := by
   rcases h3.cases with ⟨h0, _⟩ | ⟨g', cur, hA, _, hh, _⟩
   ·cases h0
   ·cases hA
    exact Nat.le_of_lt (Array.getElem?_eq_some_iff.1 hh).1
  exact ⟨hb.grown hg hsz (fun k hk => by have := (hr k hk).1; omega), Nat.le_trans hL hg.size⟩

def SubP (w : World) (x y : Nat) (e : Ending) (w' : World) : Prop :=
 (y ≤ x ∧ GivesB w (M.lims (x - y)) true e w') ∨ (x < y ∧ GivesB w [] false e w')

theorem sub_hr (W : World) (p : Addr) (v : Value) (z : Nat) (hz : z < 4294967296) : Rd ((W.setCell p v).alloc (.cells #[.int .u32 (z : Int)] 44)) (some ⟨W.heap.size, 0, none⟩) 1 1 [z] := by
 have := RdK.one (K := kU32) (W.setCell p v) z (show z < M.R by rw [M.R_eq]; exact hz)
 have e : (W.setCell p v).heap.size = W.heap.size := by simp [World.setCell]
 rw [e] at this
 exact this
theorem sub_ho {W : World} {g n c : Nat} {zs : List Nat} (h : Own W g (some ⟨g, 0, none⟩) n c zs) {p : Addr} (hp : g ≠ p.block) (v : Value) (o : Obj) : Own ((W.setCell p v).alloc o) g (some ⟨g, 0, none⟩) n c zs :=
 (h.grown (grownBy_setCell W p v) (fun q hq e => by cases hq; injection e with e; exact hp e)).alloc o

theorem sub_step {w W w3 : World} {g Bo Bb m L D z bo bo' x1 x2 : Nat} {zs : List Nat} {pre : List LL} {hx : (x1, x2).1 < M.R ∧ (x1, x2).2 < M.R} {o : Obj} (hgo : g < Bo) (hob : Bo < Bb) (hD : Bb < D) (h1 : Boxed W Bo 22 (.slice (some ⟨g, 0, none⟩) pre.length m))
  (h2 : Boxed W Bb 44 (.int .u32 (bo : Int))) (h4 : SubR (raw pre) zs bo) (hb : Below g w W) (hL : L ≤ W.heap.size) (ho3 : Own w3 g (some ⟨g, 0, none⟩) (pre.length + 1) m (zs ++ [z]))
  (hg3 : ((W.setCell ⟨Bb, 0, none⟩ (.int .u32 (bo' : Int))).alloc o).grownBy w3 (some g)) (hz : z < 4294967296) (hbo' : bo' ≤ 1) (hs : x1 + 4294967296 * bo' = z + x2 + bo) :
  KeepsFrom D W (w3.setCell ⟨Bo, 0, none⟩ (.slice (some ⟨g, 0, none⟩) (pre.length + 1) m)) ∧ Keep (fun j => j ≠ g ∧ j ≠ Bo ∧ j ≠ Bb ∧ j < L) W (w3.setCell ⟨Bo, 0, none⟩ (.slice (some ⟨g, 0, none⟩) (pre.length + 1) m)) ∧
   SubI g Bo Bb m L w (pre ++ [⟨(x1, x2), hx⟩]) (w3.setCell ⟨Bo, 0, none⟩ (.slice (some ⟨g, 0, none⟩) (pre.length + 1) m)) := by
 have hsz1 : (W.setCell ⟨Bb, 0, none⟩ (.int .u32 (bo' : Int))).heap.size = W.heap.size := by simp [World.setCell]
 have hsz2 : ((W.setCell ⟨Bb, 0, none⟩ (.int .u32 (bo' : Int))).alloc o).heap.size = W.heap.size + 1 := by rw [World.size_alloc, hsz1]
 have hsz3 := hg3.size
 have hl1 := h1.lt
 have hl2 := h2.lt
 have b1 : Boxed w3 Bo 22 (.slice (some ⟨g, 0, none⟩) pre.length m) := ((h1.kept (grownBy_setCell W ⟨Bb, 0, none⟩ (.int .u32 (bo' : Int))) (by intro e; injection e with e; dsimp only at e; omega)).alloc o).kept hg3 (by intro e; injection e with e; omega)
 have b2 : Boxed w3 Bb 44 (.int .u32 (bo' : Int)) := ((h2.set (.int .u32 (bo' : Int))).alloc o).kept hg3 (by intro e; injection e with e; omega)
 refine ⟨?_, ?_, ⟨zs ++ [z], bo', ?_, ?_, ?_, ?_⟩, ?_, ?_⟩
 ·exact ((((KeepsOthers.setCell _ _ _).from D).trans ((KeepsOthers.alloc _ _).from D)).trans (KeepsFrom.of_grownBy hg3 (fun j e => by cases e; omega))).trans ((KeepsOthers.setCell _ _ _).from D)
 ·intro j hj
  rw [heap_setCell_other w3 ⟨Bo, 0, none⟩ j _ hj.2.1, hg3.block j (by omega) (by intro e; injection e with e; exact hj.1 e), Below.heap_alloc _ _ j (by omega), heap_setCell_other W ⟨Bb, 0, none⟩ j _ hj.2.2.1]
 ·rw [List.length_append]
  exact b1.set _
 ·exact b2.kept (grownBy_setCell w3 ⟨Bo, 0, none⟩ _) (by intro e; injection e with e; dsimp only at e; omega)
 ·rw [List.length_append]
  exact ho3.grown (grownBy_setCell w3 ⟨Bo, 0, none⟩ _) (fun p hp e => by cases hp; injection e with e; dsimp only at e; omega)
 ·have := h4.step hz hbo' hs
  simpa [raw] using this
 ·exact (((hb.setCell (p := ⟨Bb, 0, none⟩) (by dsimp only; omega) _).alloc (by rw [hsz1]; omega) o).grown hg3 (by omega) (fun k hk => by cases hk; exact Nat.le_refl _)).setCell (p := ⟨Bo, 0, none⟩) (by dsimp only; omega) _
 ·have : (w3.setCell ⟨Bo, 0, none⟩ (.slice (some ⟨g, 0, none⟩) (pre.length + 1) m)).heap.size = w3.heap.size := by simp [World.setCell]
  rw [this]
  omega

/-- Where all limbs have come. -/
theorem sub_end {xs ys zs : List Nat} {m bo : Nat} (hx : M.Lim xs) (hy : M.Lim ys) (hxl : xs.length ≤ m) (hyl : ys.length ≤ m) (h : SubR (prs xs ys m) zs bo) : (bo = 0 ∧ M.val ys ≤ M.val xs ∧ M.val zs = M.val xs - M.val ys) ∨ (bo = 1 ∧ M.val xs < M.val ys) := by
 have hs := h.sum
 rw [prs_fst, prs_snd, prs_length, List.take_of_length_le hxl, List.take_of_length_le hyl] at hs
 have hl := M.val_lt h.lim
 rw [h.len, prs_length] at hl
 have hb := h.bo1
 rcases (show bo = 0 ∨ bo = 1 by omega) with rfl | rfl
 ·left
  rw [Nat.mul_zero] at hs
  omega
 ·right
  rw [Nat.mul_one] at hs
  omega

set_option maxRecDepth 100000 in
set_option maxHeartbeats 4000000 in
theorem sub_lt (A : Option Addr) (na nb : Nat) (ca : Nat) (xs : List Nat) (B : Option Addr) (cb : Nat) (ys : List Nat) (w : World) (H : Hid (Rd w A na ca xs)) (K : Hid (Rd w B nb cb ys)) (hna : na ≤ 1048576) (hnb : nb ≤ 1048576) (hc : (na : Int) < nb) :
  CallsIn Fence.wide 5 Tryz.prog 144 #[.slice A na ca, .slice B nb cb] w (SubP w (M.val xs) (M.val ys)) := by
 refine callsIn_of_wp_marks Tryz.func144 rfl trivial ?_ rfl
 simp only [Tryz.ntmps144, List.size_toArray, List.length_cons, List.length_nil, Nat.reduceAdd, Nat.reduceSub, Array.replicate_succ, Array.replicate_zero, List.push_toArray, List.append_toArray, List.nil_append, List.cons_append]
 gi_wp2_with (first
  | (gi_at_make; refine makeIn_own _ rfl _ _ rfl .i64 .i64 _ nb rfl rfl (by omega) (by omega) ?_; intro w1 ho1 hb1; have HO1 := Lib.hid ho1; have HB1 := Lib.hid hb1; clear ho1 hb1)
  | (refine ⟨trivial, ?_⟩; gi_at_call 136; refine (pairs_in _ _ _ _ _ _ _ _).mono ?_; rintro e w' ⟨rfl, rfl⟩))
 have hg1 : w.heap.size < w1.heap.size := (HO1.out.lt rfl).2
 have bO := Boxed.new w1 22 (.slice (some ⟨w.heap.size, 0, none⟩) 0 nb)
 have bB := Boxed.new (w1.alloc (.cells #[.slice (some ⟨w.heap.size, 0, none⟩) 0 nb] 22)) 44 (.int .u32 0)
 have bX := Boxed.new ((w1.alloc (.cells #[.slice (some ⟨w.heap.size, 0, none⟩) 0 nb] 22)).alloc (.cells #[.int .u32 0] 44)) 22 (.slice A na ca)
 have bY := Boxed.new (((w1.alloc (.cells #[.slice (some ⟨w.heap.size, 0, none⟩) 0 nb] 22)).alloc (.cells #[.int .u32 0] 44)).alloc (.cells #[.slice A na ca] 22)) 22 (.slice B nb cb)
 simp only [World.size_alloc] at bB bX bY
 have hB0 := (((HB1.out.alloc HB1.out.size (.cells #[.slice (some ⟨w.heap.size, 0, none⟩) 0 nb] 22)).alloc (by simp; omega) (.cells #[.int .u32 0] 44)).alloc (by simp; omega) (.cells #[.slice A na ca] 22)).alloc (by simp; omega) (.cells #[.slice B nb cb] 22)
 have hmax : max na nb = nb := by omega
 have hps := pairs_stops 4 (by omega) (w1.heap.size + 1 + 1) (w1.heap.size + 1 + 1 + 1) (fun j => j ≠ w.heap.size ∧ j ≠ w1.heap.size ∧ j ≠ w1.heap.size + 1 ∧ j < w1.heap.size + 4) A na ca xs B nb cb ys hna hnb _ (fun p hp hn => by have := H.out.blk hn hp; omega) (fun p hp hn => by have := K.out.blk hn hp; omega) (by omega) (by omega) (by intro j hj; simp; omega) (bX.alloc _).cell bY.cell (H.out.below hB0) (K.out.below hB0)
 rw [hmax] at hps
 refine wpIn_rangeFunc_ownG rfl (by omega) (gf := 154) (lb := #[.pointer (some ⟨w1.heap.size + 1 + 1, 0, none⟩), .pointer (some ⟨w1.heap.size + 1 + 1 + 1, 0, none⟩)]) rfl trivial (enters_of Tryz.func154 (by kernel_rfl) rfl) hps
  (fun h1 h2 j hj => (h2 j hj).trans (h1 j hj)) (fun W l o o' hl _ _ _ j hj => World.putObj_heap_other (by simp at hl; omega)) (Below.refl _ _) (fun _ => rfl)
  (SubI w.heap.size w1.heap.size (w1.heap.size + 1) nb (w1.heap.size + 4) w) (fun _ _ _ => False) (SubI.own _ _ _ _ _ _ _ (by simp; omega)) (fun _ _ _ _ _ hs _ _ => hs)
  ⟨⟨[], 0, ((bO.alloc _).alloc _).alloc _, (bB.alloc _).alloc _, (((HO1.out.alloc _).alloc _).alloc _).alloc _, SubR.start⟩, hB0, by simp⟩
  (fun x => { tmps := #[.slice A na ca, .slice B nb cb, undef, undef, .slice none 0 0, .bool false, .pointer (some ⟨w1.heap.size, 0, none⟩), .pointer (some ⟨w1.heap.size + 1, 0, none⟩), .int .u32 (x.1.1 : Int), .int .u32 (x.1.2 : Int), .slice A na ca, .int .i64 (na : Int), .slice B nb cb, .int .i64 (nb : Int), .int .i64 (nb : Int), .slice (some ⟨w.heap.size, 0, none⟩) 0 nb, .slice A na ca, .slice B nb cb, .func (.func 154) #[] #[.pointer (some ⟨w1.heap.size + 1 + 1, 0, none⟩), .pointer (some ⟨w1.heap.size + 1 + 1 + 1, 0, none⟩)], .int .u32 (x.1.1 : Int), .int .u32 (x.1.2 : Int), undef, undef, undef, undef, undef, undef, undef, undef, undef, undef, undef, undef, undef, undef, undef], defers := [] }) ?assign ?body ?done ?stop
 case assign =>
  intro l x W K hK
  gi_wp2
  exact hK
 case body =>
  rintro l pre ⟨⟨x1, x2⟩, hx1, hx2⟩ W ⟨⟨zs, bo, h1, h2, h3, h4⟩, hb, hL⟩ hlt
  dsimp only at hx1 hx2 ⊢
  rw [M.R_eq] at hx1 hx2
  have cB := h2.cell
  have fB := h2.frozen
  have cO := h1.cell
  have fO := h1.frozen
  have hbo1 := h4.bo1
  have H1 := Lib.hid h1
  have H2 := Lib.hid h2
  have H3 := Lib.hid h3
  have H4 := Lib.hid h4
  have HB := Lib.hid hb
  clear h1 h2 h3 h4 hb
  gi_wp2_with (first
   | (refine ⟨trivial, ?_⟩; gi_at_call 158; refine (CallsIn.inRound l (callsIn_wide.2 (sub32_any x1 x2 bo _ hx1 hx2 hbo1))).mono ?_; rintro e w' ⟨z, bo', rfl, hz, hbo', hsum, rfl⟩; have HSUM := Lib.hid hsum; clear hsum; have HR3 := Lib.hid (sub_hr W ⟨w1.heap.size + 1, 0, none⟩ (.int .u32 (bo' : Int)) z hz); have HO2 := Lib.hid (sub_ho H3.out (p := ⟨w1.heap.size + 1, 0, none⟩) (by dsimp only; omega) (.int .u32 (bo' : Int)) (.cells #[.int .u32 (z : Int)] 44)))
   | (gi_at_builtin; refine appIn_fits _ rfl _ _ rfl w.heap.size w.heap.size pre.length nb zs rfl HO2.out _ z rfl HR3.out (by omega) ?_; intro w3 ho3 hg3; have HO3 := Lib.hid ho3; have HG3 := Lib.hid hg3; clear ho3 hg3; have b3 := (((H1.out.kept (grownBy_setCell W ⟨w1.heap.size + 1, 0, none⟩ (.int .u32 (bo' : Int))) (by intro e; injection e with e; dsimp only at e; omega)).alloc (.cells #[.int .u32 (z : Int)] 44)).kept HG3.out (by intro e; injection e with e; omega)); have c3 := b3.cell; have f3 := b3.frozen; have B3 := Lib.hid b3; clear b3))
  exact sub_step (by omega) (by omega) (by simp) H1.out H2.out H4.out HB.out hL HO3.out HG3.out hz hbo' HSUM.out
 case done =>
  rintro D zs W hD hz ⟨⟨ds, bo, h1, h2, h3, h4⟩, hb, hL⟩ hK
  rw [hz] at h4
  have hend := sub_end H.out.Lim K.out.Lim (by rw [H.out.len]; omega) (by rw [K.out.len]; omega) h4
  have hlen : zs.length = nb := by have := congrArg List.length hz; simpa [raw, prs] using this
  have cB := h2.cell
  have cO := h1.cell
  rw [hlen] at cO h3
  have H3 := Lib.hid h3
  have HB := Lib.hid hb
  have HK := Lib.hid hK
  clear h1 h2 h3 hb hz hlen hL
  rcases hend with ⟨hbo, hle, hval⟩ | ⟨hbo, hlt⟩
  ·subst hbo
   have HLE := Lib.hid hle
   have HVAL := Lib.hid hval
   have hds : M.Lim ds := h4.lim
   have hs := H3.out.short
   rw [M.tr_eq_lims hds, hval] at hs
   have hsl : (M.tr ds).length = (M.lims (M.val xs - M.val ys)).length := by rw [M.tr_eq_lims hds, hval]
   have HSL := Lib.hid hsl
   have HS := Lib.hid hs
   have HDS := Lib.hid hds
   clear hle hval hds h4 hs hsl
   gi_wp2_with (refine ⟨trivial, ?_⟩; gi_at_call 111; refine (callsIn_wide.2 (short_any _ _ _ ds _ H3.out.rd (by omega))).mono ?_; rw [HSL.out]; rintro e w' ⟨rfl, rfl⟩)
   refine ⟨by simp, .inl ⟨_, _, rfl, run_takeDeferred HK.out, ?_⟩⟩
   exact ⟨_, results_tmp2 rfl _ _ _, .inl ⟨HLE.out, _, _, rfl, ⟨ownsRow_putObj HS.out.row _ HK.out rfl, HS.out.lim⟩, HB.out.trans (belowK_b (w := w) (Nat.le_refl _) W D _ _ (by simp at hD; omega) HK.out rfl rfl)⟩⟩
  ·subst hbo
   have HLT := Lib.hid hlt
   clear hlt h4
   gi_wp2
   refine ⟨by simp, .inl ⟨_, _, rfl, run_takeDeferred HK.out, ?_⟩⟩
   exact ⟨_, results_tmp2 rfl _ _ _, .inr ⟨HLT.out, _, _, rfl, OwK.nil_ _ _, HB.out.trans (belowK_b (w := w) (Nat.le_refl _) W D _ _ (by simp at hD; omega) HK.out rfl rfl)⟩⟩
 case stop =>
  rintro D c pre W _ _ h _
  exact h.elim

set_option maxRecDepth 100000 in
set_option maxHeartbeats 4000000 in
theorem sub_eq (A : Option Addr) (na : Nat) (ca : Nat) (xs : List Nat) (B : Option Addr) (cb : Nat) (ys : List Nat) (w : World) (H : Hid (Rd w A na ca xs)) (K : Hid (Rd w B na cb ys)) (hna : na ≤ 1048576) (hnb : na ≤ 1048576) :
  CallsIn Fence.wide 5 Tryz.prog 144 #[.slice A na ca, .slice B na cb] w (SubP w (M.val xs) (M.val ys)) := by
 refine callsIn_of_wp_marks Tryz.func144 rfl trivial ?_ rfl
 simp only [Tryz.ntmps144, List.size_toArray, List.length_cons, List.length_nil, Nat.reduceAdd, Nat.reduceSub, Array.replicate_succ, Array.replicate_zero, List.push_toArray, List.append_toArray, List.nil_append, List.cons_append]
 gi_wp2_with (first
  | (gi_at_make; refine makeIn_own _ rfl _ _ rfl .i64 .i64 _ na rfl rfl (by omega) (by omega) ?_; intro w1 ho1 hb1; have HO1 := Lib.hid ho1; have HB1 := Lib.hid hb1; clear ho1 hb1)
  | (refine ⟨trivial, ?_⟩; gi_at_call 136; refine (pairs_in _ _ _ _ _ _ _ _).mono ?_; rintro e w' ⟨rfl, rfl⟩))
 have hg1 : w.heap.size < w1.heap.size := (HO1.out.lt rfl).2
 have bO := Boxed.new w1 22 (.slice (some ⟨w.heap.size, 0, none⟩) 0 na)
 have bB := Boxed.new (w1.alloc (.cells #[.slice (some ⟨w.heap.size, 0, none⟩) 0 na] 22)) 44 (.int .u32 0)
 have bX := Boxed.new ((w1.alloc (.cells #[.slice (some ⟨w.heap.size, 0, none⟩) 0 na] 22)).alloc (.cells #[.int .u32 0] 44)) 22 (.slice A na ca)
 have bY := Boxed.new (((w1.alloc (.cells #[.slice (some ⟨w.heap.size, 0, none⟩) 0 na] 22)).alloc (.cells #[.int .u32 0] 44)).alloc (.cells #[.slice A na ca] 22)) 22 (.slice B na cb)
 simp only [World.size_alloc] at bB bX bY
 have hB0 := (((HB1.out.alloc HB1.out.size (.cells #[.slice (some ⟨w.heap.size, 0, none⟩) 0 na] 22)).alloc (by simp; omega) (.cells #[.int .u32 0] 44)).alloc (by simp; omega) (.cells #[.slice A na ca] 22)).alloc (by simp; omega) (.cells #[.slice B na cb] 22)
 have hmax : max na na = na := by omega
 have hps := pairs_stops 4 (by omega) (w1.heap.size + 1 + 1) (w1.heap.size + 1 + 1 + 1) (fun j => j ≠ w.heap.size ∧ j ≠ w1.heap.size ∧ j ≠ w1.heap.size + 1 ∧ j < w1.heap.size + 4) A na ca xs B na cb ys hna hnb _ (fun p hp hn => by have := H.out.blk hn hp; omega) (fun p hp hn => by have := K.out.blk hn hp; omega) (by omega) (by omega) (by intro j hj; simp; omega) (bX.alloc _).cell bY.cell (H.out.below hB0) (K.out.below hB0)
 rw [hmax] at hps
 refine wpIn_rangeFunc_ownG rfl (by omega) (gf := 154) (lb := #[.pointer (some ⟨w1.heap.size + 1 + 1, 0, none⟩), .pointer (some ⟨w1.heap.size + 1 + 1 + 1, 0, none⟩)]) rfl trivial (enters_of Tryz.func154 (by kernel_rfl) rfl) hps
  (fun h1 h2 j hj => (h2 j hj).trans (h1 j hj)) (fun W l o o' hl _ _ _ j hj => World.putObj_heap_other (by simp at hl; omega)) (Below.refl _ _) (fun _ => rfl)
  (SubI w.heap.size w1.heap.size (w1.heap.size + 1) na (w1.heap.size + 4) w) (fun _ _ _ => False) (SubI.own _ _ _ _ _ _ _ (by simp; omega)) (fun _ _ _ _ _ hs _ _ => hs)
  ⟨⟨[], 0, ((bO.alloc _).alloc _).alloc _, (bB.alloc _).alloc _, (((HO1.out.alloc _).alloc _).alloc _).alloc _, SubR.start⟩, hB0, by simp⟩
  (fun x => { tmps := #[.slice A na ca, .slice B na cb, undef, undef, .slice none 0 0, .bool false, .pointer (some ⟨w1.heap.size, 0, none⟩), .pointer (some ⟨w1.heap.size + 1, 0, none⟩), .int .u32 (x.1.1 : Int), .int .u32 (x.1.2 : Int), .slice A na ca, .int .i64 (na : Int), .slice B na cb, .int .i64 (na : Int), .int .i64 (na : Int), .slice (some ⟨w.heap.size, 0, none⟩) 0 na, .slice A na ca, .slice B na cb, .func (.func 154) #[] #[.pointer (some ⟨w1.heap.size + 1 + 1, 0, none⟩), .pointer (some ⟨w1.heap.size + 1 + 1 + 1, 0, none⟩)], .int .u32 (x.1.1 : Int), .int .u32 (x.1.2 : Int), undef, undef, undef, undef, undef, undef, undef, undef, undef, undef, undef, undef, undef, undef, undef], defers := [] }) ?assign ?body ?done ?stop
 case assign =>
  intro l x W K hK
  gi_wp2
  exact hK
 case body =>
  rintro l pre ⟨⟨x1, x2⟩, hx1, hx2⟩ W ⟨⟨zs, bo, h1, h2, h3, h4⟩, hb, hL⟩ hlt
  dsimp only at hx1 hx2 ⊢
  rw [M.R_eq] at hx1 hx2
  have cB := h2.cell
  have fB := h2.frozen
  have cO := h1.cell
  have fO := h1.frozen
  have hbo1 := h4.bo1
  have H1 := Lib.hid h1
  have H2 := Lib.hid h2
  have H3 := Lib.hid h3
  have H4 := Lib.hid h4
  have HB := Lib.hid hb
  clear h1 h2 h3 h4 hb
  gi_wp2_with (first
   | (refine ⟨trivial, ?_⟩; gi_at_call 158; refine (CallsIn.inRound l (callsIn_wide.2 (sub32_any x1 x2 bo _ hx1 hx2 hbo1))).mono ?_; rintro e w' ⟨z, bo', rfl, hz, hbo', hsum, rfl⟩; have HSUM := Lib.hid hsum; clear hsum; have HR3 := Lib.hid (sub_hr W ⟨w1.heap.size + 1, 0, none⟩ (.int .u32 (bo' : Int)) z hz); have HO2 := Lib.hid (sub_ho H3.out (p := ⟨w1.heap.size + 1, 0, none⟩) (by dsimp only; omega) (.int .u32 (bo' : Int)) (.cells #[.int .u32 (z : Int)] 44)))
   | (gi_at_builtin; refine appIn_fits _ rfl _ _ rfl w.heap.size w.heap.size pre.length na zs rfl HO2.out _ z rfl HR3.out (by omega) ?_; intro w3 ho3 hg3; have HO3 := Lib.hid ho3; have HG3 := Lib.hid hg3; clear ho3 hg3; have b3 := (((H1.out.kept (grownBy_setCell W ⟨w1.heap.size + 1, 0, none⟩ (.int .u32 (bo' : Int))) (by intro e; injection e with e; dsimp only at e; omega)).alloc (.cells #[.int .u32 (z : Int)] 44)).kept HG3.out (by intro e; injection e with e; omega)); have c3 := b3.cell; have f3 := b3.frozen; have B3 := Lib.hid b3; clear b3))
  exact sub_step (by omega) (by omega) (by simp) H1.out H2.out H4.out HB.out hL HO3.out HG3.out hz hbo' HSUM.out
 case done =>
  rintro D zs W hD hz ⟨⟨ds, bo, h1, h2, h3, h4⟩, hb, hL⟩ hK
  rw [hz] at h4
  have hend := sub_end H.out.Lim K.out.Lim (by rw [H.out.len]; omega) (by rw [K.out.len]; omega) h4
  have hlen : zs.length = na := by have := congrArg List.length hz; simpa [raw, prs] using this
  have cB := h2.cell
  have cO := h1.cell
  rw [hlen] at cO h3
  have H3 := Lib.hid h3
  have HB := Lib.hid hb
  have HK := Lib.hid hK
  clear h1 h2 h3 hb hz hlen hL
  rcases hend with ⟨hbo, hle, hval⟩ | ⟨hbo, hlt⟩
  ·subst hbo
   have HLE := Lib.hid hle
   have HVAL := Lib.hid hval
   have hds : M.Lim ds := h4.lim
   have hs := H3.out.short
   rw [M.tr_eq_lims hds, hval] at hs
   have hsl : (M.tr ds).length = (M.lims (M.val xs - M.val ys)).length := by rw [M.tr_eq_lims hds, hval]
   have HSL := Lib.hid hsl
   have HS := Lib.hid hs
   have HDS := Lib.hid hds
   clear hle hval hds h4 hs hsl
   gi_wp2_with (refine ⟨trivial, ?_⟩; gi_at_call 111; refine (callsIn_wide.2 (short_any _ _ _ ds _ H3.out.rd (by omega))).mono ?_; rw [HSL.out]; rintro e w' ⟨rfl, rfl⟩)
   refine ⟨by simp, .inl ⟨_, _, rfl, run_takeDeferred HK.out, ?_⟩⟩
   exact ⟨_, results_tmp2 rfl _ _ _, .inl ⟨HLE.out, _, _, rfl, ⟨ownsRow_putObj HS.out.row _ HK.out rfl, HS.out.lim⟩, HB.out.trans (belowK_b (w := w) (Nat.le_refl _) W D _ _ (by simp at hD; omega) HK.out rfl rfl)⟩⟩
  ·subst hbo
   have HLT := Lib.hid hlt
   clear hlt h4
   gi_wp2
   refine ⟨by simp, .inl ⟨_, _, rfl, run_takeDeferred HK.out, ?_⟩⟩
   exact ⟨_, results_tmp2 rfl _ _ _, .inr ⟨HLT.out, _, _, rfl, OwK.nil_ _ _, HB.out.trans (belowK_b (w := w) (Nat.le_refl _) W D _ _ (by simp at hD; omega) HK.out rfl rfl)⟩⟩
 case stop =>
  rintro D c pre W _ _ h _
  exact h.elim

set_option maxRecDepth 100000 in
set_option maxHeartbeats 4000000 in
theorem sub_gt (A : Option Addr) (na nb : Nat) (ca : Nat) (xs : List Nat) (B : Option Addr) (cb : Nat) (ys : List Nat) (w : World) (H : Hid (Rd w A na ca xs)) (K : Hid (Rd w B nb cb ys)) (hna : na ≤ 1048576) (hnb : nb ≤ 1048576) (hc : (nb : Int) < na) :
  CallsIn Fence.wide 5 Tryz.prog 144 #[.slice A na ca, .slice B nb cb] w (SubP w (M.val xs) (M.val ys)) := by
 refine callsIn_of_wp_marks Tryz.func144 rfl trivial ?_ rfl
 simp only [Tryz.ntmps144, List.size_toArray, List.length_cons, List.length_nil, Nat.reduceAdd, Nat.reduceSub, Array.replicate_succ, Array.replicate_zero, List.push_toArray, List.append_toArray, List.nil_append, List.cons_append]
 gi_wp2_with (first
  | (gi_at_make; refine makeIn_own _ rfl _ _ rfl .i64 .i64 _ na rfl rfl (by omega) (by omega) ?_; intro w1 ho1 hb1; have HO1 := Lib.hid ho1; have HB1 := Lib.hid hb1; clear ho1 hb1)
  | (refine ⟨trivial, ?_⟩; gi_at_call 136; refine (pairs_in _ _ _ _ _ _ _ _).mono ?_; rintro e w' ⟨rfl, rfl⟩))
 have hg1 : w.heap.size < w1.heap.size := (HO1.out.lt rfl).2
 have bO := Boxed.new w1 22 (.slice (some ⟨w.heap.size, 0, none⟩) 0 na)
 have bB := Boxed.new (w1.alloc (.cells #[.slice (some ⟨w.heap.size, 0, none⟩) 0 na] 22)) 44 (.int .u32 0)
 have bX := Boxed.new ((w1.alloc (.cells #[.slice (some ⟨w.heap.size, 0, none⟩) 0 na] 22)).alloc (.cells #[.int .u32 0] 44)) 22 (.slice A na ca)
 have bY := Boxed.new (((w1.alloc (.cells #[.slice (some ⟨w.heap.size, 0, none⟩) 0 na] 22)).alloc (.cells #[.int .u32 0] 44)).alloc (.cells #[.slice A na ca] 22)) 22 (.slice B nb cb)
 simp only [World.size_alloc] at bB bX bY
 have hB0 := (((HB1.out.alloc HB1.out.size (.cells #[.slice (some ⟨w.heap.size, 0, none⟩) 0 na] 22)).alloc (by simp; omega) (.cells #[.int .u32 0] 44)).alloc (by simp; omega) (.cells #[.slice A na ca] 22)).alloc (by simp; omega) (.cells #[.slice B nb cb] 22)
 have hmax : max na nb = na := by omega
 have hps := pairs_stops 4 (by omega) (w1.heap.size + 1 + 1) (w1.heap.size + 1 + 1 + 1) (fun j => j ≠ w.heap.size ∧ j ≠ w1.heap.size ∧ j ≠ w1.heap.size + 1 ∧ j < w1.heap.size + 4) A na ca xs B nb cb ys hna hnb _ (fun p hp hn => by have := H.out.blk hn hp; omega) (fun p hp hn => by have := K.out.blk hn hp; omega) (by omega) (by omega) (by intro j hj; simp; omega) (bX.alloc _).cell bY.cell (H.out.below hB0) (K.out.below hB0)
 rw [hmax] at hps
 refine wpIn_rangeFunc_ownG rfl (by omega) (gf := 154) (lb := #[.pointer (some ⟨w1.heap.size + 1 + 1, 0, none⟩), .pointer (some ⟨w1.heap.size + 1 + 1 + 1, 0, none⟩)]) rfl trivial (enters_of Tryz.func154 (by kernel_rfl) rfl) hps
  (fun h1 h2 j hj => (h2 j hj).trans (h1 j hj)) (fun W l o o' hl _ _ _ j hj => World.putObj_heap_other (by simp at hl; omega)) (Below.refl _ _) (fun _ => rfl)
  (SubI w.heap.size w1.heap.size (w1.heap.size + 1) na (w1.heap.size + 4) w) (fun _ _ _ => False) (SubI.own _ _ _ _ _ _ _ (by simp; omega)) (fun _ _ _ _ _ hs _ _ => hs)
  ⟨⟨[], 0, ((bO.alloc _).alloc _).alloc _, (bB.alloc _).alloc _, (((HO1.out.alloc _).alloc _).alloc _).alloc _, SubR.start⟩, hB0, by simp⟩
  (fun x => { tmps := #[.slice A na ca, .slice B nb cb, undef, undef, .slice none 0 0, .bool false, .pointer (some ⟨w1.heap.size, 0, none⟩), .pointer (some ⟨w1.heap.size + 1, 0, none⟩), .int .u32 (x.1.1 : Int), .int .u32 (x.1.2 : Int), .slice A na ca, .int .i64 (na : Int), .slice B nb cb, .int .i64 (nb : Int), .int .i64 (na : Int), .slice (some ⟨w.heap.size, 0, none⟩) 0 na, .slice A na ca, .slice B nb cb, .func (.func 154) #[] #[.pointer (some ⟨w1.heap.size + 1 + 1, 0, none⟩), .pointer (some ⟨w1.heap.size + 1 + 1 + 1, 0, none⟩)], .int .u32 (x.1.1 : Int), .int .u32 (x.1.2 : Int), undef, undef, undef, undef, undef, undef, undef, undef, undef, undef, undef, undef, undef, undef, undef], defers := [] }) ?assign ?body ?done ?stop
 case assign =>
  intro l x W K hK
  gi_wp2
  exact hK
 case body =>
  rintro l pre ⟨⟨x1, x2⟩, hx1, hx2⟩ W ⟨⟨zs, bo, h1, h2, h3, h4⟩, hb, hL⟩ hlt
  dsimp only at hx1 hx2 ⊢
  rw [M.R_eq] at hx1 hx2
  have cB := h2.cell
  have fB := h2.frozen
  have cO := h1.cell
  have fO := h1.frozen
  have hbo1 := h4.bo1
  have H1 := Lib.hid h1
  have H2 := Lib.hid h2
  have H3 := Lib.hid h3
  have H4 := Lib.hid h4
  have HB := Lib.hid hb
  clear h1 h2 h3 h4 hb
  gi_wp2_with (first
   | (refine ⟨trivial, ?_⟩; gi_at_call 158; refine (CallsIn.inRound l (callsIn_wide.2 (sub32_any x1 x2 bo _ hx1 hx2 hbo1))).mono ?_; rintro e w' ⟨z, bo', rfl, hz, hbo', hsum, rfl⟩; have HSUM := Lib.hid hsum; clear hsum; have HR3 := Lib.hid (sub_hr W ⟨w1.heap.size + 1, 0, none⟩ (.int .u32 (bo' : Int)) z hz); have HO2 := Lib.hid (sub_ho H3.out (p := ⟨w1.heap.size + 1, 0, none⟩) (by dsimp only; omega) (.int .u32 (bo' : Int)) (.cells #[.int .u32 (z : Int)] 44)))
   | (gi_at_builtin; refine appIn_fits _ rfl _ _ rfl w.heap.size w.heap.size pre.length na zs rfl HO2.out _ z rfl HR3.out (by omega) ?_; intro w3 ho3 hg3; have HO3 := Lib.hid ho3; have HG3 := Lib.hid hg3; clear ho3 hg3; have b3 := (((H1.out.kept (grownBy_setCell W ⟨w1.heap.size + 1, 0, none⟩ (.int .u32 (bo' : Int))) (by intro e; injection e with e; dsimp only at e; omega)).alloc (.cells #[.int .u32 (z : Int)] 44)).kept HG3.out (by intro e; injection e with e; omega)); have c3 := b3.cell; have f3 := b3.frozen; have B3 := Lib.hid b3; clear b3))
  exact sub_step (by omega) (by omega) (by simp) H1.out H2.out H4.out HB.out hL HO3.out HG3.out hz hbo' HSUM.out
 case done =>
  rintro D zs W hD hz ⟨⟨ds, bo, h1, h2, h3, h4⟩, hb, hL⟩ hK
  rw [hz] at h4
  have hend := sub_end H.out.Lim K.out.Lim (by rw [H.out.len]; omega) (by rw [K.out.len]; omega) h4
  have hlen : zs.length = na := by have := congrArg List.length hz; simpa [raw, prs] using this
  have cB := h2.cell
  have cO := h1.cell
  rw [hlen] at cO h3
  have H3 := Lib.hid h3
  have HB := Lib.hid hb
  have HK := Lib.hid hK
  clear h1 h2 h3 hb hz hlen hL
  rcases hend with ⟨hbo, hle, hval⟩ | ⟨hbo, hlt⟩
  ·subst hbo
   have HLE := Lib.hid hle
   have HVAL := Lib.hid hval
   have hds : M.Lim ds := h4.lim
   have hs := H3.out.short
   rw [M.tr_eq_lims hds, hval] at hs
   have hsl : (M.tr ds).length = (M.lims (M.val xs - M.val ys)).length := by rw [M.tr_eq_lims hds, hval]
   have HSL := Lib.hid hsl
   have HS := Lib.hid hs
   have HDS := Lib.hid hds
   clear hle hval hds h4 hs hsl
   gi_wp2_with (refine ⟨trivial, ?_⟩; gi_at_call 111; refine (callsIn_wide.2 (short_any _ _ _ ds _ H3.out.rd (by omega))).mono ?_; rw [HSL.out]; rintro e w' ⟨rfl, rfl⟩)
   refine ⟨by simp, .inl ⟨_, _, rfl, run_takeDeferred HK.out, ?_⟩⟩
   exact ⟨_, results_tmp2 rfl _ _ _, .inl ⟨HLE.out, _, _, rfl, ⟨ownsRow_putObj HS.out.row _ HK.out rfl, HS.out.lim⟩, HB.out.trans (belowK_b (w := w) (Nat.le_refl _) W D _ _ (by simp at hD; omega) HK.out rfl rfl)⟩⟩
  ·subst hbo
   have HLT := Lib.hid hlt
   clear hlt h4
   gi_wp2
   refine ⟨by simp, .inl ⟨_, _, rfl, run_takeDeferred HK.out, ?_⟩⟩
   exact ⟨_, results_tmp2 rfl _ _ _, .inr ⟨HLT.out, _, _, rfl, OwK.nil_ _ _, HB.out.trans (belowK_b (w := w) (Nat.le_refl _) W D _ _ (by simp at hD; omega) HK.out rfl rfl)⟩⟩
 case stop =>
  rintro D c pre W _ _ h _
  exact h.elim

theorem sub_any (A : Option Addr) (na ca : Nat) (xs : List Nat) (B : Option Addr) (nb cb : Nat) (ys : List Nat) (w : World) (h : Rd w A na ca xs) (k : Rd w B nb cb ys) (hna : na ≤ 1048576) (hnb : nb ≤ 1048576) :
  Calls Tryz.prog 144 #[.slice A na ca, .slice B nb cb] w (SubP w (M.val xs) (M.val ys)) := by
 rcases Nat.lt_trichotomy na nb with hc | hc | hc
 ·exact callsIn_wide.1 (sub_lt A na nb ca xs B cb ys w h k hna hnb (by omega))
 ·subst hc
  exact callsIn_wide.1 (sub_eq A na ca xs B cb ys w h k hna hnb)
 ·exact callsIn_wide.1 (sub_gt A na nb ca xs B cb ys w h k hna hnb (by omega))

end Go.Proofs.YtbhgbilhoonopaaGreat

/- The contracts of nat's functions once more, in numbers alone: what the laws' walks go by. -/
namespace Go.Proofs.YtbhgbilhoonopaaGreat
open Go.RowKit
set_option linter.unusedVariables false

/-- A slice of at most k limbs whose number is v. -/
structure Nm (w : World) (A : Option Addr) (n c v k : Nat) : Prop where
 row : ∃ xs, Rd w A n c xs ∧ M.val xs = v
 le : n ≤ k
/-- .. that is trimmed. -/
structure Tm (w : World) (A : Option Addr) (n c v k : Nat) : Prop where
 rd : Rd w A n c (M.lims v)
 le : n ≤ k

section
variable {w w' : World} {A B : Option Addr} {n c m d v x y k j : Nat}
theorem Nm.below (h : Nm w A n c v k) (hb : Below w.heap.size w w') : Nm w' A n c v k := by
 obtain ⟨xs, h1, h2⟩ := h.row
 exact ⟨⟨xs, h1.below hb, h2⟩, h.le⟩
theorem Tm.below (h : Tm w A n c v k) (hb : Below w.heap.size w w') : Tm w' A n c v k := ⟨h.rd.below hb, h.le⟩
theorem Tm.nm (h : Tm w A n c v k) : Nm w A n c v k := ⟨⟨_, h.rd, M.val_lims v⟩, h.le⟩
theorem Nm.lt (h : Nm w A n c v k) : v < M.R ^ k := by
 obtain ⟨xs, h1, rfl⟩ := h.row
 exact M.val_lt_pow h1.Lim (by rw [h1.len]; exact h.le)
theorem Nm.alloc (h : Nm w A n c v k) (o : Obj) : Nm (w.alloc o) A n c v k := h.below (bl_alloc w o)
theorem Tm.alloc (h : Tm w A n c v k) (o : Obj) : Tm (w.alloc o) A n c v k := h.below (bl_alloc w o)

/-- A call answers a new trimmed row of this number. -/
def GivN (w : World) (v k : Nat) (e : Ending) (w' : World) : Prop := ∃ A n c, e = .returned (.slice A n c) ∧ Tm w' A n c v k ∧ Below w.heap.size w w'

theorem givN (h : v < M.R ^ k) {e : Ending} (hg : Gives w (M.lims v) e w') : GivN w v k e w' := by
 obtain ⟨A, c, rfl, ho, hb⟩ := hg
 exact ⟨A, _, c, rfl, ⟨ho.rd, M.lims_length_le.2 h⟩, hb⟩

theorem add_lt_pow {x y a b : Nat} (hx : x < M.R ^ a) (hy : y < M.R ^ b) : x + y < M.R ^ (max a b + 1) := by
 have h1 : M.R ^ a ≤ M.R ^ max a b := Nat.pow_le_pow_right M.R_pos (by omega)
 have h2 : M.R ^ b ≤ M.R ^ max a b := Nat.pow_le_pow_right M.R_pos (by omega)
 rw [Nat.pow_succ]
 have h3 : M.R ^ max a b * 2 ≤ M.R ^ max a b * M.R := Nat.mul_le_mul_left _ (by decide)
 omega
theorem mul_lt_pow {x y a b : Nat} (hx : x < M.R ^ a) (hy : y < M.R ^ b) : x * y < M.R ^ (a + b) := by
 rw [Nat.pow_add]
 exact Nat.mul_lt_mul'' hx hy

theorem cmpN (h : Nm w A n c x k) (g : Nm w B m d y j) (hk : k ≤ 1000) (hj : j ≤ 1000) : Calls Tryz.prog 104 #[.slice A n c, .slice B m d] w fun e w' => e = .returned (.int .i64 (cmpV x y)) ∧ Below w.heap.size w w' := by
 have hl := h.le
 have gl := g.le
 obtain ⟨xs, hx, rfl⟩ := h.row
 obtain ⟨ys, hy, rfl⟩ := g.row
 exact cmp_any _ _ _ _ _ _ _ _ _ hx hy (by omega) (by omega)

def GivB (w : World) (v k : Nat) (b : Bool) (e : Ending) (w' : World) : Prop := ∃ A n c, e = .returned (.tuple #[.slice A n c, .bool b]) ∧ Tm w' A n c v k ∧ Below w.heap.size w w'
theorem textN (h : Nm w A n c x k) (hk : k ≤ 1000) : Calls Tryz.prog 85 #[.slice A n c] w (GivesT w (M.txt x)) := by
 have hl := h.le
 obtain ⟨xs, hx, rfl⟩ := h.row
 exact text_any _ _ _ _ _ hx (by omega)

theorem nilN (w : World) : Nm w none 0 0 0 0 := ⟨⟨[], RdK.empty _ _ _ (fun _ => rfl), rfl⟩, Nat.le_refl _⟩
end

end Go.Proofs.YtbhgbilhoonopaaGreat

/- Texts of numbers, in numbers alone. -/
namespace Go.Proofs.YtbhgbilhoonopaaGreat
open Go.RowKit
set_option linter.unusedVariables false

theorem pow10 (k : Nat) : M.R ^ k ≤ 10 ^ (10 * k) := by
 rw [Nat.pow_mul]
 exact Nat.pow_le_pow_left (by decide) _

theorem txt_len {v k : Nat} (h : v < M.R ^ k) : (M.txt v).length ≤ 10 * k + 1 := by
 unfold M.txt
 split
 ·simp
 ·rw [List.length_reverse]
  have := M.lows_len_le (Nat.lt_of_lt_of_le h (pow10 k))
  omega

theorem txt_size {s : ByteArray} {v k : Nat} (h : M.bytes s = M.txt v) (hv : v < M.R ^ k) : s.size ≤ 10 * k + 1 := by
 rw [← M.bytes_len, h]
 exact txt_len hv

end Go.Proofs.YtbhgbilhoonopaaGreat
