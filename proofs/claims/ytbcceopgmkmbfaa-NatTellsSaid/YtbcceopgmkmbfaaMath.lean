/-
  Plain mathematics of rows of limbs (base 2^32, the lowest first); nothing of the program stands here.
-/
import Derived.Below
namespace Go.Proofs.Ytbcceopgmkmbfaa
namespace M
set_option linter.unusedVariables false

/-- The base of limbs. -/
def R : Nat := 4294967296
theorem R_pos : 0 < R := by decide
theorem R_eq : R = 4294967296 := rfl

/-- A row's number. -/
def val : List Nat → Nat
  | [] => 0
  | x :: xs => x + R * val xs

/-- All limbs are limbs. -/
def Lim (xs : List Nat) : Prop := ∀ x ∈ xs, x < R

/-- A row without noughts at its high end. -/
def tr : List Nat → List Nat
  | [] => []
  | x :: xs => if x = 0 ∧ tr xs = [] then [] else x :: tr xs

theorem val_nil : val [] = 0 := rfl
theorem val_cons (x : Nat) (xs : List Nat) : val (x :: xs) = x + R * val xs := rfl

theorem val_append (xs ys : List Nat) : val (xs ++ ys) = val xs + R ^ xs.length * val ys := by
  induction xs with
  | nil => simp [val]
  | cons x xs ih =>
    simp only [List.cons_append, val, ih, List.length_cons, Nat.pow_succ, Nat.mul_add]
    have : R * (R ^ xs.length * val ys) = R ^ xs.length * R * val ys := by rw [← Nat.mul_assoc, Nat.mul_comm R]
    omega

theorem val_lt {xs : List Nat} (h : Lim xs) : val xs < R ^ xs.length := by
  induction xs with
  | nil => simp [val]
  | cons x xs ih =>
    have h1 := ih (fun y hy => h y (by simp [hy]))
    have h2 : x < R := h x (by simp)
    simp only [val, List.length_cons, Nat.pow_succ]
    have h3 : val xs + 1 ≤ R ^ xs.length := h1
    have h4 : R * (val xs + 1) ≤ R * R ^ xs.length := Nat.mul_le_mul_left _ h3
    rw [Nat.mul_comm (R ^ xs.length)]
    rw [Nat.mul_add] at h4
    omega

theorem Lim.nil : Lim [] := by intro x hx; cases hx
theorem Lim.cons {x : Nat} {xs : List Nat} (hx : x < R) (h : Lim xs) : Lim (x :: xs) := by
  intro y hy
  rcases List.mem_cons.1 hy with rfl | hy
  · exact hx
  · exact h y hy
theorem Lim.append {xs ys : List Nat} (h : Lim xs) (k : Lim ys) : Lim (xs ++ ys) := by
  intro y hy
  rcases List.mem_append.1 hy with hy | hy
  · exact h y hy
  · exact k y hy
theorem Lim.take {xs : List Nat} (h : Lim xs) (n : Nat) : Lim (xs.take n) := fun x hx => h x (List.mem_of_mem_take hx)
theorem Lim.drop {xs : List Nat} (h : Lim xs) (n : Nat) : Lim (xs.drop n) := fun x hx => h x (List.mem_of_mem_drop hx)
theorem Lim.tail {x : Nat} {xs : List Nat} (h : Lim (x :: xs)) : Lim xs := fun y hy => h y (by simp [hy])
theorem Lim.head {x : Nat} {xs : List Nat} (h : Lim (x :: xs)) : x < R := h x (by simp)
theorem Lim.get {xs : List Nat} (h : Lim xs) {i x : Nat} (hx : xs[i]? = some x) : x < R := h x (List.mem_of_getElem? hx)
theorem Lim.of_append_left {xs ys : List Nat} (h : Lim (xs ++ ys)) : Lim xs := fun x hx => h x (by simp [hx])
theorem Lim.of_append_right {xs ys : List Nat} (h : Lim (xs ++ ys)) : Lim ys := fun x hx => h x (by simp [hx])

/-! ### tr -/
theorem tr_lim {xs : List Nat} (h : Lim xs) : Lim (tr xs) := by
  induction xs with
  | nil => exact h
  | cons x xs ih =>
    simp only [tr]
    split
    · exact Lim.nil
    · exact Lim.cons h.head (ih h.tail)

theorem val_tr (xs : List Nat) : val (tr xs) = val xs := by
  induction xs with
  | nil => rfl
  | cons x xs ih =>
    simp only [tr]
    split
    · rename_i h
      obtain ⟨h0, h1⟩ := h
      rw [h1] at ih
      simp only [val] at ih ⊢
      rw [← ih, h0, Nat.mul_zero]
    · simp only [val, ih]

theorem tr_prefix (xs : List Nat) : tr xs = xs.take (tr xs).length := by
  induction xs with
  | nil => rfl
  | cons x xs ih =>
    simp only [tr]
    split
    · rfl
    · simp only [List.length_cons, List.take_succ_cons]
      rw [← ih]

theorem tr_length_le (xs : List Nat) : (tr xs).length ≤ xs.length := by
  have h := congrArg List.length (tr_prefix xs)
  rw [List.length_take] at h
  omega

theorem tr_snoc_zero (xs : List Nat) : tr (xs ++ [0]) = tr xs := by
  induction xs with
  | nil => simp [tr]
  | cons x xs ih => simp only [List.cons_append, tr, ih]

theorem tr_snoc_pos (xs : List Nat) {x : Nat} (h : x ≠ 0) : tr (xs ++ [x]) = xs ++ [x] := by
  induction xs with
  | nil => simp [tr, h]
  | cons y xs ih =>
    simp only [List.cons_append, tr, ih]
    rw [if_neg]
    intro hc
    have := hc.2
    simp at this

theorem tr_tr (xs : List Nat) : tr (tr xs) = tr xs := by
  induction xs with
  | nil => rfl
  | cons x xs ih =>
    by_cases h : x = 0 ∧ tr xs = []
    · simp only [tr, if_pos h]
    · have h1 : tr (x :: xs) = x :: tr xs := by simp only [tr, if_neg h]
      rw [h1]
      simp only [tr, ih]
      rw [if_neg h]

theorem tr_eq_nil_iff (xs : List Nat) : tr xs = [] ↔ val xs = 0 := by
  induction xs with
  | nil => simp [tr, val]
  | cons x xs ih =>
    simp only [tr, val]
    have hR := R_pos
    constructor
    · intro h
      by_cases hc : x = 0 ∧ tr xs = []
      · have := ih.1 hc.2
        rw [hc.1, this, Nat.mul_zero]
      · rw [if_neg hc] at h
        cases h
    · intro h
      have h1 : x = 0 := by omega
      have h2 : R * val xs = 0 := by omega
      have h3 : val xs = 0 := by
        rcases Nat.mul_eq_zero.1 h2 with h | h
        · omega
        · exact h
      rw [if_pos ⟨h1, ih.2 h3⟩]

/-- Trimmed rows of one number are one. -/
theorem tr_unique {xs ys : List Nat} (hx : Lim xs) (hy : Lim ys) (h : val xs = val ys) : tr xs = tr ys := by
  induction xs generalizing ys with
  | nil =>
    have h0 : val ys = 0 := by rw [← h]; rfl
    rw [(tr_eq_nil_iff ys).2 h0]
    rfl
  | cons x xs ih =>
    cases ys with
    | nil =>
      have h0 : val (x :: xs) = 0 := by rw [h]; rfl
      rw [(tr_eq_nil_iff _).2 h0]
      rfl
    | cons y ys =>
      simp only [val] at h
      have hx0 := hx.head
      have hy0 := hy.head
      have e1 : (x + R * val xs) % R = x := by rw [Nat.add_mul_mod_self_left, Nat.mod_eq_of_lt hx0]
      have e2 : (y + R * val ys) % R = y := by rw [Nat.add_mul_mod_self_left, Nat.mod_eq_of_lt hy0]
      have e3 : x = y := by rw [← e1, h, e2]
      subst e3
      have e4 : R * val xs = R * val ys := by omega
      have e5 : val xs = val ys := Nat.eq_of_mul_eq_mul_left R_pos e4
      simp only [tr, ih hx.tail hy.tail e5]

/-- A row that is trimmed. -/
def Tr (xs : List Nat) : Prop := tr xs = xs
theorem Tr.of_tr (xs : List Nat) : Tr (tr xs) := tr_tr xs
theorem Tr.unique {xs ys : List Nat} (hx : Lim xs) (hy : Lim ys) (tx : Tr xs) (ty : Tr ys) (h : val xs = val ys) : xs = ys := by
  rw [← tx, ← ty]
  exact tr_unique hx hy h
theorem Tr.nil : Tr [] := rfl

theorem tr_take_succ {xs : List Nat} {k x : Nat} (h : xs[k]? = some x) : xs.take (k + 1) = xs.take k ++ [x] := by
  rw [List.take_add_one, h]
  rfl

/-! ### The row of a number -/
/-- The trimmed row of a number. -/
def lims (n : Nat) : List Nat := if _h : n = 0 then [] else (n % R) :: lims (n / R)
termination_by n
decreasing_by exact Nat.div_lt_self (by omega) (by decide)

theorem lims_zero : lims 0 = [] := by rw [lims]; rfl
theorem lims_pos {n : Nat} (h : n ≠ 0) : lims n = (n % R) :: lims (n / R) := by rw [lims, dif_neg h]

theorem lims_ind (p : Nat → Prop) (h0 : p 0) (h1 : ∀ n, n ≠ 0 → p (n / R) → p n) (n : Nat) : p n := by
  induction n using Nat.strongRecOn with
  | ind n ih =>
    by_cases h : n = 0
    · subst h; exact h0
    · exact h1 n h (ih _ (Nat.div_lt_self (by omega) (by decide)))

theorem val_lims (n : Nat) : val (lims n) = n := by
  refine lims_ind (fun n => val (lims n) = n) (by rw [lims_zero]; rfl) (fun n h ih => ?_) n
  rw [lims_pos h, val_cons, ih]
  have := Nat.div_add_mod n R
  omega

theorem lim_lims (n : Nat) : Lim (lims n) := by
  refine lims_ind (fun n => Lim (lims n)) (by rw [lims_zero]; exact Lim.nil) (fun n h ih => ?_) n
  rw [lims_pos h]
  exact Lim.cons (Nat.mod_lt _ R_pos) ih

theorem tr_lims (n : Nat) : Tr (lims n) := by
  refine lims_ind (fun n => Tr (lims n)) (by rw [lims_zero]; exact Tr.nil) (fun n h ih => ?_) n
  rw [lims_pos h]
  unfold Tr at ih ⊢
  simp only [tr, ih]
  rw [if_neg]
  intro hc
  apply h
  have h1 : val (lims (n / R)) = 0 := by rw [hc.2]; rfl
  rw [val_lims] at h1
  have := Nat.div_add_mod n R
  rw [h1, hc.1] at this
  omega

theorem tr_eq_lims {xs : List Nat} (h : Lim xs) : tr xs = lims (val xs) := by
  rw [← tr_lims (val xs)]
  exact tr_unique h (lim_lims _) (val_lims _).symm

theorem lims_val {xs : List Nat} (h : Lim xs) (t : Tr xs) : lims (val xs) = xs := by rw [← tr_eq_lims h]; exact t

theorem lims_inj {n m : Nat} : lims n = lims m ↔ n = m := by
  constructor
  · intro h
    rw [← val_lims n, h, val_lims]
  · intro h
    rw [h]

theorem lims_eq_nil {n : Nat} : lims n = [] ↔ n = 0 := by rw [← lims_zero, lims_inj]

theorem lims_length_le {n k : Nat} : (lims n).length ≤ k ↔ n < R ^ k := by
  induction k generalizing n with
  | zero =>
    simp only [Nat.pow_zero, Nat.le_zero, List.length_eq_zero_iff, lims_eq_nil]
    omega
  | succ k ih =>
    by_cases h : n = 0
    · subst h
      rw [lims_zero]
      simp [Nat.pow_pos R_pos]
    · rw [lims_pos h, List.length_cons, Nat.add_le_add_iff_right, ih, Nat.pow_succ, Nat.div_lt_iff_lt_mul R_pos]

theorem val_lt_pow {xs : List Nat} {k : Nat} (h : Lim xs) (hk : xs.length ≤ k) : val xs < R ^ k :=
  Nat.lt_of_lt_of_le (val_lt h) (Nat.pow_le_pow_right R_pos hk)

theorem lims_val_length_le {xs : List Nat} (h : Lim xs) : (lims (val xs)).length ≤ xs.length := lims_length_le.2 (val_lt h)

/-- A limb of a row that goes on with noughts. -/
def limbAt (xs : List Nat) (i : Nat) : Nat := xs[i]?.getD 0
theorem limbAt_some {xs : List Nat} {i x : Nat} (h : xs[i]? = some x) : limbAt xs i = x := by unfold limbAt; rw [h]; rfl
theorem limbAt_none {xs : List Nat} {i : Nat} (h : xs.length ≤ i) : limbAt xs i = 0 := by unfold limbAt; rw [List.getElem?_eq_none h]; rfl
theorem limbAt_lt {xs : List Nat} (h : Lim xs) (i : Nat) : limbAt xs i < R := by
  unfold limbAt
  cases hx : xs[i]? with
  | none => exact R_pos
  | some x => exact h.get hx

theorem limbAt_tr (xs : List Nat) (i : Nat) : limbAt (tr xs) i = limbAt xs i := by
  induction xs generalizing i with
  | nil => rfl
  | cons x xs ih =>
    simp only [tr]
    split
    · rename_i h
      cases i with
      | zero => simp [limbAt, h.1]
      | succ i =>
        have := ih i
        rw [h.2] at this
        simp only [limbAt, List.getElem?_cons_succ] at this ⊢
        rw [← this]
        simp
    · cases i with
      | zero => rfl
      | succ i =>
        have := ih i
        simp only [limbAt, List.getElem?_cons_succ] at this ⊢
        exact this

theorem val_two {xs : List Nat} (h : (tr xs).length ≤ 2) : val xs = limbAt xs 0 + R * limbAt xs 1 := by
  rw [← val_tr xs, ← limbAt_tr xs 0, ← limbAt_tr xs 1]
  match hx : tr xs, h with
  | [], _ => rfl
  | [x], _ => simp [val, limbAt]
  | [x, y], _ => simp [val, limbAt]
  | x :: y :: z :: r, h => simp at h

theorem val_take_succ (xs : List Nat) (i : Nat) : val (xs.take (i + 1)) = val (xs.take i) + R ^ i * limbAt xs i := by
  by_cases h : i < xs.length
  · have hx : xs[i]? = some xs[i] := List.getElem?_eq_getElem h
    rw [tr_take_succ hx, val_append, limbAt_some hx, List.length_take, Nat.min_eq_left (Nat.le_of_lt h)]
    simp [val]
  · have h' : xs.length ≤ i := by omega
    rw [limbAt_none h', List.take_of_length_le h', List.take_of_length_le (by omega)]
    simp

/-! ### Sums by columns -/
/-- The limbs of rows at one place, together. -/
def col (rs : List (List Nat)) (i : Nat) : Nat := (rs.map fun r => limbAt r i).sum
/-- The numbers of rows' first limbs, together. -/
def tot (rs : List (List Nat)) (i : Nat) : Nat := (rs.map fun r => val (r.take i)).sum
/-- The numbers of rows, together. -/
def vals (rs : List (List Nat)) : Nat := (rs.map val).sum

theorem tot_zero (rs : List (List Nat)) : tot rs 0 = 0 := by
  induction rs with
  | nil => rfl
  | cons r rs ih => simp only [tot, List.map_cons, List.sum_cons, List.take_zero, val_nil] at ih ⊢; omega

theorem tot_succ (rs : List (List Nat)) (i : Nat) : tot rs (i + 1) = tot rs i + R ^ i * col rs i := by
  induction rs with
  | nil => simp [tot, col]
  | cons r rs ih =>
    simp only [tot, col, List.map_cons, List.sum_cons] at ih ⊢
    rw [val_take_succ, ih, Nat.mul_add]
    omega

theorem tot_all {rs : List (List Nat)} {m : Nat} (h : ∀ r ∈ rs, r.length ≤ m) : tot rs m = vals rs := by
  induction rs with
  | nil => rfl
  | cons r rs ih =>
    have h1 := ih fun r hr => h r (by simp [hr])
    simp only [tot, vals, List.map_cons, List.sum_cons] at h1 ⊢
    rw [h1, List.take_of_length_le (h r (by simp))]

theorem col_take_succ {rs : List (List Nat)} {j : Nat} {r : List Nat} (h : rs[j]? = some r) (i : Nat) : col (rs.take (j + 1)) i = col (rs.take j) i + limbAt r i := by
  rw [tr_take_succ' h]
  simp [col]
where tr_take_succ' {α : Type} {xs : List α} {k : Nat} {x : α} (h : xs[k]? = some x) : xs.take (k + 1) = xs.take k ++ [x] := by
        rw [List.take_add_one, h]
        rfl

theorem col_le {rs : List (List Nat)} (h : ∀ r ∈ rs, Lim r) (i : Nat) : col rs i + rs.length ≤ rs.length * R := by
  induction rs with
  | nil => simp [col]
  | cons r rs ih =>
    have h1 := ih fun r hr => h r (by simp [hr])
    have h2 := limbAt_lt (h r (by simp)) i
    simp only [col, List.map_cons, List.sum_cons, List.length_cons, Nat.add_mul, Nat.one_mul] at h1 ⊢
    omega

/-- One column more. -/
theorem sum_step {rs : List (List Nat)} {ds : List Nat} {i c : Nat} (hl : ds.length = i) (h : val ds + R ^ i * c = tot rs i) :
    val (ds ++ [(c + col rs i) % R]) + R ^ (i + 1) * ((c + col rs i) / R) = tot rs (i + 1) := by
  rw [val_append, hl, tot_succ, ← h, val_cons, val_nil, Nat.mul_zero, Nat.add_zero, Nat.pow_succ]
  have e := Nat.div_add_mod (c + col rs i) R
  have e2 : R ^ i * ((c + col rs i) % R) + R ^ i * R * ((c + col rs i) / R) = R ^ i * (c + col rs i) := by
    rw [Nat.mul_assoc, ← Nat.mul_add]
    congr 1
    omega
  have e3 : R ^ i * (c + col rs i) = R ^ i * c + R ^ i * col rs i := Nat.mul_add _ _ _
  omega

/-- The carry stays below the count of rows. -/
theorem sum_carry {rs : List (List Nat)} (h : ∀ r ∈ rs, Lim r) {i c : Nat} (hc : c < rs.length) : (c + col rs i) / R < rs.length := by
  have h1 := col_le h i
  rw [Nat.div_lt_iff_lt_mul R_pos]
  omega

/-! ### Division by one limb -/
/-- One limb more of a division, from the high end down. -/
theorem div_step {zs : List Nat} {b left x V : Nat} (hb : 0 < b) (h : V = val zs * b + left) :
    x + R * V = val ((R * left + x) / b :: zs) * b + (R * left + x) % b := by
  rw [val_cons, h, Nat.add_mul]
  have e := Nat.div_add_mod (R * left + x) b
  have e2 : (R * left + x) / b * b = b * ((R * left + x) / b) := Nat.mul_comm _ _
  have e3 : R * (val zs * b + left) = R * val zs * b + R * left := by rw [Nat.mul_add, Nat.mul_assoc]
  omega

theorem div_limb_lt {b left x : Nat} (hl : left < b) (hx : x < R) : (R * left + x) / b < R := by
  rw [Nat.div_lt_iff_lt_mul (by omega)]
  have h1 : R * (left + 1) ≤ R * b := Nat.mul_le_mul_left _ hl
  rw [Nat.mul_add] at h1
  omega

theorem div_done {zs : List Nat} {b left V : Nat} (hl : left < b) (h : V = val zs * b + left) : val zs = V / b ∧ left = V % b := by
  rw [h]
  constructor
  · rw [Nat.mul_comm, Nat.mul_add_div (by omega), Nat.div_eq_of_lt hl, Nat.add_zero]
  · rw [Nat.mul_comm, Nat.mul_add_mod, Nat.mod_eq_of_lt hl]

theorem drop_pred {α : Type} {xs : List α} {k : Nat} {x : α} (h : xs[k]? = some x) : xs.drop k = x :: xs.drop (k + 1) := by
  obtain ⟨hk, rfl⟩ := List.getElem?_eq_some_iff.1 h
  exact List.drop_eq_getElem_cons hk

/-! ### Rows times a limb -/
/-- One limb more: what comes to a place, and what is carried. -/
theorem mac_step {zs : List Nat} {k c y S : Nat} (hl : zs.length = k) (h : val zs + R ^ k * c = S) :
    val (zs ++ [(c + y) % R]) + R ^ (k + 1) * ((c + y) / R) = S + R ^ k * y := by
  rw [val_append, hl, ← h, val_cons, val_nil, Nat.mul_zero, Nat.add_zero, Nat.pow_succ]
  have e := Nat.div_add_mod (c + y) R
  have e2 : R ^ k * ((c + y) % R) + R ^ k * R * ((c + y) / R) = R ^ k * (c + y) := by
    rw [Nat.mul_assoc, ← Nat.mul_add]
    congr 1
    omega
  have e3 : R ^ k * (c + y) = R ^ k * c + R ^ k * y := Nat.mul_add _ _ _
  omega

theorem limb_mul_le {x t : Nat} (hx : x < R) (ht : t < R) : x * t ≤ 18446744065119617025 := by
  rw [R_eq] at hx ht
  have : x * t ≤ 4294967295 * 4294967295 := Nat.mul_le_mul (by omega) (by omega)
  omega

theorem val_take_some {xs : List Nat} {k x : Nat} (h : xs[k]? = some x) : val (xs.take (k + 1)) = val (xs.take k) + R ^ k * x := by
  rw [val_take_succ, limbAt_some h]

/-- One limb more of 'us plus t times xs'. -/
theorem addTimes_step {us xs zs : List Nat} {k c t u x : Nat} (hu : us[k]? = some u) (hx : xs[k]? = some x) (hl : zs.length = k)
    (h : val zs + R ^ k * c = val (us.take k) + t * val (xs.take k)) :
    val (zs ++ [(c + (x * t + u)) % R]) + R ^ (k + 1) * ((c + (x * t + u)) / R) = val (us.take (k + 1)) + t * val (xs.take (k + 1)) := by
  rw [mac_step hl h, val_take_some hu, val_take_some hx, Nat.mul_add, Nat.mul_add]
  have : t * (R ^ k * x) = R ^ k * (x * t) := by rw [Nat.mul_comm x t, ← Nat.mul_assoc, Nat.mul_comm t, Nat.mul_assoc]
  omega

/-- One limb more of 'p plus t times xs'. -/
theorem scale_step {xs zs : List Nat} {k c t p x : Nat} (hx : xs[k]? = some x) (hl : zs.length = k) (h : val zs + R ^ k * c = p + t * val (xs.take k)) :
    val (zs ++ [(c + x * t) % R]) + R ^ (k + 1) * ((c + x * t) / R) = p + t * val (xs.take (k + 1)) := by
  rw [mac_step hl h, val_take_some hx, Nat.mul_add]
  have : t * (R ^ k * x) = R ^ k * (x * t) := by rw [Nat.mul_comm x t, ← Nat.mul_assoc, Nat.mul_comm t, Nat.mul_assoc]
  omega

theorem lim_replicate (n : Nat) : Lim (List.replicate n 0) := by
  intro x hx
  rw [List.eq_of_mem_replicate hx]
  exact R_pos

theorem val_replicate (n : Nat) : val (List.replicate n 0) = 0 := by
  induction n with
  | zero => rfl
  | succ n ih => rw [List.replicate_succ, val_cons, ih, Nat.mul_zero]

/-- One limb more of a long product: what is in the row before, what addTimes leaves, and the carry, are what is in it behind. -/
theorem mul_step {ds zs xs ys : List Nat} {k n cy t : Nat} (hd : ds.length = k + n) (hz : zs.length = n) (ht : ys[k]? = some t) (hv : val ds = val xs * val (ys.take k))
    (hs : val zs + R ^ n * cy = val (ds.drop k) + t * val xs) : val (ds.take k ++ zs ++ [cy]) = val xs * val (ys.take (k + 1)) := by
  have h1 : val ds = val (ds.take k) + R ^ k * val (ds.drop k) := by
    have := val_append (ds.take k) (ds.drop k)
    rw [List.take_append_drop, List.length_take, Nat.min_eq_left (by omega)] at this
    exact this
  rw [val_append, val_append, List.length_append, List.length_take, Nat.min_eq_left (by omega), hz, val_cons, val_nil, Nat.mul_zero, Nat.add_zero, val_take_some ht, Nat.mul_add, ← hv, h1, Nat.pow_add]
  have e1 : R ^ k * R ^ n * cy = R ^ k * (R ^ n * cy) := Nat.mul_assoc _ _ _
  have e2 : R ^ k * (val zs + R ^ n * cy) = R ^ k * (val (ds.drop k) + t * val xs) := by rw [hs]
  rw [Nat.mul_add, Nat.mul_add] at e2
  have e3 : val xs * (R ^ k * t) = R ^ k * (t * val xs) := by rw [Nat.mul_comm t, ← Nat.mul_assoc, Nat.mul_comm (val xs), Nat.mul_assoc]
  omega

end M
end Go.Proofs.Ytbcceopgmkmbfaa
