/-
  Plain mathematics of rows of limbs (base 2^32, the lowest first); nothing of the program stands here.
-/
import Derived.Below
import Derived.Lib.IndexBytes
namespace Go.Proofs.YtgglmmipdfcbpaaDoor
namespace M
set_option linter.unusedVariables false

/-- The base of limbs. -/
def R : Nat := 4294967296
theorem R_pos : 0 < R := by decide
theorem R_eq : R = 4294967296 := rfl

/-- A row's number. -/
def val : List Nat → Nat
  | [] => 0
  | x :: xs => x + R * val xs

/-- All limbs are limbs. -/
def Lim (xs : List Nat) : Prop := ∀ x ∈ xs, x < R

/-- A row without noughts at its high end. -/
def tr : List Nat → List Nat
  | [] => []
  | x :: xs => if x = 0 ∧ tr xs = [] then [] else x :: tr xs

theorem val_nil : val [] = 0 := rfl
theorem val_cons (x : Nat) (xs : List Nat) : val (x :: xs) = x + R * val xs := rfl

theorem val_append (xs ys : List Nat) : val (xs ++ ys) = val xs + R ^ xs.length * val ys := by
  induction xs with
  | nil => simp [val]
  | cons x xs ih =>
    simp only [List.cons_append, val, ih, List.length_cons, Nat.pow_succ, Nat.mul_add]
    have : R * (R ^ xs.length * val ys) = R ^ xs.length * R * val ys := by rw [← Nat.mul_assoc, Nat.mul_comm R]
    omega

theorem val_lt {xs : List Nat} (h : Lim xs) : val xs < R ^ xs.length := by
  induction xs with
  | nil => simp [val]
  | cons x xs ih =>
    have h1 := ih (fun y hy => h y (by simp [hy]))
    have h2 : x < R := h x (by simp)
    simp only [val, List.length_cons, Nat.pow_succ]
    have h3 : val xs + 1 ≤ R ^ xs.length := h1
    have h4 : R * (val xs + 1) ≤ R * R ^ xs.length := Nat.mul_le_mul_left _ h3
    rw [Nat.mul_comm (R ^ xs.length)]
    rw [Nat.mul_add] at h4
    omega

theorem Lim.nil : Lim [] := by intro x hx; cases hx
theorem Lim.cons {x : Nat} {xs : List Nat} (hx : x < R) (h : Lim xs) : Lim (x :: xs) := by
  intro y hy
  rcases List.mem_cons.1 hy with rfl | hy
  · exact hx
  · exact h y hy
theorem Lim.append {xs ys : List Nat} (h : Lim xs) (k : Lim ys) : Lim (xs ++ ys) := by
  intro y hy
  rcases List.mem_append.1 hy with hy | hy
  · exact h y hy
  · exact k y hy
theorem Lim.take {xs : List Nat} (h : Lim xs) (n : Nat) : Lim (xs.take n) := fun x hx => h x (List.mem_of_mem_take hx)
theorem Lim.drop {xs : List Nat} (h : Lim xs) (n : Nat) : Lim (xs.drop n) := fun x hx => h x (List.mem_of_mem_drop hx)
theorem Lim.tail {x : Nat} {xs : List Nat} (h : Lim (x :: xs)) : Lim xs := fun y hy => h y (by simp [hy])
theorem Lim.head {x : Nat} {xs : List Nat} (h : Lim (x :: xs)) : x < R := h x (by simp)
theorem Lim.get {xs : List Nat} (h : Lim xs) {i x : Nat} (hx : xs[i]? = some x) : x < R := h x (List.mem_of_getElem? hx)
theorem Lim.of_append_left {xs ys : List Nat} (h : Lim (xs ++ ys)) : Lim xs := fun x hx => h x (by simp [hx])
theorem Lim.of_append_right {xs ys : List Nat} (h : Lim (xs ++ ys)) : Lim ys := fun x hx => h x (by simp [hx])

/-! ### tr -/
theorem tr_lim {xs : List Nat} (h : Lim xs) : Lim (tr xs) := by
  induction xs with
  | nil => exact h
  | cons x xs ih =>
    simp only [tr]
    split
    · exact Lim.nil
    · exact Lim.cons h.head (ih h.tail)

theorem val_tr (xs : List Nat) : val (tr xs) = val xs := by
  induction xs with
  | nil => rfl
  | cons x xs ih =>
    simp only [tr]
    split
    · rename_i h
      obtain ⟨h0, h1⟩ := h
      rw [h1] at ih
      simp only [val] at ih ⊢
      rw [← ih, h0, Nat.mul_zero]
    · simp only [val, ih]

theorem tr_prefix (xs : List Nat) : tr xs = xs.take (tr xs).length := by
  induction xs with
  | nil => rfl
  | cons x xs ih =>
    simp only [tr]
    split
    · rfl
    · simp only [List.length_cons, List.take_succ_cons]
      rw [← ih]

theorem tr_length_le (xs : List Nat) : (tr xs).length ≤ xs.length := by
  have h := congrArg List.length (tr_prefix xs)
  rw [List.length_take] at h
  omega

theorem tr_snoc_zero (xs : List Nat) : tr (xs ++ [0]) = tr xs := by
  induction xs with
  | nil => simp [tr]
  | cons x xs ih => simp only [List.cons_append, tr, ih]

theorem tr_snoc_pos (xs : List Nat) {x : Nat} (h : x ≠ 0) : tr (xs ++ [x]) = xs ++ [x] := by
  induction xs with
  | nil => simp [tr, h]
  | cons y xs ih =>
    simp only [List.cons_append, tr, ih]
    rw [if_neg]
    intro hc
    have := hc.2
    simp at this

theorem tr_tr (xs : List Nat) : tr (tr xs) = tr xs := by
  induction xs with
  | nil => rfl
  | cons x xs ih =>
    by_cases h : x = 0 ∧ tr xs = []
    · simp only [tr, if_pos h]
    · have h1 : tr (x :: xs) = x :: tr xs := by simp only [tr, if_neg h]
      rw [h1]
      simp only [tr, ih]
      rw [if_neg h]

theorem tr_eq_nil_iff (xs : List Nat) : tr xs = [] ↔ val xs = 0 := by
  induction xs with
  | nil => simp [tr, val]
  | cons x xs ih =>
    simp only [tr, val]
    have hR := R_pos
    constructor
    · intro h
      by_cases hc : x = 0 ∧ tr xs = []
      · have := ih.1 hc.2
        rw [hc.1, this, Nat.mul_zero]
      · rw [if_neg hc] at h
        cases h
    · intro h
      have h1 : x = 0 := by omega
      have h2 : R * val xs = 0 := by omega
      have h3 : val xs = 0 := by
        rcases Nat.mul_eq_zero.1 h2 with h | h
        · omega
        · exact h
      rw [if_pos ⟨h1, ih.2 h3⟩]

/-- Trimmed rows of one number are one. -/
theorem tr_unique {xs ys : List Nat} (hx : Lim xs) (hy : Lim ys) (h : val xs = val ys) : tr xs = tr ys := by
  induction xs generalizing ys with
  | nil =>
    have h0 : val ys = 0 := by rw [← h]; rfl
    rw [(tr_eq_nil_iff ys).2 h0]
    rfl
  | cons x xs ih =>
    cases ys with
    | nil =>
      have h0 : val (x :: xs) = 0 := by rw [h]; rfl
      rw [(tr_eq_nil_iff _).2 h0]
      rfl
    | cons y ys =>
      simp only [val] at h
      have hx0 := hx.head
      have hy0 := hy.head
      have e1 : (x + R * val xs) % R = x := by rw [Nat.add_mul_mod_self_left, Nat.mod_eq_of_lt hx0]
      have e2 : (y + R * val ys) % R = y := by rw [Nat.add_mul_mod_self_left, Nat.mod_eq_of_lt hy0]
      have e3 : x = y := by rw [← e1, h, e2]
      subst e3
      have e4 : R * val xs = R * val ys := by omega
      have e5 : val xs = val ys := Nat.eq_of_mul_eq_mul_left R_pos e4
      simp only [tr, ih hx.tail hy.tail e5]

/-- A row that is trimmed. -/
def Tr (xs : List Nat) : Prop := tr xs = xs
theorem Tr.of_tr (xs : List Nat) : Tr (tr xs) := tr_tr xs
theorem Tr.unique {xs ys : List Nat} (hx : Lim xs) (hy : Lim ys) (tx : Tr xs) (ty : Tr ys) (h : val xs = val ys) : xs = ys := by
  rw [← tx, ← ty]
  exact tr_unique hx hy h
theorem Tr.nil : Tr [] := rfl

theorem tr_take_succ {xs : List Nat} {k x : Nat} (h : xs[k]? = some x) : xs.take (k + 1) = xs.take k ++ [x] := by
  rw [List.take_add_one, h]
  rfl

/-! ### The row of a number -/
/-- The trimmed row of a number. -/
def lims (n : Nat) : List Nat := if _h : n = 0 then [] else (n % R) :: lims (n / R)
termination_by n
decreasing_by exact Nat.div_lt_self (by omega) (by decide)

theorem lims_zero : lims 0 = [] := by rw [lims]; rfl
theorem lims_pos {n : Nat} (h : n ≠ 0) : lims n = (n % R) :: lims (n / R) := by rw [lims, dif_neg h]

theorem lims_ind (p : Nat → Prop) (h0 : p 0) (h1 : ∀ n, n ≠ 0 → p (n / R) → p n) (n : Nat) : p n := by
  induction n using Nat.strongRecOn with
  | ind n ih =>
    by_cases h : n = 0
    · subst h; exact h0
    · exact h1 n h (ih _ (Nat.div_lt_self (by omega) (by decide)))

theorem val_lims (n : Nat) : val (lims n) = n := by
  refine lims_ind (fun n => val (lims n) = n) (by rw [lims_zero]; rfl) (fun n h ih => ?_) n
  rw [lims_pos h, val_cons, ih]
  have := Nat.div_add_mod n R
  omega

theorem lim_lims (n : Nat) : Lim (lims n) := by
  refine lims_ind (fun n => Lim (lims n)) (by rw [lims_zero]; exact Lim.nil) (fun n h ih => ?_) n
  rw [lims_pos h]
  exact Lim.cons (Nat.mod_lt _ R_pos) ih

theorem tr_lims (n : Nat) : Tr (lims n) := by
  refine lims_ind (fun n => Tr (lims n)) (by rw [lims_zero]; exact Tr.nil) (fun n h ih => ?_) n
  rw [lims_pos h]
  unfold Tr at ih ⊢
  simp only [tr, ih]
  rw [if_neg]
  intro hc
  apply h
  have h1 : val (lims (n / R)) = 0 := by rw [hc.2]; rfl
  rw [val_lims] at h1
  have := Nat.div_add_mod n R
  rw [h1, hc.1] at this
  omega

theorem tr_eq_lims {xs : List Nat} (h : Lim xs) : tr xs = lims (val xs) := by
  rw [← tr_lims (val xs)]
  exact tr_unique h (lim_lims _) (val_lims _).symm

theorem lims_val {xs : List Nat} (h : Lim xs) (t : Tr xs) : lims (val xs) = xs := by rw [← tr_eq_lims h]; exact t

theorem lims_inj {n m : Nat} : lims n = lims m ↔ n = m := by
  constructor
  · intro h
    rw [← val_lims n, h, val_lims]
  · intro h
    rw [h]

theorem lims_eq_nil {n : Nat} : lims n = [] ↔ n = 0 := by rw [← lims_zero, lims_inj]

theorem lims_length_le {n k : Nat} : (lims n).length ≤ k ↔ n < R ^ k := by
  induction k generalizing n with
  | zero =>
    simp only [Nat.pow_zero, Nat.le_zero, List.length_eq_zero_iff, lims_eq_nil]
    omega
  | succ k ih =>
    by_cases h : n = 0
    · subst h
      rw [lims_zero]
      simp [Nat.pow_pos R_pos]
    · rw [lims_pos h, List.length_cons, Nat.add_le_add_iff_right, ih, Nat.pow_succ, Nat.div_lt_iff_lt_mul R_pos]

theorem val_lt_pow {xs : List Nat} {k : Nat} (h : Lim xs) (hk : xs.length ≤ k) : val xs < R ^ k :=
  Nat.lt_of_lt_of_le (val_lt h) (Nat.pow_le_pow_right R_pos hk)

theorem lims_val_length_le {xs : List Nat} (h : Lim xs) : (lims (val xs)).length ≤ xs.length := lims_length_le.2 (val_lt h)

/-- A limb of a row that goes on with noughts. -/
def limbAt (xs : List Nat) (i : Nat) : Nat := xs[i]?.getD 0
theorem limbAt_some {xs : List Nat} {i x : Nat} (h : xs[i]? = some x) : limbAt xs i = x := by unfold limbAt; rw [h]; rfl
theorem limbAt_none {xs : List Nat} {i : Nat} (h : xs.length ≤ i) : limbAt xs i = 0 := by unfold limbAt; rw [List.getElem?_eq_none h]; rfl
theorem limbAt_lt {xs : List Nat} (h : Lim xs) (i : Nat) : limbAt xs i < R := by
  unfold limbAt
  cases hx : xs[i]? with
  | none => exact R_pos
  | some x => exact h.get hx

theorem limbAt_tr (xs : List Nat) (i : Nat) : limbAt (tr xs) i = limbAt xs i := by
  induction xs generalizing i with
  | nil => rfl
  | cons x xs ih =>
    simp only [tr]
    split
    · rename_i h
      cases i with
      | zero => simp [limbAt, h.1]
      | succ i =>
        have := ih i
        rw [h.2] at this
        simp only [limbAt, List.getElem?_cons_succ] at this ⊢
        rw [← this]
        simp
    · cases i with
      | zero => rfl
      | succ i =>
        have := ih i
        simp only [limbAt, List.getElem?_cons_succ] at this ⊢
        exact this

theorem val_two {xs : List Nat} (h : (tr xs).length ≤ 2) : val xs = limbAt xs 0 + R * limbAt xs 1 := by
  rw [← val_tr xs, ← limbAt_tr xs 0, ← limbAt_tr xs 1]
  match hx : tr xs, h with
  | [], _ => rfl
  | [x], _ => simp [val, limbAt]
  | [x, y], _ => simp [val, limbAt]
  | x :: y :: z :: r, h => simp at h

theorem val_take_succ (xs : List Nat) (i : Nat) : val (xs.take (i + 1)) = val (xs.take i) + R ^ i * limbAt xs i := by
  by_cases h : i < xs.length
  · have hx : xs[i]? = some xs[i] := List.getElem?_eq_getElem h
    rw [tr_take_succ hx, val_append, limbAt_some hx, List.length_take, Nat.min_eq_left (Nat.le_of_lt h)]
    simp [val]
  · have h' : xs.length ≤ i := by omega
    rw [limbAt_none h', List.take_of_length_le h', List.take_of_length_le (by omega)]
    simp

/-! ### Sums by columns -/
/-- The limbs of rows at one place, together. -/
def col (rs : List (List Nat)) (i : Nat) : Nat := (rs.map fun r => limbAt r i).sum
/-- The numbers of rows' first limbs, together. -/
def tot (rs : List (List Nat)) (i : Nat) : Nat := (rs.map fun r => val (r.take i)).sum
/-- The numbers of rows, together. -/
def vals (rs : List (List Nat)) : Nat := (rs.map val).sum

theorem tot_zero (rs : List (List Nat)) : tot rs 0 = 0 := by
  induction rs with
  | nil => rfl
  | cons r rs ih => simp only [tot, List.map_cons, List.sum_cons, List.take_zero, val_nil] at ih ⊢; omega

theorem tot_succ (rs : List (List Nat)) (i : Nat) : tot rs (i + 1) = tot rs i + R ^ i * col rs i := by
  induction rs with
  | nil => simp [tot, col]
  | cons r rs ih =>
    simp only [tot, col, List.map_cons, List.sum_cons] at ih ⊢
    rw [val_take_succ, ih, Nat.mul_add]
    omega

theorem tot_all {rs : List (List Nat)} {m : Nat} (h : ∀ r ∈ rs, r.length ≤ m) : tot rs m = vals rs := by
  induction rs with
  | nil => rfl
  | cons r rs ih =>
    have h1 := ih fun r hr => h r (by simp [hr])
    simp only [tot, vals, List.map_cons, List.sum_cons] at h1 ⊢
    rw [h1, List.take_of_length_le (h r (by simp))]

theorem col_take_succ {rs : List (List Nat)} {j : Nat} {r : List Nat} (h : rs[j]? = some r) (i : Nat) : col (rs.take (j + 1)) i = col (rs.take j) i + limbAt r i := by
  rw [tr_take_succ' h]
  simp [col]
where tr_take_succ' {α : Type} {xs : List α} {k : Nat} {x : α} (h : xs[k]? = some x) : xs.take (k + 1) = xs.take k ++ [x] := by
        rw [List.take_add_one, h]
        rfl

theorem col_le {rs : List (List Nat)} (h : ∀ r ∈ rs, Lim r) (i : Nat) : col rs i + rs.length ≤ rs.length * R := by
  induction rs with
  | nil => simp [col]
  | cons r rs ih =>
    have h1 := ih fun r hr => h r (by simp [hr])
    have h2 := limbAt_lt (h r (by simp)) i
    simp only [col, List.map_cons, List.sum_cons, List.length_cons, Nat.add_mul, Nat.one_mul] at h1 ⊢
    omega

/-- One column more. -/
theorem sum_step {rs : List (List Nat)} {ds : List Nat} {i c : Nat} (hl : ds.length = i) (h : val ds + R ^ i * c = tot rs i) :
    val (ds ++ [(c + col rs i) % R]) + R ^ (i + 1) * ((c + col rs i) / R) = tot rs (i + 1) := by
  rw [val_append, hl, tot_succ, ← h, val_cons, val_nil, Nat.mul_zero, Nat.add_zero, Nat.pow_succ]
  have e := Nat.div_add_mod (c + col rs i) R
  have e2 : R ^ i * ((c + col rs i) % R) + R ^ i * R * ((c + col rs i) / R) = R ^ i * (c + col rs i) := by
    rw [Nat.mul_assoc, ← Nat.mul_add]
    congr 1
    omega
  have e3 : R ^ i * (c + col rs i) = R ^ i * c + R ^ i * col rs i := Nat.mul_add _ _ _
  omega

/-- The carry stays below the count of rows. -/
theorem sum_carry {rs : List (List Nat)} (h : ∀ r ∈ rs, Lim r) {i c : Nat} (hc : c < rs.length) : (c + col rs i) / R < rs.length := by
  have h1 := col_le h i
  rw [Nat.div_lt_iff_lt_mul R_pos]
  omega

/-! ### Division by one limb -/
/-- One limb more of a division, from the high end down. -/
theorem div_step {zs : List Nat} {b left x V : Nat} (hb : 0 < b) (h : V = val zs * b + left) :
    x + R * V = val ((R * left + x) / b :: zs) * b + (R * left + x) % b := by
  rw [val_cons, h, Nat.add_mul]
  have e := Nat.div_add_mod (R * left + x) b
  have e2 : (R * left + x) / b * b = b * ((R * left + x) / b) := Nat.mul_comm _ _
  have e3 : R * (val zs * b + left) = R * val zs * b + R * left := by rw [Nat.mul_add, Nat.mul_assoc]
  omega

theorem div_limb_lt {b left x : Nat} (hl : left < b) (hx : x < R) : (R * left + x) / b < R := by
  rw [Nat.div_lt_iff_lt_mul (by omega)]
  have h1 : R * (left + 1) ≤ R * b := Nat.mul_le_mul_left _ hl
  rw [Nat.mul_add] at h1
  omega

theorem div_done {zs : List Nat} {b left V : Nat} (hl : left < b) (h : V = val zs * b + left) : val zs = V / b ∧ left = V % b := by
  rw [h]
  constructor
  · rw [Nat.mul_comm, Nat.mul_add_div (by omega), Nat.div_eq_of_lt hl, Nat.add_zero]
  · rw [Nat.mul_comm, Nat.mul_add_mod, Nat.mod_eq_of_lt hl]

theorem drop_pred {α : Type} {xs : List α} {k : Nat} {x : α} (h : xs[k]? = some x) : xs.drop k = x :: xs.drop (k + 1) := by
  obtain ⟨hk, rfl⟩ := List.getElem?_eq_some_iff.1 h
  exact List.drop_eq_getElem_cons hk

/-! ### Rows times a limb -/
/-- One limb more: what comes to a place, and what is carried. -/
theorem mac_step {zs : List Nat} {k c y S : Nat} (hl : zs.length = k) (h : val zs + R ^ k * c = S) :
    val (zs ++ [(c + y) % R]) + R ^ (k + 1) * ((c + y) / R) = S + R ^ k * y := by
  rw [val_append, hl, ← h, val_cons, val_nil, Nat.mul_zero, Nat.add_zero, Nat.pow_succ]
  have e := Nat.div_add_mod (c + y) R
  have e2 : R ^ k * ((c + y) % R) + R ^ k * R * ((c + y) / R) = R ^ k * (c + y) := by
    rw [Nat.mul_assoc, ← Nat.mul_add]
    congr 1
    omega
  have e3 : R ^ k * (c + y) = R ^ k * c + R ^ k * y := Nat.mul_add _ _ _
  omega

theorem limb_mul_le {x t : Nat} (hx : x < R) (ht : t < R) : x * t ≤ 18446744065119617025 := by
  rw [R_eq] at hx ht
  have : x * t ≤ 4294967295 * 4294967295 := Nat.mul_le_mul (by omega) (by omega)
  omega

theorem val_take_some {xs : List Nat} {k x : Nat} (h : xs[k]? = some x) : val (xs.take (k + 1)) = val (xs.take k) + R ^ k * x := by
  rw [val_take_succ, limbAt_some h]

/-- One limb more of 'us plus t times xs'. -/
theorem addTimes_step {us xs zs : List Nat} {k c t u x : Nat} (hu : us[k]? = some u) (hx : xs[k]? = some x) (hl : zs.length = k)
    (h : val zs + R ^ k * c = val (us.take k) + t * val (xs.take k)) :
    val (zs ++ [(c + (x * t + u)) % R]) + R ^ (k + 1) * ((c + (x * t + u)) / R) = val (us.take (k + 1)) + t * val (xs.take (k + 1)) := by
  rw [mac_step hl h, val_take_some hu, val_take_some hx, Nat.mul_add, Nat.mul_add]
  have : t * (R ^ k * x) = R ^ k * (x * t) := by rw [Nat.mul_comm x t, ← Nat.mul_assoc, Nat.mul_comm t, Nat.mul_assoc]
  omega

/-- One limb more of 'p plus t times xs'. -/
theorem scale_step {xs zs : List Nat} {k c t p x : Nat} (hx : xs[k]? = some x) (hl : zs.length = k) (h : val zs + R ^ k * c = p + t * val (xs.take k)) :
    val (zs ++ [(c + x * t) % R]) + R ^ (k + 1) * ((c + x * t) / R) = p + t * val (xs.take (k + 1)) := by
  rw [mac_step hl h, val_take_some hx, Nat.mul_add]
  have : t * (R ^ k * x) = R ^ k * (x * t) := by rw [Nat.mul_comm x t, ← Nat.mul_assoc, Nat.mul_comm t, Nat.mul_assoc]
  omega

theorem lim_replicate (n : Nat) : Lim (List.replicate n 0) := by
  intro x hx
  rw [List.eq_of_mem_replicate hx]
  exact R_pos

theorem val_replicate (n : Nat) : val (List.replicate n 0) = 0 := by
  induction n with
  | zero => rfl
  | succ n ih => rw [List.replicate_succ, val_cons, ih, Nat.mul_zero]

/-- One limb more of a long product: what is in the row before, what addTimes leaves, and the carry, are what is in it behind. -/
theorem mul_step {ds zs xs ys : List Nat} {k n cy t : Nat} (hd : ds.length = k + n) (hz : zs.length = n) (ht : ys[k]? = some t) (hv : val ds = val xs * val (ys.take k))
    (hs : val zs + R ^ n * cy = val (ds.drop k) + t * val xs) : val (ds.take k ++ zs ++ [cy]) = val xs * val (ys.take (k + 1)) := by
  have h1 : val ds = val (ds.take k) + R ^ k * val (ds.drop k) := by
    have := val_append (ds.take k) (ds.drop k)
    rw [List.take_append_drop, List.length_take, Nat.min_eq_left (by omega)] at this
    exact this
  rw [val_append, val_append, List.length_append, List.length_take, Nat.min_eq_left (by omega), hz, val_cons, val_nil, Nat.mul_zero, Nat.add_zero, val_take_some ht, Nat.mul_add, ← hv, h1, Nat.pow_add]
  have e1 : R ^ k * R ^ n * cy = R ^ k * (R ^ n * cy) := Nat.mul_assoc _ _ _
  have e2 : R ^ k * (val zs + R ^ n * cy) = R ^ k * (val (ds.drop k) + t * val xs) := by rw [hs]
  rw [Nat.mul_add, Nat.mul_add] at e2
  have e3 : val xs * (R ^ k * t) = R ^ k * (t * val xs) := by rw [Nat.mul_comm t, ← Nat.mul_assoc, Nat.mul_comm (val xs), Nat.mul_assoc]
  omega

end M
end Go.Proofs.YtgglmmipdfcbpaaDoor

/-
  Plain mathematics of long division (Knuth's algorithm D) over rows of limbs.
-/
namespace Go.Proofs.YtgglmmipdfcbpaaDoor
namespace M
set_option linter.unusedVariables false

theorem val_one (z : Nat) : val [z] = z := by simp [val]

/-- What a guess is told by: the quotient of the three highest limbs by the two highest, at most 2^32 - 1. -/
def Guess (t3 b2 g : Nat) : Prop := g < R ∧ g * b2 ≤ t3 ∧ (g + 1 = R ∨ t3 < (g + 1) * b2)

/-- A guess is at most one too great, never too small. -/
theorem guess_near {P b2 vl t3 ul g : Nat} (hP : 0 < P) (hvl : vl < P) (hul : ul < P) (hb : R ≤ b2) (hg : Guess t3 b2 g) (hU : t3 * P + ul < (b2 * P + vl) * R) :
    g * (b2 * P + vl) < t3 * P + ul + (b2 * P + vl) ∧ t3 * P + ul < (g + 1) * (b2 * P + vl) := by
  obtain ⟨h1, h2, h3⟩ := hg
  constructor
  · have e1 : g * (b2 * P + vl) = g * b2 * P + g * vl := by rw [Nat.mul_add, Nat.mul_assoc]
    have e2 : g * b2 * P ≤ t3 * P := Nat.mul_le_mul_right _ h2
    have e3 : g * vl ≤ R * P := Nat.mul_le_mul (Nat.le_of_lt h1) (Nat.le_of_lt hvl)
    have e4 : R * P ≤ b2 * P := Nat.mul_le_mul_right _ hb
    have e5 : g * vl < b2 * P := by
      rcases Nat.eq_zero_or_pos g with h0 | h0
      · rw [h0, Nat.zero_mul]
        exact Nat.mul_pos (Nat.lt_of_lt_of_le R_pos hb) hP
      · have : g * vl < g * P := Nat.mul_lt_mul_of_pos_left hvl h0
        have h6 : g * P ≤ R * P := Nat.mul_le_mul_right _ (Nat.le_of_lt h1)
        omega
    omega
  · rcases h3 with h3 | h3
    · rw [h3, Nat.mul_comm R]
      exact hU
    · have e1 : (g + 1) * (b2 * P + vl) = (g + 1) * b2 * P + (g + 1) * vl := by rw [Nat.mul_add, Nat.mul_assoc]
      have e2 : (t3 + 1) * P ≤ (g + 1) * b2 * P := Nat.mul_le_mul_right _ h3
      rw [Nat.add_mul, Nat.one_mul] at e2
      omega

/-- The quotient is the guess, or one less. -/
theorem guess_div {U V g : Nat} (hV : 0 < V) (h1 : g * V < U + V) (h2 : U < (g + 1) * V) : (g * V ≤ U ∧ U / V = g ∧ U % V = U - g * V) ∨ (U < g * V ∧ 1 ≤ g ∧ U / V = g - 1 ∧ U % V = U + V - g * V) := by
  have hadd : (g + 1) * V = g * V + V := by rw [Nat.add_mul, Nat.one_mul]
  by_cases h : g * V ≤ U
  · left
    have hd : U / V = g := by
      rw [Nat.div_eq_iff hV]
      constructor
      · exact h
      · omega
    refine ⟨h, hd, ?_⟩
    have := Nat.div_add_mod U V
    rw [hd, Nat.mul_comm] at this
    omega
  · right
    have hg : 1 ≤ g := by
      rcases Nat.eq_zero_or_pos g with h0 | h0
      · rw [h0, Nat.zero_mul] at h
        omega
      · exact h0
    have hgs : (g - 1) * V = g * V - V := by rw [Nat.sub_mul, Nat.one_mul]
    have hge : V ≤ g * V := Nat.le_mul_of_pos_left V hg
    have hd : U / V = g - 1 := by
      rw [Nat.div_eq_iff hV]
      constructor
      · omega
      · omega
    refine ⟨by omega, hg, hd, ?_⟩
    have := Nat.div_add_mod U V
    rw [hd, Nat.mul_comm] at this
    omega

/-- The loop that betters a guess keeps this: the guess times the highest limb, and what is left, are the two highest limbs; it is not below what it shall be. -/
structure Better (t3 b0 b1 r0 g left : Nat) : Prop where
  sum : (g * b1 + left) * R + r0 = t3
  ge : ∀ k, k < R → k * (b1 * R + b0) ≤ t3 → k ≤ g

theorem Better.test {t3 b0 b1 r0 g left : Nat} (h : Better t3 b0 b1 r0 g left) : left * R + r0 < g * b0 ↔ t3 < g * (b1 * R + b0) := by
  have := h.sum
  rw [Nat.add_mul] at this
  have e : g * (b1 * R + b0) = g * b1 * R + g * b0 := by rw [Nat.mul_add, Nat.mul_assoc]
  omega

theorem Better.start {b0 b1 r0 top : Nat} (hb : 0 < b1) (hr : r0 < R) : Better (top * R + r0) b0 b1 r0 (top / b1) (top % b1) := by
  constructor
  · rw [Nat.mul_comm (top / b1), Nat.div_add_mod]
  · intro k _ hk
    rw [Nat.le_div_iff_mul_le hb]
    have e : k * (b1 * R + b0) = k * b1 * R + k * b0 := by rw [Nat.mul_add, Nat.mul_assoc]
    refine Nat.le_of_not_lt fun hc => ?_
    have : (top + 1) * R ≤ k * b1 * R := Nat.mul_le_mul_right _ hc
    rw [Nat.add_mul, Nat.one_mul] at this
    omega

theorem Better.step {t3 b0 b1 r0 g left : Nat} (h : Better t3 b0 b1 r0 g left) (hg : 1 ≤ g) (hc : R ≤ g ∨ t3 < g * (b1 * R + b0)) : Better t3 b0 b1 r0 (g - 1) (left + b1) := by
  constructor
  · have e : (g - 1) * b1 + (left + b1) = g * b1 + left := by
      obtain ⟨k, rfl⟩ : ∃ k, g = k + 1 := ⟨g - 1, by omega⟩
      rw [Nat.add_sub_cancel, Nat.add_mul, Nat.one_mul]
      omega
    rw [e]
    exact h.sum
  · intro k hk hkt
    have h1 := h.ge k hk hkt
    rcases hc with hc | hc
    · omega
    · have h2 : k ≠ g := by
        intro e
        rw [e] at hkt
        omega
      omega

/-- Where it ends. -/
theorem Better.done {t3 b0 b1 r0 g left : Nat} (h : Better t3 b0 b1 r0 g left) (hb0 : b0 < R) (hr : r0 < R) (hb1 : 0 < b1) (htop : t3 < (b1 * R + R) * R) (hc : R ≤ left ∨ (g < R ∧ ¬ t3 < g * (b1 * R + b0))) : Guess t3 (b1 * R + b0) g := by
  have key : g < R ∧ g * (b1 * R + b0) ≤ t3 := by
    rcases hc with hc | ⟨h1, h2⟩
    · have hs := h.sum
      have h3 : g * b1 + left < b1 * R + R := by
        refine Nat.lt_of_not_le fun hcc => ?_
        have : (b1 * R + R) * R ≤ (g * b1 + left) * R := Nat.mul_le_mul_right _ hcc
        omega
      have h4 : g * b1 < R * b1 := by rw [Nat.mul_comm R]; omega
      have h5 : g < R := Nat.lt_of_mul_lt_mul_right h4
      refine ⟨h5, ?_⟩
      have h6 : ¬ left * R + r0 < g * b0 := by
        have h7 : g * b0 ≤ R * R := Nat.mul_le_mul (Nat.le_of_lt h5) (Nat.le_of_lt hb0)
        have h8 : R * R ≤ left * R := Nat.mul_le_mul_right _ hc
        omega
      rw [h.test] at h6
      omega
    · exact ⟨h1, by omega⟩
  refine ⟨key.1, key.2, ?_⟩
  by_cases hR : g + 1 = R
  · exact .inl hR
  · right
    refine Nat.lt_of_not_le fun hcc => ?_
    have := h.ge (g + 1) (by have := key.1; omega) hcc
    omega

/-- The first guess is at most 2^32 + 1. -/
theorem guess_start {b1 r2 r1 : Nat} (hb : 2147483648 ≤ b1) (hr2 : r2 ≤ b1) (hr1 : r1 < R) : (r2 * R + r1) / b1 ≤ 4294967297 := by
  have hb0 : 0 < b1 := by omega
  refine Nat.le_of_lt_succ ?_
  rw [Nat.div_lt_iff_lt_mul hb0]
  have h1 : r2 * R ≤ b1 * R := Nat.mul_le_mul_right _ hr2
  rw [R_eq] at h1 hr1 ⊢
  have h2 : (4294967297 + 1) * b1 = b1 * 4294967296 + 2 * b1 := by omega
  rw [Nat.succ_eq_add_one, h2]
  omega

/-- One limb more of 'us less t times vs'. -/
theorem take_step {us vs zs : List Nat} {k bo cy t u v z bo' : Nat} (hu : us[k]? = some u) (hv : vs[k]? = some v) (hl : zs.length = k)
    (h : val (us.take k) + R ^ k * (bo + cy) = val zs + t * val (vs.take k)) (hz : u + R * bo' = z + (cy + v * t) % R + bo) :
    val (us.take (k + 1)) + R ^ (k + 1) * (bo' + (cy + v * t) / R) = val (zs ++ [z]) + t * val (vs.take (k + 1)) := by
  rw [val_take_some hu, val_take_some hv, val_append, hl, val_one, Nat.pow_succ]
  have e1 := Nat.div_add_mod (cy + v * t) R
  have e2 : R ^ k * (u + R * bo' + R * ((cy + v * t) / R)) = R ^ k * (z + bo + (cy + v * t)) := by congr 1; omega
  have e3 : R ^ k * R * (bo' + (cy + v * t) / R) = R ^ k * (R * bo') + R ^ k * (R * ((cy + v * t) / R)) := by rw [Nat.mul_assoc, Nat.mul_add, Nat.mul_add]
  have e4 : R ^ k * (u + R * bo' + R * ((cy + v * t) / R)) = R ^ k * u + R ^ k * (R * bo') + R ^ k * (R * ((cy + v * t) / R)) := by rw [Nat.mul_add, Nat.mul_add]
  have e5 : R ^ k * (z + bo + (cy + v * t)) = R ^ k * z + R ^ k * (bo + cy) + R ^ k * (v * t) := by rw [← Nat.mul_add, ← Nat.mul_add]; congr 1; omega
  have e6 : t * (val (vs.take k) + R ^ k * v) = t * val (vs.take k) + R ^ k * (v * t) := by
    rw [Nat.mul_add]
    congr 1
    rw [Nat.mul_comm v t, ← Nat.mul_assoc, Nat.mul_comm t, Nat.mul_assoc]
  omega

/-- The last limb of 'us less t times vs'. -/
theorem take_last {us zs : List Nat} {n bo cy u z bo' T : Nat} (hu : us[n]? = some u) (hul : us.length = n + 1) (hl : zs.length = n)
    (h : val (us.take n) + R ^ n * (bo + cy) = val zs + T) (hz : u + R * bo' = z + cy + bo) : val us + R ^ (n + 1) * bo' = val (zs ++ [z]) + T := by
  have e0 : val us = val (us.take n) + R ^ n * u := by
    have := val_take_some hu
    rw [List.take_of_length_le (by omega)] at this
    exact this
  rw [e0, val_append, hl, val_one, Nat.pow_succ]
  have e1 : R ^ n * (u + R * bo') = R ^ n * (z + cy + bo) := by rw [hz]
  have e2 : R ^ n * (u + R * bo') = R ^ n * u + R ^ n * R * bo' := by rw [Nat.mul_add, Nat.mul_assoc]
  have e3 : R ^ n * (z + cy + bo) = R ^ n * z + R ^ n * (bo + cy) := by rw [← Nat.mul_add]; congr 1; omega
  omega

/-- A row's two and three highest limbs. -/
theorem val_top2 {vs : List Nat} {n b0 b1 : Nat} (hl : vs.length = n + 2) (h0 : vs[n]? = some b0) (h1 : vs[n + 1]? = some b1) : val vs = (b1 * R + b0) * R ^ n + val (vs.take n) := by
  have e1 := val_take_some h1
  have e0 := val_take_some h0
  rw [List.take_of_length_le (by omega)] at e1
  rw [e1, e0, Nat.pow_succ, Nat.add_mul]
  have e2 : b1 * R * R ^ n = R ^ n * R * b1 := by rw [Nat.mul_comm b1, Nat.mul_comm (R * b1), Nat.mul_assoc]
  have e3 : b0 * R ^ n = R ^ n * b0 := Nat.mul_comm _ _
  omega
theorem val_top3 {us : List Nat} {n r0 r1 r2 : Nat} (hl : us.length = n + 3) (h0 : us[n]? = some r0) (h1 : us[n + 1]? = some r1) (h2 : us[n + 2]? = some r2) :
    val us = ((r2 * R + r1) * R + r0) * R ^ n + val (us.take n) := by
  have e2 := val_take_some h2
  rw [List.take_of_length_le (by omega)] at e2
  have e1 := val_top2 (vs := us.take (n + 2)) (n := n) (b0 := r0) (b1 := r1) (by rw [List.length_take]; omega) (by rw [List.getElem?_take, if_pos (by omega), h0]) (by rw [List.getElem?_take, if_pos (by omega), h1])
  rw [List.take_take, Nat.min_eq_left (by omega)] at e1
  rw [e2, e1]
  have e5 : (r2 * R + r1) * R + r0 = r2 * R * R + (r1 * R + r0) := by rw [Nat.add_mul, Nat.add_assoc]
  have e4 : r2 * R * R * R ^ n = R ^ (n + 2) * r2 := by simp only [Nat.pow_succ, Nat.mul_assoc, Nat.mul_comm, Nat.mul_left_comm]
  rw [e5, Nat.add_mul (r2 * R * R), e4]
  omega

end M
end Go.Proofs.YtgglmmipdfcbpaaDoor

/-
  Plain mathematics of digits: bytes of texts, numbers of digits.
-/
namespace Go.Proofs.YtgglmmipdfcbpaaDoor
namespace M
set_option linter.unusedVariables false

/-- A text's bytes. -/
def bytes (s : ByteArray) : List Nat := s.data.toList.map UInt8.toNat
theorem bytes_len (s : ByteArray) : (bytes s).length = s.size := by unfold bytes; rw [List.length_map, Lib.size_eq]
theorem bytes_get (s : ByteArray) (k : Nat) (h : k < s.size) : (bytes s)[k]? = some (s[k].toNat) := by
  unfold bytes
  rw [List.getElem?_map]
  have h' : k < s.data.toList.length := by rw [← Lib.size_eq]; exact h
  rw [List.getElem?_eq_getElem h']
  rfl
theorem bytes_inj {s t : ByteArray} (h : bytes s = bytes t) : s = t := by
  unfold bytes at h
  have h2 := (List.map_inj_right (fun a b hab => UInt8.toNat_inj.1 hab)).1 h
  obtain ⟨⟨a⟩⟩ := s
  obtain ⟨⟨b⟩⟩ := t
  simp at h2
  rw [h2]
theorem bytes_extract (s : ByteArray) (a b : Nat) : bytes (s.extract a b) = ((bytes s).drop a).take (b - a) := by
  unfold bytes
  rw [Lib.extract_data, List.map_take, List.map_drop]
theorem bytes_tail (s : ByteArray) (a : Nat) : bytes (s.extract a s.size) = (bytes s).drop a := by
  unfold bytes
  rw [Lib.extract_to_end, List.map_drop]

/-- These bytes are digits' bytes. -/
def Dig (l : List Nat) : Prop := ∀ x ∈ l, 48 ≤ x ∧ x ≤ 57
/-- These bytes are the digits of a number. -/
def Digits (l : List Nat) : Prop := l ≠ [] ∧ (l[0]? = some 48 → l.length = 1) ∧ Dig l
instance (l : List Nat) : Decidable (Dig l) := by unfold Dig; infer_instance
instance (l : List Nat) : Decidable (Digits l) := by unfold Digits; infer_instance

/-- Digits, read on from a number. -/
def dec (v : Nat) (l : List Nat) : Nat := l.foldl (fun a x => a * 10 + (x - 48)) v
theorem dec_nil (v : Nat) : dec v [] = v := rfl
theorem dec_cons (v x : Nat) (l : List Nat) : dec v (x :: l) = dec (v * 10 + (x - 48)) l := by unfold dec; rw [List.foldl_cons]
theorem dec_append (v : Nat) (l m : List Nat) : dec v (l ++ m) = dec (dec v l) m := by unfold dec; rw [List.foldl_append]

theorem dec_shift (v : Nat) (l : List Nat) : dec v l = v * 10 ^ l.length + dec 0 l := by
  induction l generalizing v with
  | nil => rw [dec_nil, dec_nil, List.length_nil, Nat.pow_zero, Nat.mul_one, Nat.add_zero]
  | cons x l ih =>
    rw [dec_cons, dec_cons, List.length_cons, ih, ih (0 * 10 + (x - 48)), Nat.pow_succ, Nat.add_mul, Nat.zero_mul, Nat.zero_add]
    have : v * 10 * 10 ^ l.length = v * (10 ^ l.length * 10) := by rw [Nat.mul_assoc, Nat.mul_comm 10]
    omega

theorem dec_lt {l : List Nat} (h : Dig l) : dec 0 l < 10 ^ l.length := by
  induction l with
  | nil => rw [dec_nil]; exact Nat.one_pos
  | cons x l ih =>
    have hx := h x (by simp)
    have h1 := ih fun y hy => h y (by simp [hy])
    rw [dec_cons, List.length_cons, dec_shift, Nat.pow_succ]
    have h2 : (0 * 10 + (x - 48)) * 10 ^ l.length ≤ 9 * 10 ^ l.length := Nat.mul_le_mul_right _ (by omega)
    omega

theorem dec_snoc (v : Nat) (l : List Nat) (x : Nat) : dec v (l ++ [x]) = dec v l * 10 + (x - 48) := by rw [dec_append, dec_cons, dec_nil]

/-- Rows that are trimmed, behind a scale. -/
theorem lims_of_len {ds : List Nat} (hl : Lim ds) (h : ds = [] ∨ R ^ (ds.length - 1) ≤ val ds) : lims (val ds) = ds := by
  rw [← tr_eq_lims hl]
  rcases h with rfl | h
  · rfl
  · have h1 : (tr ds).length = ds.length := by
      rcases Nat.lt_or_ge (tr ds).length ds.length with hlt | hge
      · have h2 : (lims (val ds)).length ≤ ds.length - 1 := by rw [← tr_eq_lims hl]; omega
        rw [lims_length_le] at h2
        omega
      · have := tr_length_le ds
        omega
    rw [tr_prefix, h1, List.take_length]

theorem lims_snoc {ds : List Nat} {c : Nat} (hl : Lim ds) (hc : c < R) (h : c ≠ 0) : lims (val ds + R ^ ds.length * c) = ds ++ [c] := by
  have e : val ds + R ^ ds.length * c = val (ds ++ [c]) := by rw [val_append]; simp [val]
  rw [e, ← tr_eq_lims (hl.append (Lim.cons hc Lim.nil)), tr_snoc_pos _ h]

theorem pow_le_lims {v : Nat} (h : lims v ≠ []) : R ^ ((lims v).length - 1) ≤ v := by
  refine Nat.le_of_not_lt fun hc => ?_
  have h1 := lims_length_le.2 hc
  have h2 : 0 < (lims v).length := List.length_pos_iff.2 h
  omega

/-! ### The digits of a number -/
/-- Its digits' bytes, the lowest first; of 0 none. -/
def lows (n : Nat) : List Nat := if _h : n = 0 then [] else (48 + n % 10) :: lows (n / 10)
termination_by n
decreasing_by omega

theorem lows_zero : lows 0 = [] := by rw [lows]; rfl
theorem lows_pos {n : Nat} (h : n ≠ 0) : lows n = (48 + n % 10) :: lows (n / 10) := by rw [lows, dif_neg h]

/-- Its text's bytes. -/
def txt (n : Nat) : List Nat := if n = 0 then [48] else (lows n).reverse

theorem lows_ind (p : Nat → Prop) (h0 : p 0) (h1 : ∀ n, n ≠ 0 → p (n / 10) → p n) (n : Nat) : p n := by
  induction n using Nat.strongRecOn with
  | ind n ih =>
    by_cases h : n = 0
    · subst h; exact h0
    · exact h1 n h (ih _ (by omega))

theorem lows_dig (n : Nat) : Dig (lows n) := by
  refine lows_ind (fun n => Dig (lows n)) (by rw [lows_zero]; intro x hx; cases hx) (fun n h ih => ?_) n
  rw [lows_pos h]
  intro x hx
  rcases List.mem_cons.1 hx with rfl | hx
  · omega
  · exact ih x hx

theorem dec_lows (n : Nat) : dec 0 (lows n).reverse = n := by
  refine lows_ind (fun n => dec 0 (lows n).reverse = n) (by rw [lows_zero]; rfl) (fun n h ih => ?_) n
  rw [lows_pos h, List.reverse_cons, dec_snoc, ih]
  omega

theorem txt_dig (n : Nat) : Dig (txt n) := by
  unfold txt
  split
  · intro x hx; simp at hx; omega
  · intro x hx; exact lows_dig n x (List.mem_reverse.1 hx)

theorem dec_txt (n : Nat) : dec 0 (txt n) = n := by
  unfold txt
  split
  · rename_i h; rw [h, dec_cons, dec_nil]
  · exact dec_lows n

theorem lows_last {n : Nat} (h : n ≠ 0) : ∃ x l, (lows n).reverse = x :: l ∧ 49 ≤ x := by
  revert h
  refine lows_ind (fun n => n ≠ 0 → ∃ x l, (lows n).reverse = x :: l ∧ 49 ≤ x) (fun h => absurd rfl h) (fun n h ih _ => ?_) n
  rw [lows_pos h, List.reverse_cons]
  by_cases h2 : n / 10 = 0
  · rw [h2, lows_zero]
    exact ⟨48 + n % 10, [], rfl, by omega⟩
  · obtain ⟨x, l, e, hx⟩ := ih h2
    rw [e]
    exact ⟨x, l ++ [48 + n % 10], rfl, hx⟩

theorem txt_digits (n : Nat) : Digits (txt n) := by
  refine ⟨?_, ?_, txt_dig n⟩
  · unfold txt
    split
    · simp
    · rename_i h
      obtain ⟨x, l, e, _⟩ := lows_last h
      rw [e]
      simp
  · unfold txt
    split
    · intro _; rfl
    · rename_i h
      obtain ⟨x, l, e, hx⟩ := lows_last h
      rw [e]
      intro h2
      simp at h2
      omega

theorem txt_inj {n m : Nat} (h : txt n = txt m) : n = m := by rw [← dec_txt n, h, dec_txt]

theorem lows_take (n k : Nat) (h : n / 10 ^ k ≠ 0) : (lows n).take (k + 1) = (lows n).take k ++ [48 + n / 10 ^ k % 10] := by
  induction k generalizing n with
  | zero =>
    simp at h
    rw [lows_pos h]
    simp
  | succ k ih =>
    have hn : n ≠ 0 := by
      intro e
      rw [e] at h
      simp at h
    have e : n / 10 ^ (k + 1) = n / 10 / 10 ^ k := by rw [Nat.pow_succ, Nat.mul_comm, Nat.div_div_eq_div_mul]
    rw [e] at h ⊢
    rw [lows_pos hn, List.take_succ_cons, List.take_succ_cons, ih _ h]
    rfl

theorem lows_take_all (n k : Nat) (h : n / 10 ^ k = 0) : (lows n).take k = lows n := by
  induction k generalizing n with
  | zero =>
    simp at h
    rw [h, lows_zero]
    rfl
  | succ k ih =>
    by_cases hn : n = 0
    · rw [hn, lows_zero]; rfl
    · have e : n / 10 ^ (k + 1) = n / 10 / 10 ^ k := by rw [Nat.pow_succ, Nat.mul_comm, Nat.div_div_eq_div_mul]
      rw [e] at h
      rw [lows_pos hn, List.take_succ_cons, ih _ h]

theorem lows_len_le {n k : Nat} (h : n < 10 ^ k) : (lows n).length ≤ k := by
  have := lows_take_all n k (Nat.div_eq_of_lt h)
  have h2 := congrArg List.length this
  rw [List.length_take] at h2
  omega

theorem lows_lt {n k : Nat} (h : n / 10 ^ k ≠ 0) : k < (lows n).length := by
  have h2 := congrArg List.length (lows_take n k h)
  rw [List.length_append, List.length_take, List.length_take] at h2
  simp at h2
  omega

theorem lows_val_len {xs : List Nat} (h : Lim xs) : (lows (val xs)).length ≤ 10 * xs.length := by
  refine lows_len_le (Nat.lt_of_lt_of_le (val_lt h) ?_)
  rw [Nat.pow_mul]
  exact Nat.pow_le_pow_left (by decide) _

end M
end Go.Proofs.YtgglmmipdfcbpaaDoor
