/-
  Plain mathematics of digits: bytes of texts, numbers of digits.
-/
import Derived.Test.YtbcceopgmkmbfaaMath
import Derived.Lib.IndexBytes
namespace Go.Proofs.Ytbcceopgmkmbfaa
namespace M

/-- A text's bytes. -/
def bytes (s : ByteArray) : List Nat := s.data.toList.map UInt8.toNat
theorem bytes_len (s : ByteArray) : (bytes s).length = s.size := by unfold bytes; rw [List.length_map, Lib.size_eq]
theorem bytes_get (s : ByteArray) (k : Nat) (h : k < s.size) : (bytes s)[k]? = some (s[k].toNat) := by
  unfold bytes
  rw [List.getElem?_map]
  have h' : k < s.data.toList.length := by rw [← Lib.size_eq]; exact h
  rw [List.getElem?_eq_getElem h']
  rfl
theorem bytes_inj {s t : ByteArray} (h : bytes s = bytes t) : s = t := by
  unfold bytes at h
  have h2 := (List.map_inj_right (fun a b hab => UInt8.toNat_inj.1 hab)).1 h
  obtain ⟨⟨a⟩⟩ := s
  obtain ⟨⟨b⟩⟩ := t
  simp at h2
  rw [h2]
theorem bytes_extract (s : ByteArray) (a b : Nat) : bytes (s.extract a b) = ((bytes s).drop a).take (b - a) := by
  unfold bytes
  rw [Lib.extract_data, List.map_take, List.map_drop]
theorem bytes_tail (s : ByteArray) (a : Nat) : bytes (s.extract a s.size) = (bytes s).drop a := by
  unfold bytes
  rw [Lib.extract_to_end, List.map_drop]

/-- These bytes are digits' bytes. -/
def Dig (l : List Nat) : Prop := ∀ x ∈ l, 48 ≤ x ∧ x ≤ 57
/-- These bytes are the digits of a number. -/
def Digits (l : List Nat) : Prop := l ≠ [] ∧ (l[0]? = some 48 → l.length = 1) ∧ Dig l
instance (l : List Nat) : Decidable (Dig l) := by unfold Dig; infer_instance
instance (l : List Nat) : Decidable (Digits l) := by unfold Digits; infer_instance

/-- Digits, read on from a number. -/
def dec (v : Nat) (l : List Nat) : Nat := l.foldl (fun a x => a * 10 + (x - 48)) v
theorem dec_nil (v : Nat) : dec v [] = v := rfl
theorem dec_cons (v x : Nat) (l : List Nat) : dec v (x :: l) = dec (v * 10 + (x - 48)) l := by unfold dec; rw [List.foldl_cons]
theorem dec_append (v : Nat) (l m : List Nat) : dec v (l ++ m) = dec (dec v l) m := by unfold dec; rw [List.foldl_append]

theorem dec_shift (v : Nat) (l : List Nat) : dec v l = v * 10 ^ l.length + dec 0 l := by
  induction l generalizing v with
  | nil => rw [dec_nil, dec_nil, List.length_nil, Nat.pow_zero, Nat.mul_one, Nat.add_zero]
  | cons x l ih =>
    rw [dec_cons, dec_cons, List.length_cons, ih, ih (0 * 10 + (x - 48)), Nat.pow_succ, Nat.add_mul, Nat.zero_mul, Nat.zero_add]
    have : v * 10 * 10 ^ l.length = v * (10 ^ l.length * 10) := by rw [Nat.mul_assoc, Nat.mul_comm 10]
    omega

theorem dec_lt {l : List Nat} (h : Dig l) : dec 0 l < 10 ^ l.length := by
  induction l with
  | nil => rw [dec_nil]; exact Nat.one_pos
  | cons x l ih =>
    have hx := h x (by simp)
    have h1 := ih fun y hy => h y (by simp [hy])
    rw [dec_cons, List.length_cons, dec_shift, Nat.pow_succ]
    have h2 : (0 * 10 + (x - 48)) * 10 ^ l.length ≤ 9 * 10 ^ l.length := Nat.mul_le_mul_right _ (by omega)
    omega

theorem dec_snoc (v : Nat) (l : List Nat) (x : Nat) : dec v (l ++ [x]) = dec v l * 10 + (x - 48) := by rw [dec_append, dec_cons, dec_nil]

/-- Rows that are trimmed, behind a scale. -/
theorem lims_of_len {ds : List Nat} (hl : Lim ds) (h : ds = [] ∨ R ^ (ds.length - 1) ≤ val ds) : lims (val ds) = ds := by
  rw [← tr_eq_lims hl]
  rcases h with rfl | h
  · rfl
  · have h1 : (tr ds).length = ds.length := by
      rcases Nat.lt_or_ge (tr ds).length ds.length with hlt | hge
      · have h2 : (lims (val ds)).length ≤ ds.length - 1 := by rw [← tr_eq_lims hl]; omega
        rw [lims_length_le] at h2
        omega
      · have := tr_length_le ds
        omega
    rw [tr_prefix, h1, List.take_length]

theorem lims_snoc {ds : List Nat} {c : Nat} (hl : Lim ds) (hc : c < R) (h : c ≠ 0) : lims (val ds + R ^ ds.length * c) = ds ++ [c] := by
  have e : val ds + R ^ ds.length * c = val (ds ++ [c]) := by rw [val_append]; simp [val]
  rw [e, ← tr_eq_lims (hl.append (Lim.cons hc Lim.nil)), tr_snoc_pos _ h]

theorem pow_le_lims {v : Nat} (h : lims v ≠ []) : R ^ ((lims v).length - 1) ≤ v := by
  refine Nat.le_of_not_lt fun hc => ?_
  have h1 := lims_length_le.2 hc
  have h2 : 0 < (lims v).length := List.length_pos_iff.2 h
  omega

/-! ### The digits of a number -/
/-- Its digits' bytes, the lowest first; of 0 none. -/
def lows (n : Nat) : List Nat := if _h : n = 0 then [] else (48 + n % 10) :: lows (n / 10)
termination_by n
decreasing_by omega

theorem lows_zero : lows 0 = [] := by rw [lows]; rfl
theorem lows_pos {n : Nat} (h : n ≠ 0) : lows n = (48 + n % 10) :: lows (n / 10) := by rw [lows, dif_neg h]

/-- Its text's bytes. -/
def txt (n : Nat) : List Nat := if n = 0 then [48] else (lows n).reverse

theorem lows_ind (p : Nat → Prop) (h0 : p 0) (h1 : ∀ n, n ≠ 0 → p (n / 10) → p n) (n : Nat) : p n := by
  induction n using Nat.strongRecOn with
  | ind n ih =>
    by_cases h : n = 0
    · subst h; exact h0
    · exact h1 n h (ih _ (by omega))

theorem lows_dig (n : Nat) : Dig (lows n) := by
  refine lows_ind (fun n => Dig (lows n)) (by rw [lows_zero]; intro x hx; cases hx) (fun n h ih => ?_) n
  rw [lows_pos h]
  intro x hx
  rcases List.mem_cons.1 hx with rfl | hx
  · omega
  · exact ih x hx

theorem dec_lows (n : Nat) : dec 0 (lows n).reverse = n := by
  refine lows_ind (fun n => dec 0 (lows n).reverse = n) (by rw [lows_zero]; rfl) (fun n h ih => ?_) n
  rw [lows_pos h, List.reverse_cons, dec_snoc, ih]
  omega

theorem txt_dig (n : Nat) : Dig (txt n) := by
  unfold txt
  split
  · intro x hx; simp at hx; omega
  · intro x hx; exact lows_dig n x (List.mem_reverse.1 hx)

theorem dec_txt (n : Nat) : dec 0 (txt n) = n := by
  unfold txt
  split
  · rename_i h; rw [h, dec_cons, dec_nil]
  · exact dec_lows n

theorem lows_last {n : Nat} (h : n ≠ 0) : ∃ x l, (lows n).reverse = x :: l ∧ 49 ≤ x := by
  revert h
  refine lows_ind (fun n => n ≠ 0 → ∃ x l, (lows n).reverse = x :: l ∧ 49 ≤ x) (fun h => absurd rfl h) (fun n h ih _ => ?_) n
  rw [lows_pos h, List.reverse_cons]
  by_cases h2 : n / 10 = 0
  · rw [h2, lows_zero]
    exact ⟨48 + n % 10, [], rfl, by omega⟩
  · obtain ⟨x, l, e, hx⟩ := ih h2
    rw [e]
    exact ⟨x, l ++ [48 + n % 10], rfl, hx⟩

theorem txt_digits (n : Nat) : Digits (txt n) := by
  refine ⟨?_, ?_, txt_dig n⟩
  · unfold txt
    split
    · simp
    · rename_i h
      obtain ⟨x, l, e, _⟩ := lows_last h
      rw [e]
      simp
  · unfold txt
    split
    · intro _; rfl
    · rename_i h
      obtain ⟨x, l, e, hx⟩ := lows_last h
      rw [e]
      intro h2
      simp at h2
      omega

theorem txt_inj {n m : Nat} (h : txt n = txt m) : n = m := by rw [← dec_txt n, h, dec_txt]

theorem lows_take (n k : Nat) (h : n / 10 ^ k ≠ 0) : (lows n).take (k + 1) = (lows n).take k ++ [48 + n / 10 ^ k % 10] := by
  induction k generalizing n with
  | zero =>
    simp at h
    rw [lows_pos h]
    simp
  | succ k ih =>
    have hn : n ≠ 0 := by
      intro e
      rw [e] at h
      simp at h
    have e : n / 10 ^ (k + 1) = n / 10 / 10 ^ k := by rw [Nat.pow_succ, Nat.mul_comm, Nat.div_div_eq_div_mul]
    rw [e] at h ⊢
    rw [lows_pos hn, List.take_succ_cons, List.take_succ_cons, ih _ h]
    rfl

theorem lows_take_all (n k : Nat) (h : n / 10 ^ k = 0) : (lows n).take k = lows n := by
  induction k generalizing n with
  | zero =>
    simp at h
    rw [h, lows_zero]
    rfl
  | succ k ih =>
    by_cases hn : n = 0
    · rw [hn, lows_zero]; rfl
    · have e : n / 10 ^ (k + 1) = n / 10 / 10 ^ k := by rw [Nat.pow_succ, Nat.mul_comm, Nat.div_div_eq_div_mul]
      rw [e] at h
      rw [lows_pos hn, List.take_succ_cons, ih _ h]

theorem lows_len_le {n k : Nat} (h : n < 10 ^ k) : (lows n).length ≤ k := by
  have := lows_take_all n k (Nat.div_eq_of_lt h)
  have h2 := congrArg List.length this
  rw [List.length_take] at h2
  omega

theorem lows_lt {n k : Nat} (h : n / 10 ^ k ≠ 0) : k < (lows n).length := by
  have h2 := congrArg List.length (lows_take n k h)
  rw [List.length_append, List.length_take, List.length_take] at h2
  simp at h2
  omega

theorem lows_val_len {xs : List Nat} (h : Lim xs) : (lows (val xs)).length ≤ 10 * xs.length := by
  refine lows_len_le (Nat.lt_of_lt_of_le (val_lt h) ?_)
  rw [Nat.pow_mul]
  exact Nat.pow_le_pow_left (by decide) _

end M
end Go.Proofs.Ytbcceopgmkmbfaa
