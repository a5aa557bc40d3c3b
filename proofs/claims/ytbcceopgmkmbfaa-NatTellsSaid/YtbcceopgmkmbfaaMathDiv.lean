/-
  Plain mathematics of long division (Knuth's algorithm D) over rows of limbs.
-/
import Derived.Test.YtbcceopgmkmbfaaMath
namespace Go.Proofs.Ytbcceopgmkmbfaa
namespace M
set_option linter.unusedVariables false

theorem val_one (z : Nat) : val [z] = z := by simp [val]

/-- What a guess is told by: the quotient of the three highest limbs by the two highest, at most 2^32 - 1. -/
def Guess (t3 b2 g : Nat) : Prop := g < R ∧ g * b2 ≤ t3 ∧ (g + 1 = R ∨ t3 < (g + 1) * b2)

/-- A guess is at most one too great, never too small. -/
theorem guess_near {P b2 vl t3 ul g : Nat} (hP : 0 < P) (hvl : vl < P) (hul : ul < P) (hb : R ≤ b2) (hg : Guess t3 b2 g) (hU : t3 * P + ul < (b2 * P + vl) * R) :
    g * (b2 * P + vl) < t3 * P + ul + (b2 * P + vl) ∧ t3 * P + ul < (g + 1) * (b2 * P + vl) := by
  obtain ⟨h1, h2, h3⟩ := hg
  constructor
  · have e1 : g * (b2 * P + vl) = g * b2 * P + g * vl := by rw [Nat.mul_add, Nat.mul_assoc]
    have e2 : g * b2 * P ≤ t3 * P := Nat.mul_le_mul_right _ h2
    have e3 : g * vl ≤ R * P := Nat.mul_le_mul (Nat.le_of_lt h1) (Nat.le_of_lt hvl)
    have e4 : R * P ≤ b2 * P := Nat.mul_le_mul_right _ hb
    have e5 : g * vl < b2 * P := by
      rcases Nat.eq_zero_or_pos g with h0 | h0
      · rw [h0, Nat.zero_mul]
        exact Nat.mul_pos (Nat.lt_of_lt_of_le R_pos hb) hP
      · have : g * vl < g * P := Nat.mul_lt_mul_of_pos_left hvl h0
        have h6 : g * P ≤ R * P := Nat.mul_le_mul_right _ (Nat.le_of_lt h1)
        omega
    omega
  · rcases h3 with h3 | h3
    · rw [h3, Nat.mul_comm R]
      exact hU
    · have e1 : (g + 1) * (b2 * P + vl) = (g + 1) * b2 * P + (g + 1) * vl := by rw [Nat.mul_add, Nat.mul_assoc]
      have e2 : (t3 + 1) * P ≤ (g + 1) * b2 * P := Nat.mul_le_mul_right _ h3
      rw [Nat.add_mul, Nat.one_mul] at e2
      omega

/-- The quotient is the guess, or one less. -/
theorem guess_div {U V g : Nat} (hV : 0 < V) (h1 : g * V < U + V) (h2 : U < (g + 1) * V) : (g * V ≤ U ∧ U / V = g ∧ U % V = U - g * V) ∨ (U < g * V ∧ 1 ≤ g ∧ U / V = g - 1 ∧ U % V = U + V - g * V) := by
  have hadd : (g + 1) * V = g * V + V := by rw [Nat.add_mul, Nat.one_mul]
  by_cases h : g * V ≤ U
  · left
    have hd : U / V = g := by
      rw [Nat.div_eq_iff hV]
      constructor
      · exact h
      · omega
    refine ⟨h, hd, ?_⟩
    have := Nat.div_add_mod U V
    rw [hd, Nat.mul_comm] at this
    omega
  · right
    have hg : 1 ≤ g := by
      rcases Nat.eq_zero_or_pos g with h0 | h0
      · rw [h0, Nat.zero_mul] at h
        omega
      · exact h0
    have hgs : (g - 1) * V = g * V - V := by rw [Nat.sub_mul, Nat.one_mul]
    have hge : V ≤ g * V := Nat.le_mul_of_pos_left V hg
    have hd : U / V = g - 1 := by
      rw [Nat.div_eq_iff hV]
      constructor
      · omega
      · omega
    refine ⟨by omega, hg, hd, ?_⟩
    have := Nat.div_add_mod U V
    rw [hd, Nat.mul_comm] at this
    omega

/-- The loop that betters a guess keeps this: the guess times the highest limb, and what is left, are the two highest limbs; it is not below what it shall be. -/
structure Better (t3 b0 b1 r0 g left : Nat) : Prop where
  sum : (g * b1 + left) * R + r0 = t3
  ge : ∀ k, k < R → k * (b1 * R + b0) ≤ t3 → k ≤ g

theorem Better.test {t3 b0 b1 r0 g left : Nat} (h : Better t3 b0 b1 r0 g left) : left * R + r0 < g * b0 ↔ t3 < g * (b1 * R + b0) := by
  have := h.sum
  rw [Nat.add_mul] at this
  have e : g * (b1 * R + b0) = g * b1 * R + g * b0 := by rw [Nat.mul_add, Nat.mul_assoc]
  omega

theorem Better.start {b0 b1 r0 top : Nat} (hb : 0 < b1) (hr : r0 < R) : Better (top * R + r0) b0 b1 r0 (top / b1) (top % b1) := by
  constructor
  · rw [Nat.mul_comm (top / b1), Nat.div_add_mod]
  · intro k _ hk
    rw [Nat.le_div_iff_mul_le hb]
    have e : k * (b1 * R + b0) = k * b1 * R + k * b0 := by rw [Nat.mul_add, Nat.mul_assoc]
    refine Nat.le_of_not_lt fun hc => ?_
    have : (top + 1) * R ≤ k * b1 * R := Nat.mul_le_mul_right _ hc
    rw [Nat.add_mul, Nat.one_mul] at this
    omega

theorem Better.step {t3 b0 b1 r0 g left : Nat} (h : Better t3 b0 b1 r0 g left) (hg : 1 ≤ g) (hc : R ≤ g ∨ t3 < g * (b1 * R + b0)) : Better t3 b0 b1 r0 (g - 1) (left + b1) := by
  constructor
  · have e : (g - 1) * b1 + (left + b1) = g * b1 + left := by
      obtain ⟨k, rfl⟩ : ∃ k, g = k + 1 := ⟨g - 1, by omega⟩
      rw [Nat.add_sub_cancel, Nat.add_mul, Nat.one_mul]
      omega
    rw [e]
    exact h.sum
  · intro k hk hkt
    have h1 := h.ge k hk hkt
    rcases hc with hc | hc
    · omega
    · have h2 : k ≠ g := by
        intro e
        rw [e] at hkt
        omega
      omega

/-- Where it ends. -/
theorem Better.done {t3 b0 b1 r0 g left : Nat} (h : Better t3 b0 b1 r0 g left) (hb0 : b0 < R) (hr : r0 < R) (hb1 : 0 < b1) (htop : t3 < (b1 * R + R) * R) (hc : R ≤ left ∨ (g < R ∧ ¬ t3 < g * (b1 * R + b0))) : Guess t3 (b1 * R + b0) g := by
  have key : g < R ∧ g * (b1 * R + b0) ≤ t3 := by
    rcases hc with hc | ⟨h1, h2⟩
    · have hs := h.sum
      have h3 : g * b1 + left < b1 * R + R := by
        refine Nat.lt_of_not_le fun hcc => ?_
        have : (b1 * R + R) * R ≤ (g * b1 + left) * R := Nat.mul_le_mul_right _ hcc
        omega
      have h4 : g * b1 < R * b1 := by rw [Nat.mul_comm R]; omega
      have h5 : g < R := Nat.lt_of_mul_lt_mul_right h4
      refine ⟨h5, ?_⟩
      have h6 : ¬ left * R + r0 < g * b0 := by
        have h7 : g * b0 ≤ R * R := Nat.mul_le_mul (Nat.le_of_lt h5) (Nat.le_of_lt hb0)
        have h8 : R * R ≤ left * R := Nat.mul_le_mul_right _ hc
        omega
      rw [h.test] at h6
      omega
    · exact ⟨h1, by omega⟩
  refine ⟨key.1, key.2, ?_⟩
  by_cases hR : g + 1 = R
  · exact .inl hR
  · right
    refine Nat.lt_of_not_le fun hcc => ?_
    have := h.ge (g + 1) (by have := key.1; omega) hcc
    omega

/-- The first guess is at most 2^32 + 1. -/
theorem guess_start {b1 r2 r1 : Nat} (hb : 2147483648 ≤ b1) (hr2 : r2 ≤ b1) (hr1 : r1 < R) : (r2 * R + r1) / b1 ≤ 4294967297 := by
  have hb0 : 0 < b1 := by omega
  refine Nat.le_of_lt_succ ?_
  rw [Nat.div_lt_iff_lt_mul hb0]
  have h1 : r2 * R ≤ b1 * R := Nat.mul_le_mul_right _ hr2
  rw [R_eq] at h1 hr1 ⊢
  have h2 : (4294967297 + 1) * b1 = b1 * 4294967296 + 2 * b1 := by omega
  rw [Nat.succ_eq_add_one, h2]
  omega

/-- One limb more of 'us less t times vs'. -/
theorem take_step {us vs zs : List Nat} {k bo cy t u v z bo' : Nat} (hu : us[k]? = some u) (hv : vs[k]? = some v) (hl : zs.length = k)
    (h : val (us.take k) + R ^ k * (bo + cy) = val zs + t * val (vs.take k)) (hz : u + R * bo' = z + (cy + v * t) % R + bo) :
    val (us.take (k + 1)) + R ^ (k + 1) * (bo' + (cy + v * t) / R) = val (zs ++ [z]) + t * val (vs.take (k + 1)) := by
  rw [val_take_some hu, val_take_some hv, val_append, hl, val_one, Nat.pow_succ]
  have e1 := Nat.div_add_mod (cy + v * t) R
  have e2 : R ^ k * (u + R * bo' + R * ((cy + v * t) / R)) = R ^ k * (z + bo + (cy + v * t)) := by congr 1; omega
  have e3 : R ^ k * R * (bo' + (cy + v * t) / R) = R ^ k * (R * bo') + R ^ k * (R * ((cy + v * t) / R)) := by rw [Nat.mul_assoc, Nat.mul_add, Nat.mul_add]
  have e4 : R ^ k * (u + R * bo' + R * ((cy + v * t) / R)) = R ^ k * u + R ^ k * (R * bo') + R ^ k * (R * ((cy + v * t) / R)) := by rw [Nat.mul_add, Nat.mul_add]
  have e5 : R ^ k * (z + bo + (cy + v * t)) = R ^ k * z + R ^ k * (bo + cy) + R ^ k * (v * t) := by rw [← Nat.mul_add, ← Nat.mul_add]; congr 1; omega
  have e6 : t * (val (vs.take k) + R ^ k * v) = t * val (vs.take k) + R ^ k * (v * t) := by
    rw [Nat.mul_add]
    congr 1
    rw [Nat.mul_comm v t, ← Nat.mul_assoc, Nat.mul_comm t, Nat.mul_assoc]
  omega

/-- The last limb of 'us less t times vs'. -/
theorem take_last {us zs : List Nat} {n bo cy u z bo' T : Nat} (hu : us[n]? = some u) (hul : us.length = n + 1) (hl : zs.length = n)
    (h : val (us.take n) + R ^ n * (bo + cy) = val zs + T) (hz : u + R * bo' = z + cy + bo) : val us + R ^ (n + 1) * bo' = val (zs ++ [z]) + T := by
  have e0 : val us = val (us.take n) + R ^ n * u := by
    have := val_take_some hu
    rw [List.take_of_length_le (by omega)] at this
    exact this
  rw [e0, val_append, hl, val_one, Nat.pow_succ]
  have e1 : R ^ n * (u + R * bo') = R ^ n * (z + cy + bo) := by rw [hz]
  have e2 : R ^ n * (u + R * bo') = R ^ n * u + R ^ n * R * bo' := by rw [Nat.mul_add, Nat.mul_assoc]
  have e3 : R ^ n * (z + cy + bo) = R ^ n * z + R ^ n * (bo + cy) := by rw [← Nat.mul_add]; congr 1; omega
  omega

/-- A row's two and three highest limbs. -/
theorem val_top2 {vs : List Nat} {n b0 b1 : Nat} (hl : vs.length = n + 2) (h0 : vs[n]? = some b0) (h1 : vs[n + 1]? = some b1) : val vs = (b1 * R + b0) * R ^ n + val (vs.take n) := by
  have e1 := val_take_some h1
  have e0 := val_take_some h0
  rw [List.take_of_length_le (by omega)] at e1
  rw [e1, e0, Nat.pow_succ, Nat.add_mul]
  have e2 : b1 * R * R ^ n = R ^ n * R * b1 := by rw [Nat.mul_comm b1, Nat.mul_comm (R * b1), Nat.mul_assoc]
  have e3 : b0 * R ^ n = R ^ n * b0 := Nat.mul_comm _ _
  omega
theorem val_top3 {us : List Nat} {n r0 r1 r2 : Nat} (hl : us.length = n + 3) (h0 : us[n]? = some r0) (h1 : us[n + 1]? = some r1) (h2 : us[n + 2]? = some r2) :
    val us = ((r2 * R + r1) * R + r0) * R ^ n + val (us.take n) := by
  have e2 := val_take_some h2
  rw [List.take_of_length_le (by omega)] at e2
  have e1 := val_top2 (vs := us.take (n + 2)) (n := n) (b0 := r0) (b1 := r1) (by rw [List.length_take]; omega) (by rw [List.getElem?_take, if_pos (by omega), h0]) (by rw [List.getElem?_take, if_pos (by omega), h1])
  rw [List.take_take, Nat.min_eq_left (by omega)] at e1
  rw [e2, e1]
  have e5 : (r2 * R + r1) * R + r0 = r2 * R * R + (r1 * R + r0) := by rw [Nat.add_mul, Nat.add_assoc]
  have e4 : r2 * R * R * R ^ n = R ^ (n + 2) * r2 := by simp only [Nat.pow_succ, Nat.mul_assoc, Nat.mul_comm, Nat.mul_left_comm]
  rw [e5, Nat.add_mul (r2 * R * R), e4]
  omega

end M
end Go.Proofs.Ytbcceopgmkmbfaa
