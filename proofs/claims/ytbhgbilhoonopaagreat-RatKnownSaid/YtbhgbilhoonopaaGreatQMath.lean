/- Fractions: plain mathematics. Nothing of the program stands here. -/
import Derived.Test.YtbhgbilhoonopaaGreatZB
namespace Go.Proofs.YtbhgbilhoonopaaGreat
set_option linter.unusedVariables false

/-- What a D counts as. -/
def dOf (y : Nat) : Nat := if y = 0 then 1 else y
theorem dOf_pos (y : Nat) : dOf y ≠ 0 := by unfold dOf; split <;> omega
theorem dOf_zero : dOf 0 = 1 := rfl
theorem dOf_of {y : Nat} (h : y ≠ 0) : dOf y = y := by unfold dOf; rw [if_neg h]

theorem zv_div (b : Bool) {x g : Nat} (h : g ∣ x) : zv b (x / g) = zv b x / (g : Int) := by
  cases b
  · rw [zv_false, zv_false, Int.natCast_ediv]
  · rw [zv_true, zv_true, Int.natCast_ediv, Int.neg_ediv_of_dvd (Int.natCast_dvd_natCast.2 h)]

theorem low_num (b : Bool) (x : Nat) {y : Nat} (hy : y ≠ 0) : zv b (x / x.gcd y) = (mkRat (zv b x) y).num := by
  rw [Rat.num_mkRat, if_neg hy, zv_abs, zv_div b (Nat.gcd_dvd_left x y), Nat.gcd_comm]
theorem low_den (b : Bool) (x : Nat) {y : Nat} (hy : y ≠ 0) : y / x.gcd y = (mkRat (zv b x) y).den := by
  rw [Rat.den_mkRat, if_neg hy, zv_abs, Nat.gcd_comm]
theorem num_le (z : Int) (y : Nat) : (mkRat z y).num.natAbs ≤ z.natAbs := by
  rw [Rat.num_mkRat]
  split
  · simp
  · exact Int.natAbs_ediv_le_natAbs z _
theorem den_le (z : Int) {y : Nat} (hy : y ≠ 0) : (mkRat z y).den ≤ y := by
  rw [Rat.den_mkRat, if_neg hy]
  exact Nat.div_le_self _ _

section
variable (a b : Rat)
/-- What Ns over one D are times. -/
def ofA : Nat := b.den / a.den.gcd b.den
def ofB : Nat := a.den / a.den.gcd b.den
theorem two_g : 0 < a.den.gcd b.den := Nat.gcd_pos_of_pos_left _ a.den_pos
theorem two_A : ofA a b * a.den.gcd b.den = b.den := Nat.div_mul_cancel (Nat.gcd_dvd_right _ _)
theorem two_B : ofB a b * a.den.gcd b.den = a.den := Nat.div_mul_cancel (Nat.gcd_dvd_left _ _)
theorem two_A_pos : ofA a b ≠ 0 := fun h => by have := two_A a b; rw [h, Nat.zero_mul] at this; exact b.den_nz this.symm
theorem two_B_pos : ofB a b ≠ 0 := fun h => by have := two_B a b; rw [h, Nat.zero_mul] at this; exact a.den_nz this.symm
theorem two_d : a.den * ofA a b = b.den * ofB a b := by
  have h := two_g a b
  have h1 := two_A a b
  have h2 := two_B a b
  refine Nat.eq_of_mul_eq_mul_right h ?_
  rw [Nat.mul_assoc, h1, Nat.mul_assoc, h2, Nat.mul_comm]
theorem two_add : mkRat (a.num * (ofA a b : Int) + b.num * (ofB a b : Int)) (a.den * ofA a b) = a + b := by
  rw [← Rat.mkRat_mul_right (a := a.den.gcd b.den) (by have := two_g a b; omega), Rat.add_def', Int.add_mul, Int.mul_assoc, Int.mul_assoc, ← Int.natCast_mul, ← Int.natCast_mul, two_A, two_B, Nat.mul_assoc, two_A]
theorem two_sub : mkRat (a.num * (ofA a b : Int) + -(b.num * (ofB a b : Int))) (a.den * ofA a b) = a - b := by
  rw [← Rat.mkRat_mul_right (a := a.den.gcd b.den) (by have := two_g a b; omega), Rat.sub_def', Int.add_mul, Int.neg_mul, Int.mul_assoc, Int.mul_assoc, ← Int.natCast_mul, ← Int.natCast_mul, two_A, two_B, Nat.mul_assoc, two_A, Int.sub_eq_add_neg]
theorem two_mul : mkRat ((a.num * (ofA a b : Int)) * (b.num * (ofB a b : Int))) ((a.den * ofA a b) * (a.den * ofA a b)) = a * b := by
  have e1 : (a.den * ofA a b) * (a.den * ofA a b) = (a.den * b.den) * (ofA a b * ofB a b) := by
    conv => lhs; rhs; rw [two_d]
    simp only [Nat.mul_assoc, Nat.mul_left_comm]
  have e2 : (a.num * (ofA a b : Int)) * (b.num * (ofB a b : Int)) = (a.num * b.num) * ((ofA a b * ofB a b : Nat) : Int) := by
    rw [Int.natCast_mul]
    simp only [Int.mul_assoc, Int.mul_left_comm]
  rw [e1, e2, Rat.mkRat_mul_right (Nat.mul_ne_zero (two_A_pos a b) (two_B_pos a b)), Rat.mul_def']
theorem two_cmp : cmpI (a.num * (ofA a b : Int)) (b.num * (ofB a b : Int)) = cmpI (a.num * b.den) (b.num * a.den) := by
  have hg : (0 : Int) < (a.den.gcd b.den : Nat) := by have := two_g a b; omega
  have e1 : a.num * (b.den : Int) = (a.num * (ofA a b : Int)) * ((a.den.gcd b.den : Nat) : Int) := by rw [Int.mul_assoc, ← Int.natCast_mul, two_A]
  have e2 : b.num * (a.den : Int) = (b.num * (ofB a b : Int)) * ((a.den.gcd b.den : Nat) : Int) := by rw [Int.mul_assoc, ← Int.natCast_mul, two_B]
  rw [e1, e2]
  generalize a.num * (ofA a b : Int) = n
  generalize b.num * (ofB a b : Int) = m
  rcases Int.lt_trichotomy n m with h | h | h
  · rw [cmpI_lt h, cmpI_lt (Int.mul_lt_mul_of_pos_right h hg)]
  · rw [cmpI_eq h, cmpI_eq (by rw [h])]
  · rw [cmpI_gt h, cmpI_gt (Int.mul_lt_mul_of_pos_right h hg)]
/-- How one fraction is to another one. -/
def cmpQ : Int := cmpI (a.num * b.den) (b.num * a.den)
theorem cmpQ_lt (h : a < b) : cmpQ a b = -1 := cmpI_lt ((Rat.lt_iff a b).1 h)
theorem cmpQ_gt (h : b < a) : cmpQ a b = 1 := cmpI_gt ((Rat.lt_iff b a).1 h)
theorem cmpQ_eq (h : a = b) : cmpQ a b = 0 := cmpI_eq (by rw [h])
end

theorem den_lt {R k j : Nat} (a b : Rat) (ha : a.num.natAbs < R ^ k) (hb : b.num.natAbs < R ^ j) : (a * b).num.natAbs < R ^ (k + j) := by
  rw [Rat.mul_def']
  refine Nat.lt_of_le_of_lt (num_le _ _) ?_
  rw [Int.natAbs_mul, Nat.pow_add]
  exact Nat.mul_lt_mul_of_lt_of_lt ha hb

end Go.Proofs.YtbhgbilhoonopaaGreat
