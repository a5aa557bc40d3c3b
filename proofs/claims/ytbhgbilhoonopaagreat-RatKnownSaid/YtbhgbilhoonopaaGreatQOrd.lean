/- The order of fractions, told by cmpQ and sgn. -/
import Derived.Test.YtbhgbilhoonopaaGreatQSmall
namespace Go.Proofs.YtbhgbilhoonopaaGreat
set_option linter.unusedVariables false

theorem cQlt {a b : Rat} (h : a < b) : cmpQ a b = -1 := cmpQ_lt a b h
theorem cQgt {a b : Rat} (h : b < a) : cmpQ a b = 1 := cmpQ_gt a b h
theorem cQeq {a b : Rat} (h : a = b) : cmpQ a b = 0 := cmpQ_eq a b h
theorem rat_tri (a b : Rat) : a < b ∨ a = b ∨ b < a := by
  by_cases h : a < b
  · exact .inl h
  · have h1 := Rat.not_lt.1 h
    rcases Rat.le_iff_lt_or_eq.1 h1 with h2 | h2
    · exact .inr (.inr h2)
    · exact .inr (.inl h2.symm)
theorem cmpQ_range (a b : Rat) : cmpQ a b = -1 ∨ cmpQ a b = 0 ∨ cmpQ a b = 1 := by
  rcases rat_tri a b with h | h | h
  · exact .inl (cQlt h)
  · exact .inr (.inl (cQeq h))
  · exact .inr (.inr (cQgt h))
theorem cmpQ_swap (a b : Rat) : cmpQ b a = - cmpQ a b := by
  rcases rat_tri a b with h | h | h
  · rw [cQlt h, cQgt h]; rfl
  · rw [cQeq h, cQeq h.symm]; rfl
  · rw [cQgt h, cQlt h]
theorem cmpQ_add (a b c : Rat) : cmpQ (a + c) (b + c) = cmpQ a b := by
  rcases rat_tri a b with h | h | h
  · rw [cQlt h, cQlt (Rat.add_lt_add_right.2 h)]
  · rw [cQeq h, cQeq (by rw [h])]
  · rw [cQgt h, cQgt (Rat.add_lt_add_right.2 h)]
theorem sgn_cmp (a : Rat) : sgn a.num = cmpQ a 0 := by
  unfold cmpQ
  have e : a.num * (((0 : Rat).den : Nat) : Int) = a.num := by rw [show (0 : Rat).den = 1 from rfl]; omega
  rw [e, show (0 : Rat).num = 0 from rfl, Int.zero_mul]
  rcases Int.lt_trichotomy a.num 0 with h | h | h
  · rw [sgn_neg h, cmpI_lt h]
  · rw [sgn_zero h, cmpI_eq h]
  · rw [sgn_pos h, cmpI_gt h]
theorem sgn_sub (a b : Rat) : sgn (a - b).num = cmpQ a b := by
  rw [sgn_cmp, ← cmpQ_add (a - b) 0 b, Rat.sub_add_cancel, Rat.zero_add]
theorem cmpQ_mul (a b c : Rat) : cmpQ (a * c) (b * c) = cmpQ a b * sgn c.num := by
  rw [sgn_cmp]
  rcases rat_tri c 0 with hc | hc | hc
  · rw [cQlt hc]
    have hc' : 0 < -c := by
      have := Rat.neg_lt_neg hc
      rw [Rat.neg_zero] at this
      exact this
    have key : ∀ x y : Rat, x < y → y * c < x * c := by
      intro x y h
      have := Rat.mul_lt_mul_of_pos_right h hc'
      rw [Rat.mul_neg, Rat.mul_neg] at this
      exact Rat.neg_lt_neg_iff.1 this
    rcases rat_tri a b with h | h | h
    · rw [cQlt h, cQgt (key a b h)]; rfl
    · rw [cQeq h, cQeq (by rw [h])]; rfl
    · rw [cQgt h, cQlt (key b a h)]; rfl
  · rw [cQeq hc, hc, Rat.mul_zero, Rat.mul_zero, cQeq rfl, Int.mul_zero]
  · rw [cQgt hc, Int.mul_one]
    rcases rat_tri a b with h | h | h
    · rw [cQlt h, cQlt (Rat.mul_lt_mul_of_pos_right h hc)]
    · rw [cQeq h, cQeq (by rw [h])]
    · rw [cQgt h, cQgt (Rat.mul_lt_mul_of_pos_right h hc)]
theorem cmpQ_le {a b : Rat} : cmpQ a b ≤ 0 ↔ a ≤ b := by
  rcases rat_tri a b with h | h | h
  · rw [cQlt h]; exact ⟨fun _ => Rat.le_of_lt h, fun _ => by omega⟩
  · rw [cQeq h]; exact ⟨fun _ => by rw [h]; exact Rat.le_refl, fun _ => by omega⟩
  · rw [cQgt h]; exact ⟨fun e => by omega, fun e => absurd h (Rat.not_lt.2 e)⟩
theorem cmpQ_chain {a b c : Rat} (h : cmpQ a b ≤ 0) (g : cmpQ b c ≤ 0) : cmpQ a c ≤ 0 := cmpQ_le.2 (Rat.le_trans (cmpQ_le.1 h) (cmpQ_le.1 g))
theorem cmpQ_zero {a b : Rat} : cmpQ a b = 0 ↔ a = b := by
  rcases rat_tri a b with h | h | h
  · rw [cQlt h]; exact ⟨fun e => by omega, fun e => absurd e (Rat.ne_of_lt h)⟩
  · exact ⟨fun _ => h, fun _ => cQeq h⟩
  · rw [cQgt h]; exact ⟨fun e => by omega, fun e => absurd e.symm (Rat.ne_of_lt h)⟩
theorem neg_inj {a b : Rat} : -a = -b ↔ a = b := ⟨fun h => by rw [← Rat.neg_neg a, h, Rat.neg_neg], fun h => by rw [h]⟩
end Go.Proofs.YtbhgbilhoonopaaGreat
