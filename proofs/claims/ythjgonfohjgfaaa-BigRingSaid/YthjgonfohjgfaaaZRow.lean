/- big.Add, Mul of a row of up to six numbers; a row of them, as a region's operations leave it. -/
import Derived.Test.YthjgonfohjgfaaaZAll
import Derived.Test.YthjgonfohjgfaaaZFoldP
import Derived.Test.YthjgonfohjgfaaaZFoldT
namespace Go.Proofs.Ythjgonfohjgfaaa
open Go.RowKit
set_option linter.unusedVariables false
set_option maxRecDepth 100000

theorem IsL.below {w w' : World} {v : Value} {ls : List ZE} {K : Nat} (h : IsL w v ls K) (hb : Below w.heap.size w w') : IsL w' v ls K := by
  obtain ⟨A, c, rfl, hc, hz⟩ := h
  refine ⟨A, c, rfl, hc, ?_⟩
  rcases hz with h0 | ⟨g, hA, hs⟩
  · exact .inl h0
  · exact .inr ⟨g, hA, hs.below hb⟩
theorem sL {ls : List ZE} {K : Nat} : Stab RBu fun v _ w => IsL w v ls K := fun _ _ _ _ _ r _ h => h.below r

theorem cAddL {w : World} {v : Value} {ls : List ZE} {N : Nat} (h : IsL w v ls 10) (h6 : ls.length ≤ 6) (hN : N ≤ w.heap.size) : Calls Try.prog 16 #[v] w (Ans w fun w' v => IsZ N w' v (sumZ ls) 20) := by
  obtain ⟨A, c, rfl, hc, hz⟩ := h
  suffices hg : Calls Try.prog 16 #[.slice A ls.length c] w (GivZ w (sumZ ls) 20) from hg.mono fun e w' r => givZ_ans hN r
  rcases Nat.eq_zero_or_pos ls.length with hl | hl
  · obtain rfl := List.eq_nil_of_length_eq_zero hl
    exact (addZ0 A c).mono fun e w' r => r.of (Below.refl _ _) (by omega)
  · obtain ⟨g, rfl, hs⟩ := hz.resolve_left (by omega)
    rcases (show ls.length = 1 ∨ ls.length = 2 ∨ ls.length = 3 ∨ ls.length = 4 ∨ ls.length = 5 ∨ ls.length = 6 by omega) with h1 | h1 | h1 | h1 | h1 | h1
    · rw [h1] at hc ⊢; exact (add_of_fold (rfold_plus1 (Zm.zero _ _) (hs.alloc _) h1 c)).mono fun e w' r => r.of (Below.refl _ _) (by omega)
    · rw [h1] at hc ⊢; exact (add_of_fold (rfold_plus2 (Zm.zero _ _) (hs.alloc _) h1 c)).mono fun e w' r => r.of (Below.refl _ _) (by omega)
    · rw [h1] at hc ⊢; exact (add_of_fold (rfold_plus3 (Zm.zero _ _) (hs.alloc _) h1 c hc)).mono fun e w' r => r.of (Below.refl _ _) (by omega)
    · rw [h1] at hc ⊢; exact (add_of_fold (rfold_plus4 (Zm.zero _ _) (hs.alloc _) h1 c hc)).mono fun e w' r => r.of (Below.refl _ _) (by omega)
    · rw [h1] at hc ⊢; exact (add_of_fold (rfold_plus5 (Zm.zero _ _) (hs.alloc _) h1 c hc)).mono fun e w' r => r.of (Below.refl _ _) (by omega)
    · rw [h1] at hc ⊢; exact (add_of_fold (rfold_plus6 (Zm.zero _ _) (hs.alloc _) h1 c hc)).mono fun e w' r => r.of (Below.refl _ _) (by omega)

theorem mul_of_row {w : World} {v : Value} {z : Int} {k : Nat} {g : Nat} {ls : List ZE} (hs : Zs w g 0 ls 10) (hk : k ≤ 80) (h : ∀ W b0 A0 n0 c0, Zm W b0 A0 n0 c0 1 2 → Zs W g 0 ls 10 → Calls Try.prog 59 #[v, .agg #[.bool b0, .slice A0 n0 c0], .func (Fn.func 63) #[] #[]] W (GivZ W z k)) : Calls Try.prog 20 #[v] w (GivZ w z 80) := by
  refine mul_of_fold (z := z) (k := 80) fun W b0 A0 n0 c0 hW hsz hZ => ?_
  refine (h W b0 A0 n0 c0 hZ.zm (hs.below hW)).mono ?_
  rintro e w' ⟨b, A, n, c, rfl, Z, hb⟩
  exact ⟨b, A, n, c, rfl, (Z.mono hsz).monoK hk, hb⟩

theorem cMulL {w : World} {v : Value} {ls : List ZE} {N : Nat} (h : IsL w v ls 10) (h6 : ls.length ≤ 6) (hN : N ≤ w.heap.size) : Calls Try.prog 20 #[v] w (Ans w fun w' v => IsZ N w' v (prodZ ls) 80) := by
  obtain ⟨A, c, rfl, hc, hz⟩ := h
  suffices hg : Calls Try.prog 20 #[.slice A ls.length c] w (GivZ w (prodZ ls) 80) from hg.mono fun e w' r => givZ_ans hN r
  rcases Nat.eq_zero_or_pos ls.length with hl | hl
  · obtain rfl := List.eq_nil_of_length_eq_zero hl
    exact (mulZ0 A c).mono fun e w' r => r.of (Below.refl _ _) (by omega)
  · obtain ⟨g, rfl, hs⟩ := hz.resolve_left (by omega)
    rcases (show ls.length = 1 ∨ ls.length = 2 ∨ ls.length = 3 ∨ ls.length = 4 ∨ ls.length = 5 ∨ ls.length = 6 by omega) with h1 | h1 | h1 | h1 | h1 | h1
    · rw [h1] at hc ⊢; exact mul_of_row hs (by omega) fun W b0 A0 n0 c0 hZ hS => rfold_times1 hZ hS h1 c
    · rw [h1] at hc ⊢; exact mul_of_row hs (by omega) fun W b0 A0 n0 c0 hZ hS => rfold_times2 hZ hS h1 c
    · rw [h1] at hc ⊢; exact mul_of_row hs (by omega) fun W b0 A0 n0 c0 hZ hS => rfold_times3 hZ hS h1 c hc
    · rw [h1] at hc ⊢; exact mul_of_row hs (by omega) fun W b0 A0 n0 c0 hZ hS => rfold_times4 hZ hS h1 c hc
    · rw [h1] at hc ⊢; exact mul_of_row hs (by omega) fun W b0 A0 n0 c0 hZ hS => rfold_times5 hZ hS h1 c hc
    · rw [h1] at hc ⊢; exact mul_of_row hs (by omega) fun W b0 A0 n0 c0 hZ hS => rfold_times6 hZ hS h1 c hc

end Go.Proofs.Ythjgonfohjgfaaa
