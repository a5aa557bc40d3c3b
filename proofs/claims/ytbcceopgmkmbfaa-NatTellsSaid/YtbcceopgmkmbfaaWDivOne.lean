/- nat.Mul where one row has fewer than 40 limbs; nat.Div by 0, by more, and by one limb; nat.smallGcd; nat.Gcd of numbers below 2^64. -/
import Derived.Test.YtbcceopgmkmbfaaWMul
namespace Go.Proofs.Ytbcceopgmkmbfaa
open Go.RowKit
set_option linter.unusedVariables false

set_option maxHeartbeats 1000000 in
theorem mul_few (A : Option Addr) (n c : Nat) (xs : List Nat) (B : Option Addr) (m d : Nat) (ys : List Nat) (w : World) (h : Rd w A n c xs) (k : Rd w B m d ys) (hn : n ≤ 1048576) (hm : m ≤ 1048576)
    (hmn : min (M.lims (M.val xs)).length (M.lims (M.val ys)).length < 40) :
    Calls Try.prog 26 #[.slice A n c, .slice B m d] w (Gives w (M.lims (M.val xs * M.val ys))) := by
  rw [← M.tr_eq_lims h.Lim, ← M.tr_eq_lims k.Lim] at hmn
  have h1 := M.tr_length_le xs
  have h2 := M.tr_length_le ys
  rw [h.len] at h1
  rw [k.len] at h2
  have hs := h.short
  have ks := k.short
  rw [← M.val_tr xs, ← M.val_tr ys]
  have H := Lib.hid h
  have K := Lib.hid k
  have HS := Lib.hid hs
  have KS := Lib.hid ks
  clear h k hs ks
  go_enter Try.func26, Try.ntmps26
  go_wp2_with fail
  refine (short_any _ _ _ _ _ H.out (by omega)).mono ?_
  rintro e w' ⟨rfl, rfl⟩
  go_wp2_with fail
  refine (short_any _ _ _ _ _ K.out (by omega)).mono ?_
  rintro e w' ⟨rfl, rfl⟩
  go_wp2_with fail
  refine (product_few _ _ _ _ _ _ _ _ _ HS.out KS.out (by omega) (by omega) hmn).mono ?_
  rintro e w1 ⟨A1, c1, rfl, ho1, hb1⟩
  go_wp2
  go_ret
  exact ⟨A1, c1, rfl, ho1, hb1⟩

/-- Div answers two new rows and a code. -/
def Gives2 (w : World) (xs ys : List Nat) (code : Int) (e : Ending) (w' : World) : Prop :=
  ∃ A c B d, e = .returned (.tuple #[.slice A xs.length c, .slice B ys.length d, .int .i64 code]) ∧ Own w' w.heap.size A xs.length c xs ∧ Own w' w.heap.size B ys.length d ys ∧
    (∀ p q, A = some p → B = some q → p.block ≠ q.block) ∧ Below w.heap.size w w'

set_option maxHeartbeats 1000000 in
theorem div_zero (A : Option Addr) (n c : Nat) (xs : List Nat) (B : Option Addr) (m d : Nat) (ys : List Nat) (w : World) (h : Rd w A n c xs) (k : Rd w B m d ys) (hn : n ≤ 1048576) (hm : m ≤ 1048576) (h0 : M.val ys = 0) :
    Calls Try.prog 17 #[.slice A n c, .slice B m d] w (Gives2 w [] [] 3) := by
  have hy : (M.tr ys).length = 0 := by rw [(M.tr_eq_nil_iff ys).2 h0]; rfl
  have H := Lib.hid h
  have K := Lib.hid k
  have HY := Lib.hid hy
  clear h k hy
  go_enter Try.func17, Try.ntmps17
  go_wp2_with fail
  refine (short_any _ _ _ _ _ H.out (by omega)).mono ?_
  rintro e w' ⟨rfl, rfl⟩
  go_wp2_with fail
  refine (short_any _ _ _ _ _ K.out (by omega)).mono ?_
  rw [HY.out]
  rintro e w' ⟨rfl, rfl⟩
  go_wp2_with fail
  go_ret3
  exact ⟨none, 0, none, 0, rfl, OwK.nil_ _ _, OwK.nil_ _ _, (fun _ _ h => by cases h), Below.refl _ _⟩

set_option maxHeartbeats 1000000 in
theorem div_less (A : Option Addr) (n c : Nat) (xs : List Nat) (B : Option Addr) (m d : Nat) (ys : List Nat) (w : World) (h : Rd w A n c xs) (k : Rd w B m d ys) (hn : n ≤ 1048576) (hm : m ≤ 1048576)
    (hl : (M.tr xs).length < (M.tr ys).length) : Calls Try.prog 17 #[.slice A n c, .slice B m d] w (Gives2 w [] (M.tr xs) 0) := by
  have h1 := M.tr_length_le xs
  have h2 := M.tr_length_le ys
  rw [h.len] at h1
  rw [k.len] at h2
  have hs := h.short
  have H := Lib.hid h
  have K := Lib.hid k
  have HS := Lib.hid hs
  clear h k hs
  obtain ⟨nx, hnx⟩ : ∃ nx, (M.tr xs).length = nx := ⟨_, rfl⟩
  obtain ⟨ny, hny⟩ : ∃ ny, (M.tr ys).length = ny := ⟨_, rfl⟩
  rw [hnx, hny] at hl
  rw [hnx] at h1 HS
  rw [hny] at h2
  have HNX := Lib.hid hnx
  have HNY := Lib.hid hny
  clear hnx hny
  have hne : ((ny : Int) == 0) = false := by simp; omega
  go_enter Try.func17, Try.ntmps17
  go_wp2_with fail
  refine (short_any _ _ _ _ _ H.out (by omega)).mono ?_
  rw [HNX.out]
  rintro e w' ⟨rfl, rfl⟩
  go_wp2_with fail
  refine (short_any _ _ _ _ _ K.out (by omega)).mono ?_
  rw [HNY.out]
  rintro e w' ⟨rfl, rfl⟩
  go_wp2_with fail
  refine (clone_any _ _ _ _ _ HS.out (by omega)).mono ?_
  rintro e w1 ⟨A1, c1, rfl, ho1, hb1⟩
  go_wp2_with fail
  go_ret3
  exact ⟨none, 0, A1, c1, rfl, OwK.nil_ _ _, ho1, (fun _ _ h => by cases h), hb1⟩

end Go.Proofs.Ytbcceopgmkmbfaa
