/- litmusref01.Same, same, few, sub2: for every slice of limbs. -/
import Derived.Test.YtbcceopgmkmbfaaWSmall
namespace Go.Proofs.Ytbcceopgmkmbfaa
open Go.RowKit
set_option linter.unusedVariables false

theorem take_snoc_eq {α : Type} {xs ys : List α} {k : Nat} {x y : α} (h : xs.take k = ys.take k) (hx : xs[k]? = some x) (hy : ys[k]? = some y) (e : x = y) : xs.take (k + 1) = ys.take (k + 1) := by
  rw [List.take_add_one, List.take_add_one, h, hx, hy, e]

theorem below_drewN {B : Nat} {a w : World} (h : Below B a w) (n : Nat) : Below B a (w.drewN n) := ⟨h.os, h.tape, h.output, h.size, h.block⟩

set_option maxHeartbeats 1000000 in
theorem Same_any (A : Option Addr) (n c : Nat) (xs : List Nat) (B : Option Addr) (m d : Nat) (ys : List Nat) (w : World) (h : Rd w A n c xs) (k : Rd w B m d ys) (hm : n ≤ 4194304) (hm' : m ≤ 4194304) :
    Calls Try.prog 19 #[.slice A n c, .slice B m d] w fun e w' => e = .returned (.bool (decide (xs = ys))) ∧ Below w.heap.size w w' := by
  have H := Lib.hid h
  have K := Lib.hid k
  clear h k
  by_cases hnm : n = m
  · have hne : (((n : Nat) : Int) != (m : Int)) = false := by simp [hnm]
    subst hnm
    go_enter Try.func19, Try.ntmps19
    go_wp2
    go_loopw [5] (fun i wr => ∃ k : Nat, k ≤ n ∧ i = .int .i64 k ∧ xs.take k = ys.take k ∧ Below w.heap.size w wr) (fun i _ => n - (intOf i).toNat)
    case atStart => exact ⟨0, Nat.zero_le _, rfl, rfl, Below.refl _ _⟩
    case round =>
      obtain ⟨k, hk, rfl, ht, hb⟩ := hrel
      have HT := Lib.hid ht
      have HB := Lib.hid hb
      clear ht hb
      by_cases hkn : k < n
      · obtain ⟨b, o, x, hA, hx, hxl, hcell⟩ := (H.out.below HB.out).at32 hkn
        obtain ⟨b', o', y, hA', hy, hyl, hcell'⟩ := (K.out.below HB.out).at32 hkn
        subst hA hA'
        have HX := Lib.hid hx
        have HY := Lib.hid hy
        clear hx hy
        by_cases hxy : x = y
        · have hne2 : ((x : Int) != (y : Int)) = false := by simp [hxy]
          go_wp2
          go_quiet (fail)
          go_wp2
          go_roundw
          case rel => exact ⟨k + 1, by omega, by go_num, take_snoc_eq HT.out HX.out HY.out hxy, below_drewN HB.out _⟩
          case measure => simp [intOf]; omega
        · have hne2 : ((x : Int) != (y : Int)) = true := by simp; omega
          go_wp2
          go_quiet (fail)
          go_wp2
          go_ret
          refine ⟨ret_bool ?_, below_drewN HB.out _⟩
          symm
          rw [decide_eq_false_iff_not]
          intro e
          rw [e, HY.out] at HX
          exact hxy (Option.some.inj HX.out).symm
      · go_wp2
        go_ret
        refine ⟨ret_bool ?_, HB.out⟩
        symm
        rw [decide_eq_true_iff]
        have h1 := HT.out
        rw [List.take_of_length_le (by rw [H.out.len]; omega), List.take_of_length_le (by rw [K.out.len]; omega)] at h1
        exact h1
  · have hne : (((n : Nat) : Int) != (m : Int)) = true := by simp; omega
    go_enter Try.func19, Try.ntmps19
    go_wp2
    go_ret
    refine ⟨ret_bool ?_, Below.refl _ _⟩
    symm
    rw [decide_eq_false_iff_not]
    intro e
    have := H.out.len
    have := K.out.len
    rw [e] at *
    omega

set_option maxHeartbeats 400000 in
theorem same_any (A : Option Addr) (n c : Nat) (xs : List Nat) (B : Option Addr) (m d : Nat) (ys : List Nat) (w : World) (h : Rd w A n c xs) (k : Rd w B m d ys) (hm : n ≤ 4194304) (hm' : m ≤ 4194304) :
    Calls Try.prog 35 #[.slice A n c, .slice B m d] w fun e w' => e = .returned (.bool (decide (xs = ys))) ∧ Below w.heap.size w w' := by
  have H := Lib.hid h
  have K := Lib.hid k
  clear h k
  go_enter Try.func35, Try.ntmps35
  go_wp2_with fail
  refine (Same_any _ _ _ _ _ _ _ _ _ H.out K.out hm hm').mono ?_
  rintro e w' ⟨rfl, hb⟩
  go_wp2
  go_ret
  exact ⟨rfl, hb⟩

set_option maxHeartbeats 400000 in
theorem few_any (A : Option Addr) (n c : Nat) (xs : List Nat) (k : Int) (w : World) (h : Rd w A n c xs) (hm : n ≤ maxLen) (h0 : 0 ≤ k) (h1 : k ≤ 100) :
    Calls Try.prog 14 #[.slice A n c, .int .i64 k] w fun e w' => e = .returned (.slice A (min n k.toNat) c) ∧ w = w' := by
  unfold maxLen at hm
  have hc := h.cap
  clear h
  by_cases hk : (n : Int) < k
  · have e : min n k.toNat = n := by omega
    rw [e]
    go_enter Try.func14, Try.ntmps14
    go_wp2
    go_ret
    exact ⟨rfl, rfl⟩
  · have e : min n k.toNat = k.toNat := by omega
    rw [e]
    go_enter Try.func14, Try.ntmps14
    go_wp2
    all_goals
      go_ret
      exact ⟨ret_slice (by omega), rfl⟩

end Go.Proofs.Ytbcceopgmkmbfaa
