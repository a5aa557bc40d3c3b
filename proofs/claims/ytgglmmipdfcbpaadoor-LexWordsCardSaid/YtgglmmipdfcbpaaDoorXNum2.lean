/-
  Numbers: lex.numberLong, walked.
-/
import Derived.Test.YtgglmmipdfcbpaaDoorXNum
namespace Go.Proofs.YtgglmmipdfcbpaaDoor
open Go.RowKit
set_option linter.unusedVariables false

set_option maxHeartbeats 2000000 in
theorem numberLong_0 (s : ByteArray) (w : World) (hs : s.size ≤ 1048576) (hpos : 0 < s.size) (q : (((s[0].toNat : Nat) : Int) == 45) = false) (HD0 : Hid (dash s 0 = 0)) :
    Calls Tryd.prog 31 #[.string s] w fun e w' => ∃ r : Nat, e = .returned (.int .i64 r) ∧ NumR s r ∧ w = w' := by
  have he : s.toList.isEmpty = false := by rw [toList_empty]; exact decide_eq_false (by omega)
  go_enter Tryd.func31, Tryd.ntmps31
  go_wp2
  go_loop [4] (fun i => ∃ k : Nat, 0 ≤ k ∧ k ≤ s.size ∧ i = .int .i64 k ∧ ∀ j, 0 ≤ j → j < k → digB (by_ s j) = true) (fun i => s.size - (intOf i).toNat)
  case atStart => exact ⟨0, Nat.le_refl _, by omega, rfl, fun j h1 h2 => by omega⟩
  case round =>
    obtain ⟨k, h1, hk, rfl, hd⟩ := hrel
    have HD := Lib.hid hd
    clear hd
    by_cases hkn : k < s.size
    · have hx := by_at hkn
      have HX := Lib.hid hx
      clear hx
      cases b : digB ((s[k].toNat : Nat) : Int) with
      | true =>
        have HN := Lib.hid (more HD.out (by rw [HX.out]; exact b))
        go_wp2_with (go_at_call 47; refine (digit_c _ _).mono ?_; rintro _ _ ⟨rfl, rfl⟩)
        go_round
        case rel => exact ⟨k + 1, by omega, by omega, by go_num, HN.out⟩
        case measure => simp [intOf]; omega
      | false =>
        have HE := Lib.hid (show IsEnd digB s 0 k from ⟨by omega, hk, HD.out, fun _ => by rw [HX.out]; exact b⟩)
        by_cases e : k = 0
        · subst e
          have HR := Lib.hid (show NumR s 0 from ⟨0, by rw [HD0.out]; exact HE.out, by rw [HD0.out]; simp⟩)
          go_wp2_with (go_at_call 47; refine (digit_c _ _).mono ?_; rintro _ _ ⟨rfl, rfl⟩)
          go_ret
          exact ⟨0, by go_num, HR.out, rfl⟩
        · have hne : (((k : Nat) : Int) == 0) = false := by simp; omega
          have hds : 0 < s.size := by omega
          have hy := by_at hds
          have HY := Lib.hid hy
          clear hy
          cases c : (((s[0].toNat : Nat) : Int) == 48) with
          | true =>
            have HR := Lib.hid (show NumR s 1 from ⟨k, by rw [HD0.out]; exact HE.out, by rw [HD0.out, if_neg e, if_pos (by rw [HY.out]; exact eq_of_beq c)]; rfl⟩)
            go_wp2_with (go_at_call 47; refine (digit_c _ _).mono ?_; rintro _ _ ⟨rfl, rfl⟩)
            go_ret
            exact ⟨1, by go_num, HR.out, rfl⟩
          | false =>
            have HR := Lib.hid (show NumR s k from ⟨k, by rw [HD0.out]; exact HE.out, by rw [HD0.out, if_neg e, if_neg (fun h => by rw [HY.out] at h; rw [h] at c; simp at c)]⟩)
            go_wp2_with (go_at_call 47; refine (digit_c _ _).mono ?_; rintro _ _ ⟨rfl, rfl⟩)
            go_ret
            exact ⟨k, by go_num, HR.out, rfl⟩
    ·
      have HE := Lib.hid (show IsEnd digB s 0 k from ⟨by omega, hk, HD.out, fun h => absurd h hkn⟩)
      by_cases e : k = 0
      · omega
      · have hne : (((k : Nat) : Int) == 0) = false := by simp; omega
        have hds : 0 < s.size := by omega
        have hy := by_at hds
        have HY := Lib.hid hy
        clear hy
        cases c : (((s[0].toNat : Nat) : Int) == 48) with
        | true =>
          have HR := Lib.hid (show NumR s 1 from ⟨k, by rw [HD0.out]; exact HE.out, by rw [HD0.out, if_neg e, if_pos (by rw [HY.out]; exact eq_of_beq c)]; rfl⟩)
          go_wp2_with (go_at_call 47; refine (digit_c _ _).mono ?_; rintro _ _ ⟨rfl, rfl⟩)
          go_ret
          exact ⟨1, by go_num, HR.out, rfl⟩
        | false =>
          have HR := Lib.hid (show NumR s k from ⟨k, by rw [HD0.out]; exact HE.out, by rw [HD0.out, if_neg e, if_neg (fun h => by rw [HY.out] at h; rw [h] at c; simp at c)]⟩)
          go_wp2_with (go_at_call 47; refine (digit_c _ _).mono ?_; rintro _ _ ⟨rfl, rfl⟩)
          go_ret
          exact ⟨k, by go_num, HR.out, rfl⟩
set_option maxHeartbeats 2000000 in
theorem numberLong_1 (s : ByteArray) (w : World) (hs : s.size ≤ 1048576) (hpos : 0 < s.size) (q : (((s[0].toNat : Nat) : Int) == 45) = true) (HD0 : Hid (dash s 0 = 1)) :
    Calls Tryd.prog 31 #[.string s] w fun e w' => ∃ r : Nat, e = .returned (.int .i64 r) ∧ NumR s r ∧ w = w' := by
  have he : s.toList.isEmpty = false := by rw [toList_empty]; exact decide_eq_false (by omega)
  go_enter Tryd.func31, Tryd.ntmps31
  go_wp2
  go_loop [4] (fun i => ∃ k : Nat, 1 ≤ k ∧ k ≤ s.size ∧ i = .int .i64 k ∧ ∀ j, 1 ≤ j → j < k → digB (by_ s j) = true) (fun i => s.size - (intOf i).toNat)
  case atStart => exact ⟨1, Nat.le_refl _, by omega, rfl, fun j h1 h2 => by omega⟩
  case round =>
    obtain ⟨k, h1, hk, rfl, hd⟩ := hrel
    have HD := Lib.hid hd
    clear hd
    by_cases hkn : k < s.size
    · have hx := by_at hkn
      have HX := Lib.hid hx
      clear hx
      cases b : digB ((s[k].toNat : Nat) : Int) with
      | true =>
        have HN := Lib.hid (more HD.out (by rw [HX.out]; exact b))
        go_wp2_with (go_at_call 47; refine (digit_c _ _).mono ?_; rintro _ _ ⟨rfl, rfl⟩)
        go_round
        case rel => exact ⟨k + 1, by omega, by omega, by go_num, HN.out⟩
        case measure => simp [intOf]; omega
      | false =>
        have HE := Lib.hid (show IsEnd digB s 1 k from ⟨by omega, hk, HD.out, fun _ => by rw [HX.out]; exact b⟩)
        by_cases e : k = 1
        · subst e
          have HR := Lib.hid (show NumR s 0 from ⟨1, by rw [HD0.out]; exact HE.out, by rw [HD0.out]; simp⟩)
          go_wp2_with (go_at_call 47; refine (digit_c _ _).mono ?_; rintro _ _ ⟨rfl, rfl⟩)
          go_ret
          exact ⟨0, by go_num, HR.out, rfl⟩
        · have hne : (((k : Nat) : Int) == 1) = false := by simp; omega
          have hds : 1 < s.size := by omega
          have hy := by_at hds
          have HY := Lib.hid hy
          clear hy
          cases c : (((s[1].toNat : Nat) : Int) == 48) with
          | true =>
            have HR := Lib.hid (show NumR s 0 from ⟨k, by rw [HD0.out]; exact HE.out, by rw [HD0.out, if_neg e, if_pos (by rw [HY.out]; exact eq_of_beq c)]; rfl⟩)
            go_wp2_with (go_at_call 47; refine (digit_c _ _).mono ?_; rintro _ _ ⟨rfl, rfl⟩)
            go_ret
            exact ⟨0, by go_num, HR.out, rfl⟩
          | false =>
            have HR := Lib.hid (show NumR s k from ⟨k, by rw [HD0.out]; exact HE.out, by rw [HD0.out, if_neg e, if_neg (fun h => by rw [HY.out] at h; rw [h] at c; simp at c)]⟩)
            go_wp2_with (go_at_call 47; refine (digit_c _ _).mono ?_; rintro _ _ ⟨rfl, rfl⟩)
            go_ret
            exact ⟨k, by go_num, HR.out, rfl⟩
    ·
      have HE := Lib.hid (show IsEnd digB s 1 k from ⟨by omega, hk, HD.out, fun h => absurd h hkn⟩)
      by_cases e : k = 1
      · subst e
        have HR := Lib.hid (show NumR s 0 from ⟨1, by rw [HD0.out]; exact HE.out, by rw [HD0.out]; simp⟩)
        go_wp2_with (go_at_call 47; refine (digit_c _ _).mono ?_; rintro _ _ ⟨rfl, rfl⟩)
        go_ret
        exact ⟨0, by go_num, HR.out, rfl⟩
      · have hne : (((k : Nat) : Int) == 1) = false := by simp; omega
        have hds : 1 < s.size := by omega
        have hy := by_at hds
        have HY := Lib.hid hy
        clear hy
        cases c : (((s[1].toNat : Nat) : Int) == 48) with
        | true =>
          have HR := Lib.hid (show NumR s 0 from ⟨k, by rw [HD0.out]; exact HE.out, by rw [HD0.out, if_neg e, if_pos (by rw [HY.out]; exact eq_of_beq c)]; rfl⟩)
          go_wp2_with (go_at_call 47; refine (digit_c _ _).mono ?_; rintro _ _ ⟨rfl, rfl⟩)
          go_ret
          exact ⟨0, by go_num, HR.out, rfl⟩
        | false =>
          have HR := Lib.hid (show NumR s k from ⟨k, by rw [HD0.out]; exact HE.out, by rw [HD0.out, if_neg e, if_neg (fun h => by rw [HY.out] at h; rw [h] at c; simp at c)]⟩)
          go_wp2_with (go_at_call 47; refine (digit_c _ _).mono ?_; rintro _ _ ⟨rfl, rfl⟩)
          go_ret
          exact ⟨k, by go_num, HR.out, rfl⟩
end Go.Proofs.YtgglmmipdfcbpaaDoor
