/-
  Numbers: litmusref05.number, walked.
-/
import Derived.Test.YtgglmmipdfcbpaaDoorXNum2
namespace Go.Proofs.YtgglmmipdfcbpaaDoor
open Go.RowKit
set_option linter.unusedVariables false
/-- How many bytes from a place on are digits, with a - maybe. -/
def NumAt (s : ByteArray) (a r : Nat) : Prop := ∃ k, IsEnd digB s (a + dash s a) k ∧ r = if k = a + dash s a then 0 else k - a

set_option maxHeartbeats 2000000 in
theorem numR_0 (s : ByteArray) (a : Nat) (w : World) (hs : s.size ≤ 1048576) (q : a < s.size) (qq : (((s[a].toNat : Nat) : Int) == 45) = false) (HD0 : Hid (dash s a = 0)) :
    Calls Tryd.prog 32 #[.string s, .int .i64 a] w fun e w' => ∃ r : Nat, e = .returned (.int .i64 r) ∧ NumAt s a r ∧ w = w' := by
  have hle : a ≤ s.size := by omega
  have hlt : decide (a < s.size) = true := by simp; omega
  go_enter Tryd.func32, Tryd.ntmps32
  go_wp2
  go_loop [5] (fun i => ∃ k : Nat, a + 0 ≤ k ∧ k ≤ s.size ∧ i = .int .i64 k ∧ ∀ j, a + 0 ≤ j → j < k → digB (by_ s j) = true) (fun i => s.size - (intOf i).toNat)
  case atStart => exact ⟨a + 0, Nat.le_refl _, by omega, by go_num, fun j h1 h2 => by omega⟩
  case round =>
    obtain ⟨k, h1, hk, rfl, hd⟩ := hrel
    have HD := Lib.hid hd
    clear hd
    by_cases hkn : k < s.size
    · have hx := by_at hkn
      have HX := Lib.hid hx
      clear hx
      cases b : digB ((s[k].toNat : Nat) : Int) with
      | true =>
        have HN := Lib.hid (more HD.out (by rw [HX.out]; exact b))
        go_wp2_with (go_at_call 42; refine (digitR_c _ _).mono ?_; rintro _ _ ⟨rfl, rfl⟩)
        go_round
        case rel => exact ⟨k + 1, by omega, by omega, by go_num, HN.out⟩
        case measure => simp [intOf]; omega
      | false =>
        have HE := Lib.hid (show IsEnd digB s (a + 0) k from ⟨by omega, hk, HD.out, fun _ => by rw [HX.out]; exact b⟩)
        by_cases e : k = a + 0
        · obtain rfl : a = k := by omega
          have HR := Lib.hid (show NumAt s a 0 from ⟨a + 0, by rw [HD0.out]; exact HE.out, by rw [HD0.out]; simp⟩)
          clear h1 e
          go_wp2_with (go_at_call 42; refine (digitR_c _ _).mono ?_; rintro _ _ ⟨rfl, rfl⟩)
          go_ret
          exact ⟨0, by go_num, HR.out, rfl⟩
        · have hne : (((k : Nat) : Int) == ((a : Nat) : Int)) = false := by simp; omega
          have HR := Lib.hid (show NumAt s a (k - a) from ⟨k, by rw [HD0.out]; exact HE.out, by rw [HD0.out, if_neg e]⟩)
          go_wp2_with (go_at_call 42; refine (digitR_c _ _).mono ?_; rintro _ _ ⟨rfl, rfl⟩)
          go_ret
          exact ⟨k - a, by go_num, HR.out, rfl⟩
    ·
      have HE := Lib.hid (show IsEnd digB s (a + 0) k from ⟨by omega, hk, HD.out, fun h => absurd h hkn⟩)
      by_cases e : k = a + 0
      · omega
      · have hne : (((k : Nat) : Int) == ((a : Nat) : Int)) = false := by simp; omega
        have HR := Lib.hid (show NumAt s a (k - a) from ⟨k, by rw [HD0.out]; exact HE.out, by rw [HD0.out, if_neg e]⟩)
        go_wp2_with (go_at_call 42; refine (digitR_c _ _).mono ?_; rintro _ _ ⟨rfl, rfl⟩)
        go_ret
        exact ⟨k - a, by go_num, HR.out, rfl⟩
set_option maxHeartbeats 2000000 in
theorem numR_1 (s : ByteArray) (a : Nat) (w : World) (hs : s.size ≤ 1048576) (q : a < s.size) (qq : (((s[a].toNat : Nat) : Int) == 45) = true) (HD0 : Hid (dash s a = 1)) :
    Calls Tryd.prog 32 #[.string s, .int .i64 a] w fun e w' => ∃ r : Nat, e = .returned (.int .i64 r) ∧ NumAt s a r ∧ w = w' := by
  have hle : a ≤ s.size := by omega
  have hlt : decide (a < s.size) = true := by simp; omega
  go_enter Tryd.func32, Tryd.ntmps32
  go_wp2
  go_loop [5] (fun i => ∃ k : Nat, a + 1 ≤ k ∧ k ≤ s.size ∧ i = .int .i64 k ∧ ∀ j, a + 1 ≤ j → j < k → digB (by_ s j) = true) (fun i => s.size - (intOf i).toNat)
  case atStart => exact ⟨a + 1, Nat.le_refl _, by omega, by go_num, fun j h1 h2 => by omega⟩
  case round =>
    obtain ⟨k, h1, hk, rfl, hd⟩ := hrel
    have HD := Lib.hid hd
    clear hd
    by_cases hkn : k < s.size
    · have hx := by_at hkn
      have HX := Lib.hid hx
      clear hx
      cases b : digB ((s[k].toNat : Nat) : Int) with
      | true =>
        have HN := Lib.hid (more HD.out (by rw [HX.out]; exact b))
        go_wp2_with (go_at_call 42; refine (digitR_c _ _).mono ?_; rintro _ _ ⟨rfl, rfl⟩)
        go_round
        case rel => exact ⟨k + 1, by omega, by omega, by go_num, HN.out⟩
        case measure => simp [intOf]; omega
      | false =>
        have HE := Lib.hid (show IsEnd digB s (a + 1) k from ⟨by omega, hk, HD.out, fun _ => by rw [HX.out]; exact b⟩)
        by_cases e : k = a + 1
        · subst e
          have HR := Lib.hid (show NumAt s a 0 from ⟨a + 1, by rw [HD0.out]; exact HE.out, by rw [HD0.out]; simp⟩)
          go_wp2_with (go_at_call 42; refine (digitR_c _ _).mono ?_; rintro _ _ ⟨rfl, rfl⟩)
          go_ret
          exact ⟨0, by go_num, HR.out, rfl⟩
        · have hne : (((k : Nat) : Int) == ((a : Nat) : Int) + 1) = false := by simp; omega
          have HR := Lib.hid (show NumAt s a (k - a) from ⟨k, by rw [HD0.out]; exact HE.out, by rw [HD0.out, if_neg e]⟩)
          go_wp2_with (go_at_call 42; refine (digitR_c _ _).mono ?_; rintro _ _ ⟨rfl, rfl⟩)
          go_ret
          exact ⟨k - a, by go_num, HR.out, rfl⟩
    ·
      have HE := Lib.hid (show IsEnd digB s (a + 1) k from ⟨by omega, hk, HD.out, fun h => absurd h hkn⟩)
      by_cases e : k = a + 1
      · subst e
        have HR := Lib.hid (show NumAt s a 0 from ⟨a + 1, by rw [HD0.out]; exact HE.out, by rw [HD0.out]; simp⟩)
        go_wp2_with (go_at_call 42; refine (digitR_c _ _).mono ?_; rintro _ _ ⟨rfl, rfl⟩)
        go_ret
        exact ⟨0, by go_num, HR.out, rfl⟩
      · have hne : (((k : Nat) : Int) == ((a : Nat) : Int) + 1) = false := by simp; omega
        have HR := Lib.hid (show NumAt s a (k - a) from ⟨k, by rw [HD0.out]; exact HE.out, by rw [HD0.out, if_neg e]⟩)
        go_wp2_with (go_at_call 42; refine (digitR_c _ _).mono ?_; rintro _ _ ⟨rfl, rfl⟩)
        go_ret
        exact ⟨k - a, by go_num, HR.out, rfl⟩
theorem numR_2 (s : ByteArray) (w : World) (hs : s.size ≤ 1048576) : Calls Tryd.prog 32 #[.string s, .int .i64 s.size] w fun e w' => ∃ r : Nat, e = .returned (.int .i64 r) ∧ NumAt s s.size r ∧ w = w' := by
  have hd : dash s s.size = 0 := by unfold dash; rw [by_out (Nat.le_refl _)]; rfl
  have HR := Lib.hid (show NumAt s s.size 0 from ⟨s.size, by rw [hd]; exact ⟨Nat.le_refl _, Nat.le_refl _, fun j h1 h2 => by omega, fun h => absurd h (Nat.lt_irrefl _)⟩, by rw [hd]; simp⟩)
  clear hd
  go_enter Tryd.func32, Tryd.ntmps32
  go_wp2
  refine wp_loop_rounds 1 ?_
  rw [rounds_succ]
  go_wp2
  go_ret
  exact ⟨0, by go_num, HR.out, rfl⟩
theorem numR_c (s : ByteArray) (a : Nat) (w : World) (hs : s.size ≤ 1048576) (ha : a ≤ s.size) : Calls Tryd.prog 32 #[.string s, .int .i64 a] w fun e w' => ∃ r : Nat, e = .returned (.int .i64 r) ∧ NumAt s a r ∧ w = w' := by
  by_cases h : a < s.size
  · cases q : (((s[a].toNat : Nat) : Int) == 45) with
    | true => exact numR_1 s a w hs h q (by unfold dash; rw [by_at h, if_pos (eq_of_beq q)]; exact rfl)
    | false => exact numR_0 s a w hs h q (by unfold dash; rw [by_at h, if_neg (fun e => by rw [e] at q; simp at q)]; exact rfl)
  · obtain rfl : s.size = a := by omega
    exact numR_2 s w hs

end Go.Proofs.YtgglmmipdfcbpaaDoor
