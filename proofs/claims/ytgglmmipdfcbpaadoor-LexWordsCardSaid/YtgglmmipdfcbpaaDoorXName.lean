/-
  Names: lex.nameLong, lex.Name.
-/
import Derived.Test.YtgglmmipdfcbpaaDoorXByte
namespace Go.Proofs.YtgglmmipdfcbpaaDoor
open Go.RowKit
set_option linter.unusedVariables false

/-- From a on, where the first byte stands that is not so. -/
def IsEnd (p : Int → Bool) (s : ByteArray) (a k : Nat) : Prop := a ≤ k ∧ k ≤ s.size ∧ (∀ j, a ≤ j → j < k → p (by_ s j) = true) ∧ (k < s.size → p (by_ s k) = false)
/-- How many bytes at a text's start are a name. -/
def NameR (s : ByteArray) (r : Nat) : Prop := (s.size = 0 ∧ r = 0) ∨ (0 < s.size ∧ letB (by_ s 0) = false ∧ r = 0) ∨ (0 < s.size ∧ letB (by_ s 0) = true ∧ ∃ k, IsEnd wordB s 1 k ∧ r = if k < s.size ∧ by_ s k = 63 then k + 1 else k)

theorem more {p : Int → Bool} {s : ByteArray} {a k : Nat} (h : ∀ j, a ≤ j → j < k → p (by_ s j) = true) (hk : p (by_ s k) = true) : ∀ j, a ≤ j → j < k + 1 → p (by_ s j) = true := fun j h1 h2 => by
  by_cases e : j = k
  · subst e; exact hk
  · exact h j h1 (by omega)
set_option maxHeartbeats 2000000 in
theorem nameLong_c (s : ByteArray) (w : World) (hs : s.size ≤ 1048576) : Calls Tryd.prog 29 #[.string s] w fun e w' => ∃ r : Nat, e = .returned (.int .i64 r) ∧ NameR s r ∧ w = w' := by
  by_cases h0 : s.size = 0
  · have he : s.toList.isEmpty = true := by rw [toList_empty]; simp [h0]
    go_enter Tryd.func29, Tryd.ntmps29
    go_wp2
    go_ret
    exact ⟨0, rfl, .inl ⟨h0, rfl⟩, rfl⟩
  · have he : s.toList.isEmpty = false := by rw [toList_empty]; simp [h0]
    have hpos : 0 < s.size := by omega
    have hb := by_at hpos
    cases hl : letB ((s[0].toNat : Nat) : Int) with
    | false =>
      have HB := Lib.hid (show letB (by_ s 0) = false by rw [hb]; exact hl)
      clear hb
      go_enter Tryd.func29, Tryd.ntmps29
      go_wp2_with (go_at_call 46; refine (letter_c _ _).mono ?_; rintro _ _ ⟨rfl, rfl⟩)
      go_ret
      exact ⟨0, rfl, .inr (.inl ⟨hpos, HB.out, rfl⟩), rfl⟩
    | true =>
      have HB := Lib.hid (show letB (by_ s 0) = true by rw [hb]; exact hl)
      clear hb
      go_enter Tryd.func29, Tryd.ntmps29
      go_wp2_with (go_at_call 46; refine (letter_c _ _).mono ?_; rintro _ _ ⟨rfl, rfl⟩)
      go_loop [3] (fun i => ∃ k : Nat, 1 ≤ k ∧ k ≤ s.size ∧ i = .int .i64 k ∧ ∀ j, 1 ≤ j → j < k → wordB (by_ s j) = true) (fun i => s.size - (intOf i).toNat)
      case atStart => exact ⟨1, Nat.le_refl _, hpos, rfl, fun j h1 h2 => by omega⟩
      case round =>
        obtain ⟨k, h1, hk, rfl, hd⟩ := hrel
        have HD := Lib.hid hd
        clear hd
        by_cases hkn : k < s.size
        · have hx := by_at hkn
          have HX := Lib.hid hx
          clear hx
          cases a : letB ((s[k].toNat : Nat) : Int) with
          | true =>
            have HN := Lib.hid (more HD.out (by rw [HX.out]; simp [wordB, a]))
            go_wp2_with (first | (go_at_call 46; refine (letter_c _ _).mono ?_; rintro _ _ ⟨rfl, rfl⟩) | (go_at_call 47; refine (digit_c _ _).mono ?_; rintro _ _ ⟨rfl, rfl⟩))
            go_round
            case rel => exact ⟨k + 1, by omega, by omega, by go_num, HN.out⟩
            case measure => simp [intOf]; omega
          | false =>
            cases b : digB ((s[k].toNat : Nat) : Int) with
            | true =>
              have HN := Lib.hid (more HD.out (by rw [HX.out]; simp [wordB, b]))
              go_wp2_with (first | (go_at_call 46; refine (letter_c _ _).mono ?_; rintro _ _ ⟨rfl, rfl⟩) | (go_at_call 47; refine (digit_c _ _).mono ?_; rintro _ _ ⟨rfl, rfl⟩))
              go_round
              case rel => exact ⟨k + 1, by omega, by omega, by go_num, HN.out⟩
              case measure => simp [intOf]; omega
            | false =>
              cases c : (((s[k].toNat : Nat) : Int) == 95) with
              | true =>
                have HN := Lib.hid (more HD.out (by rw [HX.out]; simp [wordB, c]))
                go_wp2_with (first | (go_at_call 46; refine (letter_c _ _).mono ?_; rintro _ _ ⟨rfl, rfl⟩) | (go_at_call 47; refine (digit_c _ _).mono ?_; rintro _ _ ⟨rfl, rfl⟩))
                go_round
                case rel => exact ⟨k + 1, by omega, by omega, by go_num, HN.out⟩
                case measure => simp [intOf]; omega
              | false =>
                have HE := Lib.hid (show IsEnd wordB s 1 k from ⟨h1, hk, HD.out, fun _ => by rw [HX.out]; simp [wordB, a, b, c]⟩)
                cases q : (((s[k].toNat : Nat) : Int) == 63) with
                | true =>
                  have HR := Lib.hid (show NameR s (k + 1) from .inr (.inr ⟨hpos, HB.out, k, HE.out, by rw [if_pos ⟨hkn, by rw [HX.out]; exact eq_of_beq q⟩]⟩))
                  go_wp2_with (first | (go_at_call 46; refine (letter_c _ _).mono ?_; rintro _ _ ⟨rfl, rfl⟩) | (go_at_call 47; refine (digit_c _ _).mono ?_; rintro _ _ ⟨rfl, rfl⟩))
                  go_ret
                  exact ⟨k + 1, by go_num, HR.out, rfl⟩
                | false =>
                  have HR := Lib.hid (show NameR s k from .inr (.inr ⟨hpos, HB.out, k, HE.out, by rw [if_neg (fun h => by rw [HX.out] at h; rw [h.2] at q; simp at q)]⟩))
                  go_wp2_with (first | (go_at_call 46; refine (letter_c _ _).mono ?_; rintro _ _ ⟨rfl, rfl⟩) | (go_at_call 47; refine (digit_c _ _).mono ?_; rintro _ _ ⟨rfl, rfl⟩))
                  go_ret
                  exact ⟨k, by go_num, HR.out, rfl⟩
        · have HR := Lib.hid (show NameR s k from .inr (.inr ⟨hpos, HB.out, k, ⟨h1, hk, HD.out, fun h => absurd h hkn⟩, by rw [if_neg (fun h => hkn h.1)]⟩))
          go_wp2
          go_ret
          exact ⟨k, by go_num, HR.out, rfl⟩
end Go.Proofs.YtgglmmipdfcbpaaDoor
