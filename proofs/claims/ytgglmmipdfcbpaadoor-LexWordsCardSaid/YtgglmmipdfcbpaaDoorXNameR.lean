/-
  Names: litmusref05.name, litmusref05.Name, lex.Name.
-/
import Derived.Test.YtgglmmipdfcbpaaDoorXName
namespace Go.Proofs.YtgglmmipdfcbpaaDoor
open Go.RowKit
set_option linter.unusedVariables false

/-- How many bytes from a place on are a name. -/
def NameAt (s : ByteArray) (a r : Nat) : Prop := (s.size ≤ a ∧ r = 0) ∨ (a < s.size ∧ letB (by_ s a) = false ∧ r = 0) ∨ (a < s.size ∧ letB (by_ s a) = true ∧ ∃ k, IsEnd wordB s (a + 1) k ∧ r + a = if k < s.size ∧ by_ s k = 63 then k + 1 else k)

set_option maxHeartbeats 2000000 in
theorem nameR_c (s : ByteArray) (a : Nat) (w : World) (hs : s.size ≤ 1048576) (ha : a ≤ 1048576) : Calls Tryd.prog 30 #[.string s, .int .i64 a] w fun e w' => ∃ r : Nat, e = .returned (.int .i64 r) ∧ NameAt s a r ∧ w = w' := by
  by_cases h0 : a < s.size
  · have hb := by_at h0
    have hge : decide (s.size ≤ a) = false := decide_eq_false (by omega)
    have hle : ¬ s.size ≤ a := by omega
    cases hl : letB ((s[a].toNat : Nat) : Int) with
    | false =>
      have HB := Lib.hid (show letB (by_ s a) = false by rw [hb]; exact hl)
      clear hb
      go_enter Tryd.func30, Tryd.ntmps30
      go_wp2_with (go_at_call 43; refine (letterR_c _ _).mono ?_; rintro _ _ ⟨rfl, rfl⟩)
      go_ret
      exact ⟨0, rfl, .inr (.inl ⟨h0, HB.out, rfl⟩), rfl⟩
    | true =>
      have HB := Lib.hid (show letB (by_ s a) = true by rw [hb]; exact hl)
      clear hb
      go_enter Tryd.func30, Tryd.ntmps30
      go_wp2_with (go_at_call 43; refine (letterR_c _ _).mono ?_; rintro _ _ ⟨rfl, rfl⟩)
      go_loop [5] (fun i => ∃ k : Nat, a + 1 ≤ k ∧ k ≤ s.size ∧ i = .int .i64 k ∧ ∀ j, a + 1 ≤ j → j < k → wordB (by_ s j) = true) (fun i => s.size - (intOf i).toNat)
      case atStart => exact ⟨a + 1, Nat.le_refl _, h0, by go_num, fun j h1 h2 => by omega⟩
      case round =>
        obtain ⟨k, h1, hk, rfl, hd⟩ := hrel
        have HD := Lib.hid hd
        clear hd
        by_cases hkn : k < s.size
        · have hx := by_at hkn
          have HX := Lib.hid hx
          clear hx
          cases a1 : letB ((s[k].toNat : Nat) : Int) with
          | true =>
            have HN := Lib.hid (more HD.out (by rw [HX.out]; simp [wordB, a1]))
            go_wp2_with (first | (go_at_call 43; refine (letterR_c _ _).mono ?_; rintro _ _ ⟨rfl, rfl⟩) | (go_at_call 42; refine (digitR_c _ _).mono ?_; rintro _ _ ⟨rfl, rfl⟩))
            go_round
            case rel => exact ⟨k + 1, by omega, by omega, by go_num, HN.out⟩
            case measure => simp [intOf]; omega
          | false =>
            cases b1 : digB ((s[k].toNat : Nat) : Int) with
            | true =>
              have HN := Lib.hid (more HD.out (by rw [HX.out]; simp [wordB, b1]))
              go_wp2_with (first | (go_at_call 43; refine (letterR_c _ _).mono ?_; rintro _ _ ⟨rfl, rfl⟩) | (go_at_call 42; refine (digitR_c _ _).mono ?_; rintro _ _ ⟨rfl, rfl⟩))
              go_round
              case rel => exact ⟨k + 1, by omega, by omega, by go_num, HN.out⟩
              case measure => simp [intOf]; omega
            | false =>
              cases c1 : (((s[k].toNat : Nat) : Int) == 95) with
              | true =>
                have HN := Lib.hid (more HD.out (by rw [HX.out]; simp [wordB, c1]))
                go_wp2_with (first | (go_at_call 43; refine (letterR_c _ _).mono ?_; rintro _ _ ⟨rfl, rfl⟩) | (go_at_call 42; refine (digitR_c _ _).mono ?_; rintro _ _ ⟨rfl, rfl⟩))
                go_round
                case rel => exact ⟨k + 1, by omega, by omega, by go_num, HN.out⟩
                case measure => simp [intOf]; omega
              | false =>
                have HE := Lib.hid (show IsEnd wordB s (a + 1) k from ⟨h1, hk, HD.out, fun _ => by rw [HX.out]; simp [wordB, a1, b1, c1]⟩)
                cases q : (((s[k].toNat : Nat) : Int) == 63) with
                | true =>
                  have HR := Lib.hid (show NameAt s a (k + 1 - a) from .inr (.inr ⟨h0, HB.out, k, HE.out, by rw [if_pos ⟨hkn, by rw [HX.out]; exact eq_of_beq q⟩]; omega⟩))
                  go_wp2_with (first | (go_at_call 43; refine (letterR_c _ _).mono ?_; rintro _ _ ⟨rfl, rfl⟩) | (go_at_call 42; refine (digitR_c _ _).mono ?_; rintro _ _ ⟨rfl, rfl⟩))
                  go_ret
                  exact ⟨k + 1 - a, by go_num, HR.out, rfl⟩
                | false =>
                  have HR := Lib.hid (show NameAt s a (k - a) from .inr (.inr ⟨h0, HB.out, k, HE.out, by rw [if_neg (fun h => by rw [HX.out] at h; rw [h.2] at q; simp at q)]; omega⟩))
                  go_wp2_with (first | (go_at_call 43; refine (letterR_c _ _).mono ?_; rintro _ _ ⟨rfl, rfl⟩) | (go_at_call 42; refine (digitR_c _ _).mono ?_; rintro _ _ ⟨rfl, rfl⟩))
                  go_ret
                  exact ⟨k - a, by go_num, HR.out, rfl⟩
        · have HR := Lib.hid (show NameAt s a (k - a) from .inr (.inr ⟨h0, HB.out, k, ⟨h1, hk, HD.out, fun h => absurd h hkn⟩, by rw [if_neg (fun h => hkn h.1)]; omega⟩))
          go_wp2
          go_ret
          exact ⟨k - a, by go_num, HR.out, rfl⟩
  · go_enter Tryd.func30, Tryd.ntmps30
    go_wp2
    go_ret
    exact ⟨0, rfl, .inl ⟨by omega, rfl⟩, rfl⟩

theorem IsEnd.uniq {p : Int → Bool} {s : ByteArray} {a k k' : Nat} (h : IsEnd p s a k) (h' : IsEnd p s a k') : k = k' := by
  rcases Nat.lt_trichotomy k k' with e | e | e
  · have h1 := h'.2.2.1 k h.1 e
    rw [h.2.2.2 (Nat.lt_of_lt_of_le e h'.2.1)] at h1
    cases h1
  · exact e
  · have h1 := h.2.2.1 k' h'.1 e
    rw [h'.2.2.2 (Nat.lt_of_lt_of_le e h.2.1)] at h1
    cases h1
theorem NameAt.same {s : ByteArray} {r r' : Nat} (h : NameR s r) (h' : NameAt s 0 r') : r = r' := by
  rcases h with ⟨a, b⟩ | ⟨a, b, c⟩ | ⟨a, b, k, c, d⟩ <;> rcases h' with ⟨a', b'⟩ | ⟨a', b', c'⟩ | ⟨a', b', k', c', d'⟩
  · omega
  · omega
  · omega
  · omega
  · omega
  · rw [b] at b'; cases b'
  · omega
  · rw [b] at b'; cases b'
  · have := c.uniq c'
    subst this
    omega
theorem NameR.at {s : ByteArray} {r : Nat} (h : NameR s r) : NameAt s 0 r := by
  rcases h with ⟨a, b⟩ | ⟨a, b, c⟩ | ⟨a, b, k, c, d⟩
  · exact .inl ⟨by omega, b⟩
  · exact .inr (.inl ⟨a, b, c⟩)
  · exact .inr (.inr ⟨a, b, k, c, d⟩)
theorem NameAt.low {s : ByteArray} {r : Nat} (h : NameAt s 0 r) : NameR s r := by
  rcases h with ⟨a, b⟩ | ⟨a, b, c⟩ | ⟨a, b, k, c, d⟩
  · exact .inl ⟨by omega, b⟩
  · exact .inr (.inl ⟨a, b, c⟩)
  · exact .inr (.inr ⟨a, b, k, c, d⟩)
theorem NameR.only {s : ByteArray} {r r' : Nat} (h : NameR s r) (h' : NameR s r') : r = r' := NameAt.same h h'.at
/-- Is a text a name? -/
def isName (s : ByteArray) : Prop := 0 < s.size ∧ NameR s s.size
theorem nameL_c (s : ByteArray) (w : World) (hs : s.size ≤ 1048576) : Calls Tryd.prog 16 #[.string s] w fun e w' => (∃ b : Bool, e = .returned (.bool b) ∧ (b = true ↔ isName s)) ∧ w = w' := by
  by_cases h0 : s.size = 0
  · have he : s.toList.isEmpty = true := by rw [toList_empty]; simp [h0]
    go_enter Tryd.func16, Tryd.ntmps16
    go_wp2
    go_ret
    exact ⟨⟨_, rfl, by simp [isName, h0]⟩, rfl⟩
  · have he : s.toList.isEmpty = false := by rw [toList_empty]; simp [h0]
    go_enter Tryd.func16, Tryd.ntmps16
    go_wp2_with (go_at_call 29; refine (nameLong_c s _ hs).mono ?_; rintro _ _ ⟨r, rfl, hr, rfl⟩; have HR := Lib.hid hr; clear hr)
    go_ret
    refine ⟨⟨_, rfl, ?_⟩, rfl⟩
    rw [beq_iff_eq]
    constructor
    · intro e
      exact ⟨by omega, (show r = s.size by omega) ▸ HR.out⟩
    · intro e
      rw [e.2.only HR.out]
theorem nameN_c (s : ByteArray) (w : World) (hs : s.size ≤ 1048576) : Calls Tryd.prog 17 #[.string s] w fun e w' => (∃ b : Bool, e = .returned (.bool b) ∧ (b = true ↔ isName s)) ∧ w = w' := by
  by_cases h0 : s.size = 0
  · have he : s.toList.isEmpty = true := by rw [toList_empty]; simp [h0]
    go_enter Tryd.func17, Tryd.ntmps17
    go_wp2
    go_ret
    exact ⟨⟨_, rfl, by simp [isName, h0]⟩, rfl⟩
  · have he : s.toList.isEmpty = false := by rw [toList_empty]; simp [h0]
    go_enter Tryd.func17, Tryd.ntmps17
    go_wp2_with (go_at_call 30; refine (nameR_c s 0 _ hs (by omega)).mono ?_; rintro _ _ ⟨r, rfl, hr, rfl⟩; have HR := Lib.hid hr; clear hr)
    go_ret
    refine ⟨⟨_, rfl, ?_⟩, rfl⟩
    rw [beq_iff_eq]
    constructor
    · intro e
      refine ⟨by omega, ?_⟩
      have := (show r = s.size by omega) ▸ HR.out
      exact this.low
    · intro e
      rw [NameAt.same e.2 HR.out]
end Go.Proofs.YtgglmmipdfcbpaaDoor
