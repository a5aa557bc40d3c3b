import Derived.Test.YthhkpoobcnmdgaaDoorProg
import Derived.WalkKit
import Derived.ProofKit
import Derived.OpenShut
import Derived.Handy
import Derived.Lib.Hide
import Derived.Below
import Derived.Lib.IndexBytes
import Derived.WalkSpells
import Derived.WalkLawsBesides
import Derived.BigQuiet
import Derived.Deep.QuietTactic
import Derived.Laws.AppendOwnNone
import Derived.Laws.BytesArg
import Derived.BigRegion
import Derived.Deep.RegionLaw
import Derived.Deep.RegionWith
import Derived.RangeFuncNested
import Derived.RangeFuncBound
import Derived.RangeFuncCalls
import Derived.RangeFuncLeaves
import Derived.Shelf.Abstract
import Derived.Shelf.RegionOpen
import Derived.OwnWalkIn
import Derived.TacticsInMore
import Derived.LoopNIn
import Derived.LoopIn
import Derived.Maps.AppendAt
/-
  Bytes of texts: letters, digits, by lex and by the document's answer.
-/
namespace Go.Proofs.YthhkpoobcnmdgaaDoor
open Go.RowKit
set_option linter.unusedVariables false

/-- A text's byte; -1 behind its end. -/
def by_ (s : ByteArray) (k : Nat) : Int := if h : k < s.size then (s[k].toNat : Int) else -1
theorem by_at {s : ByteArray} {k : Nat} (h : k < s.size) : by_ s k = (s[k].toNat : Int) := dif_pos h
theorem toList_empty {s : ByteArray} : s.toList.isEmpty = decide (s.size = 0) := by
  rw [ByteArray.toList_eq]
  obtain ⟨⟨l⟩⟩ := s
  cases l with
  | nil => rfl
  | cons x l => simp [ByteArray.size]
def letB (b : Int) : Bool := (decide (65 ≤ b) && decide (b ≤ 90)) || (decide (97 ≤ b) && decide (b ≤ 122))
def digB (b : Int) : Bool := decide (48 ≤ b) && decide (b ≤ 57)
def wordB (b : Int) : Bool := letB b || digB b || (b == 95)

def prB (b : Int) : Bool := decide (32 ≤ b) && decide (b ≤ 126)
def blB (b : Int) : Bool := b == 32 || b == 9 || b == 10 || b == 13

theorem letter_c (b : Int) (w : World) : Calls Tryd.prog 47 #[.int .u8 b] w fun e w' => e = .returned (.bool (letB b)) ∧ w = w' := by
  go_enter Tryd.func47, Tryd.ntmps47
  go_wp2
  all_goals
    go_ret
    refine ⟨congrArg (fun x => Ending.returned (Value.bool x)) ?_, rfl⟩
    rw [Bool.eq_iff_iff]
    simp [letB]
    try omega
theorem digit_c (b : Int) (w : World) : Calls Tryd.prog 48 #[.int .u8 b] w fun e w' => e = .returned (.bool (digB b)) ∧ w = w' := by
  go_enter Tryd.func48, Tryd.ntmps48
  go_wp2
  all_goals
    go_ret
    refine ⟨congrArg (fun x => Ending.returned (Value.bool x)) ?_, rfl⟩
    rw [Bool.eq_iff_iff]
    simp [digB]
    try omega
theorem printed_c (b : Int) (w : World) : Calls Tryd.prog 25 #[.int .u8 b] w fun e w' => e = .returned (.bool (prB b)) ∧ w = w' := by
  go_enter Tryd.func25, Tryd.ntmps25
  go_wp2
  all_goals
    go_ret
    refine ⟨congrArg (fun x => Ending.returned (Value.bool x)) ?_, rfl⟩
    rw [Bool.eq_iff_iff]
    simp [prB]
    try omega
theorem blank_c (b : Int) (w : World) : Calls Tryd.prog 56 #[.int .u8 b] w fun e w' => e = .returned (.bool (blB b)) ∧ w = w' := by
  go_enter Tryd.func56, Tryd.ntmps56
  go_wp2
  all_goals
    go_ret
    refine ⟨congrArg (fun x => Ending.returned (Value.bool x)) ?_, rfl⟩
    rw [Bool.eq_iff_iff]
    simp [blB]
    try omega
theorem letterR_c (b : Int) (w : World) : Calls Tryd.prog 39 #[.int .u8 b] w fun e w' => e = .returned (.bool (letB b)) ∧ w = w' := by
  go_enter Tryd.func39, Tryd.ntmps39
  go_wp2
  all_goals
    go_ret
    refine ⟨congrArg (fun x => Ending.returned (Value.bool x)) ?_, rfl⟩
    rw [Bool.eq_iff_iff]
    simp [letB]
    try omega
theorem digitR_c (b : Int) (w : World) : Calls Tryd.prog 36 #[.int .u8 b] w fun e w' => e = .returned (.bool (digB b)) ∧ w = w' := by
  go_enter Tryd.func36, Tryd.ntmps36
  go_wp2
  all_goals
    go_ret
    refine ⟨congrArg (fun x => Ending.returned (Value.bool x)) ?_, rfl⟩
    rw [Bool.eq_iff_iff]
    simp [digB]
    try omega
end Go.Proofs.YthhkpoobcnmdgaaDoor
/-
  Names: lex.nameLong, lex.Name.
-/
namespace Go.Proofs.YthhkpoobcnmdgaaDoor
open Go.RowKit
set_option linter.unusedVariables false

/-- From a on, where the first byte stands that is not so. -/
def IsEnd (p : Int → Bool) (s : ByteArray) (a k : Nat) : Prop := a ≤ k ∧ k ≤ s.size ∧ (∀ j, a ≤ j → j < k → p (by_ s j) = true) ∧ (k < s.size → p (by_ s k) = false)
/-- How many bytes at a text's start are a name. -/
def NameR (s : ByteArray) (r : Nat) : Prop := (s.size = 0 ∧ r = 0) ∨ (0 < s.size ∧ letB (by_ s 0) = false ∧ r = 0) ∨ (0 < s.size ∧ letB (by_ s 0) = true ∧ ∃ k, IsEnd wordB s 1 k ∧ r = if k < s.size ∧ by_ s k = 63 then k + 1 else k)

theorem more {p : Int → Bool} {s : ByteArray} {a k : Nat} (h : ∀ j, a ≤ j → j < k → p (by_ s j) = true) (hk : p (by_ s k) = true) : ∀ j, a ≤ j → j < k + 1 → p (by_ s j) = true := fun j h1 h2 => by
  by_cases e : j = k
  · subst e; exact hk
  · exact h j h1 (by omega)
set_option maxHeartbeats 2000000 in
theorem nameLong_c (s : ByteArray) (w : World) (hs : s.size ≤ 1048576) : Calls Tryd.prog 27 #[.string s] w fun e w' => ∃ r : Nat, e = .returned (.int .i64 r) ∧ NameR s r ∧ w = w' := by
  by_cases h0 : s.size = 0
  · have he : s.toList.isEmpty = true := by rw [toList_empty]; simp [h0]
    go_enter Tryd.func27, Tryd.ntmps27
    go_wp2
    go_ret
    exact ⟨0, rfl, .inl ⟨h0, rfl⟩, rfl⟩
  · have he : s.toList.isEmpty = false := by rw [toList_empty]; simp [h0]
    have hpos : 0 < s.size := by omega
    have hb := by_at hpos
    cases hl : letB ((s[0].toNat : Nat) : Int) with
    | false =>
      have HB := Lib.hid (show letB (by_ s 0) = false by rw [hb]; exact hl)
      clear hb
      go_enter Tryd.func27, Tryd.ntmps27
      go_wp2_with (go_at_call 47; refine (letter_c _ _).mono ?_; rintro _ _ ⟨rfl, rfl⟩)
      go_ret
      exact ⟨0, rfl, .inr (.inl ⟨hpos, HB.out, rfl⟩), rfl⟩
    | true =>
      have HB := Lib.hid (show letB (by_ s 0) = true by rw [hb]; exact hl)
      clear hb
      go_enter Tryd.func27, Tryd.ntmps27
      go_wp2_with (go_at_call 47; refine (letter_c _ _).mono ?_; rintro _ _ ⟨rfl, rfl⟩)
      go_loop [3] (fun i => ∃ k : Nat, 1 ≤ k ∧ k ≤ s.size ∧ i = .int .i64 k ∧ ∀ j, 1 ≤ j → j < k → wordB (by_ s j) = true) (fun i => s.size - (intOf i).toNat)
      case atStart => exact ⟨1, Nat.le_refl _, hpos, rfl, fun j h1 h2 => by omega⟩
      case round =>
        obtain ⟨k, h1, hk, rfl, hd⟩ := hrel
        have HD := Lib.hid hd
        clear hd
        by_cases hkn : k < s.size
        · have hx := by_at hkn
          have HX := Lib.hid hx
          clear hx
          cases a : letB ((s[k].toNat : Nat) : Int) with
          | true =>
            have HN := Lib.hid (more HD.out (by rw [HX.out]; simp [wordB, a]))
            go_wp2_with (first | (go_at_call 47; refine (letter_c _ _).mono ?_; rintro _ _ ⟨rfl, rfl⟩) | (go_at_call 48; refine (digit_c _ _).mono ?_; rintro _ _ ⟨rfl, rfl⟩))
            go_round
            case rel => exact ⟨k + 1, by omega, by omega, by go_num, HN.out⟩
            case measure => simp [intOf]; omega
          | false =>
            cases b : digB ((s[k].toNat : Nat) : Int) with
            | true =>
              have HN := Lib.hid (more HD.out (by rw [HX.out]; simp [wordB, b]))
              go_wp2_with (first | (go_at_call 47; refine (letter_c _ _).mono ?_; rintro _ _ ⟨rfl, rfl⟩) | (go_at_call 48; refine (digit_c _ _).mono ?_; rintro _ _ ⟨rfl, rfl⟩))
              go_round
              case rel => exact ⟨k + 1, by omega, by omega, by go_num, HN.out⟩
              case measure => simp [intOf]; omega
            | false =>
              cases c : (((s[k].toNat : Nat) : Int) == 95) with
              | true =>
                have HN := Lib.hid (more HD.out (by rw [HX.out]; simp [wordB, c]))
                go_wp2_with (first | (go_at_call 47; refine (letter_c _ _).mono ?_; rintro _ _ ⟨rfl, rfl⟩) | (go_at_call 48; refine (digit_c _ _).mono ?_; rintro _ _ ⟨rfl, rfl⟩))
                go_round
                case rel => exact ⟨k + 1, by omega, by omega, by go_num, HN.out⟩
                case measure => simp [intOf]; omega
              | false =>
                have HE := Lib.hid (show IsEnd wordB s 1 k from ⟨h1, hk, HD.out, fun _ => by rw [HX.out]; simp [wordB, a, b, c]⟩)
                cases q : (((s[k].toNat : Nat) : Int) == 63) with
                | true =>
                  have HR := Lib.hid (show NameR s (k + 1) from .inr (.inr ⟨hpos, HB.out, k, HE.out, by rw [if_pos ⟨hkn, by rw [HX.out]; exact eq_of_beq q⟩]⟩))
                  go_wp2_with (first | (go_at_call 47; refine (letter_c _ _).mono ?_; rintro _ _ ⟨rfl, rfl⟩) | (go_at_call 48; refine (digit_c _ _).mono ?_; rintro _ _ ⟨rfl, rfl⟩))
                  go_ret
                  exact ⟨k + 1, by go_num, HR.out, rfl⟩
                | false =>
                  have HR := Lib.hid (show NameR s k from .inr (.inr ⟨hpos, HB.out, k, HE.out, by rw [if_neg (fun h => by rw [HX.out] at h; rw [h.2] at q; simp at q)]⟩))
                  go_wp2_with (first | (go_at_call 47; refine (letter_c _ _).mono ?_; rintro _ _ ⟨rfl, rfl⟩) | (go_at_call 48; refine (digit_c _ _).mono ?_; rintro _ _ ⟨rfl, rfl⟩))
                  go_ret
                  exact ⟨k, by go_num, HR.out, rfl⟩
        · have HR := Lib.hid (show NameR s k from .inr (.inr ⟨hpos, HB.out, k, ⟨h1, hk, HD.out, fun h => absurd h hkn⟩, by rw [if_neg (fun h => hkn h.1)]⟩))
          go_wp2
          go_ret
          exact ⟨k, by go_num, HR.out, rfl⟩
end Go.Proofs.YthhkpoobcnmdgaaDoor
/-
  Names: litmusref05.name, litmusref05.Name, lex.Name.
-/
namespace Go.Proofs.YthhkpoobcnmdgaaDoor
open Go.RowKit
set_option linter.unusedVariables false

/-- How many bytes from a place on are a name. -/
def NameAt (s : ByteArray) (a r : Nat) : Prop := (s.size ≤ a ∧ r = 0) ∨ (a < s.size ∧ letB (by_ s a) = false ∧ r = 0) ∨ (a < s.size ∧ letB (by_ s a) = true ∧ ∃ k, IsEnd wordB s (a + 1) k ∧ r + a = if k < s.size ∧ by_ s k = 63 then k + 1 else k)

set_option maxHeartbeats 2000000 in
theorem nameR_c (s : ByteArray) (a : Nat) (w : World) (hs : s.size ≤ 1048576) (ha : a ≤ 1048576) : Calls Tryd.prog 40 #[.string s, .int .i64 a] w fun e w' => ∃ r : Nat, e = .returned (.int .i64 r) ∧ NameAt s a r ∧ w = w' := by
  by_cases h0 : a < s.size
  · have hb := by_at h0
    have hge : decide (s.size ≤ a) = false := decide_eq_false (by omega)
    have hle : ¬ s.size ≤ a := by omega
    cases hl : letB ((s[a].toNat : Nat) : Int) with
    | false =>
      have HB := Lib.hid (show letB (by_ s a) = false by rw [hb]; exact hl)
      clear hb
      go_enter Tryd.func40, Tryd.ntmps40
      go_wp2_with (go_at_call 39; refine (letterR_c _ _).mono ?_; rintro _ _ ⟨rfl, rfl⟩)
      go_ret
      exact ⟨0, rfl, .inr (.inl ⟨h0, HB.out, rfl⟩), rfl⟩
    | true =>
      have HB := Lib.hid (show letB (by_ s a) = true by rw [hb]; exact hl)
      clear hb
      go_enter Tryd.func40, Tryd.ntmps40
      go_wp2_with (go_at_call 39; refine (letterR_c _ _).mono ?_; rintro _ _ ⟨rfl, rfl⟩)
      go_loop [5] (fun i => ∃ k : Nat, a + 1 ≤ k ∧ k ≤ s.size ∧ i = .int .i64 k ∧ ∀ j, a + 1 ≤ j → j < k → wordB (by_ s j) = true) (fun i => s.size - (intOf i).toNat)
      case atStart => exact ⟨a + 1, Nat.le_refl _, h0, by go_num, fun j h1 h2 => by omega⟩
      case round =>
        obtain ⟨k, h1, hk, rfl, hd⟩ := hrel
        have HD := Lib.hid hd
        clear hd
        by_cases hkn : k < s.size
        · have hx := by_at hkn
          have HX := Lib.hid hx
          clear hx
          cases a1 : letB ((s[k].toNat : Nat) : Int) with
          | true =>
            have HN := Lib.hid (more HD.out (by rw [HX.out]; simp [wordB, a1]))
            go_wp2_with (first | (go_at_call 39; refine (letterR_c _ _).mono ?_; rintro _ _ ⟨rfl, rfl⟩) | (go_at_call 36; refine (digitR_c _ _).mono ?_; rintro _ _ ⟨rfl, rfl⟩))
            go_round
            case rel => exact ⟨k + 1, by omega, by omega, by go_num, HN.out⟩
            case measure => simp [intOf]; omega
          | false =>
            cases b1 : digB ((s[k].toNat : Nat) : Int) with
            | true =>
              have HN := Lib.hid (more HD.out (by rw [HX.out]; simp [wordB, b1]))
              go_wp2_with (first | (go_at_call 39; refine (letterR_c _ _).mono ?_; rintro _ _ ⟨rfl, rfl⟩) | (go_at_call 36; refine (digitR_c _ _).mono ?_; rintro _ _ ⟨rfl, rfl⟩))
              go_round
              case rel => exact ⟨k + 1, by omega, by omega, by go_num, HN.out⟩
              case measure => simp [intOf]; omega
            | false =>
              cases c1 : (((s[k].toNat : Nat) : Int) == 95) with
              | true =>
                have HN := Lib.hid (more HD.out (by rw [HX.out]; simp [wordB, c1]))
                go_wp2_with (first | (go_at_call 39; refine (letterR_c _ _).mono ?_; rintro _ _ ⟨rfl, rfl⟩) | (go_at_call 36; refine (digitR_c _ _).mono ?_; rintro _ _ ⟨rfl, rfl⟩))
                go_round
                case rel => exact ⟨k + 1, by omega, by omega, by go_num, HN.out⟩
                case measure => simp [intOf]; omega
              | false =>
                have HE := Lib.hid (show IsEnd wordB s (a + 1) k from ⟨h1, hk, HD.out, fun _ => by rw [HX.out]; simp [wordB, a1, b1, c1]⟩)
                cases q : (((s[k].toNat : Nat) : Int) == 63) with
                | true =>
                  have HR := Lib.hid (show NameAt s a (k + 1 - a) from .inr (.inr ⟨h0, HB.out, k, HE.out, by rw [if_pos ⟨hkn, by rw [HX.out]; exact eq_of_beq q⟩]; omega⟩))
                  go_wp2_with (first | (go_at_call 39; refine (letterR_c _ _).mono ?_; rintro _ _ ⟨rfl, rfl⟩) | (go_at_call 36; refine (digitR_c _ _).mono ?_; rintro _ _ ⟨rfl, rfl⟩))
                  go_ret
                  exact ⟨k + 1 - a, by go_num, HR.out, rfl⟩
                | false =>
                  have HR := Lib.hid (show NameAt s a (k - a) from .inr (.inr ⟨h0, HB.out, k, HE.out, by rw [if_neg (fun h => by rw [HX.out] at h; rw [h.2] at q; simp at q)]; omega⟩))
                  go_wp2_with (first | (go_at_call 39; refine (letterR_c _ _).mono ?_; rintro _ _ ⟨rfl, rfl⟩) | (go_at_call 36; refine (digitR_c _ _).mono ?_; rintro _ _ ⟨rfl, rfl⟩))
                  go_ret
                  exact ⟨k - a, by go_num, HR.out, rfl⟩
        · have HR := Lib.hid (show NameAt s a (k - a) from .inr (.inr ⟨h0, HB.out, k, ⟨h1, hk, HD.out, fun h => absurd h hkn⟩, by rw [if_neg (fun h => hkn h.1)]; omega⟩))
          go_wp2
          go_ret
          exact ⟨k - a, by go_num, HR.out, rfl⟩
  · go_enter Tryd.func40, Tryd.ntmps40
    go_wp2
    go_ret
    exact ⟨0, rfl, .inl ⟨by omega, rfl⟩, rfl⟩

theorem IsEnd.uniq {p : Int → Bool} {s : ByteArray} {a k k' : Nat} (h : IsEnd p s a k) (h' : IsEnd p s a k') : k = k' := by
  rcases Nat.lt_trichotomy k k' with e | e | e
  · have h1 := h'.2.2.1 k h.1 e
    rw [h.2.2.2 (Nat.lt_of_lt_of_le e h'.2.1)] at h1
    cases h1
  · exact e
  · have h1 := h.2.2.1 k' h'.1 e
    rw [h'.2.2.2 (Nat.lt_of_lt_of_le e h.2.1)] at h1
    cases h1
theorem NameAt.same {s : ByteArray} {r r' : Nat} (h : NameR s r) (h' : NameAt s 0 r') : r = r' := by
  rcases h with ⟨a, b⟩ | ⟨a, b, c⟩ | ⟨a, b, k, c, d⟩ <;> rcases h' with ⟨a', b'⟩ | ⟨a', b', c'⟩ | ⟨a', b', k', c', d'⟩
  · omega
  · omega
  · omega
  · omega
  · omega
  · rw [b] at b'; cases b'
  · omega
  · rw [b] at b'; cases b'
  · have := c.uniq c'
    subst this
    omega
theorem NameR.at {s : ByteArray} {r : Nat} (h : NameR s r) : NameAt s 0 r := by
  rcases h with ⟨a, b⟩ | ⟨a, b, c⟩ | ⟨a, b, k, c, d⟩
  · exact .inl ⟨by omega, b⟩
  · exact .inr (.inl ⟨a, b, c⟩)
  · exact .inr (.inr ⟨a, b, k, c, d⟩)
theorem NameAt.low {s : ByteArray} {r : Nat} (h : NameAt s 0 r) : NameR s r := by
  rcases h with ⟨a, b⟩ | ⟨a, b, c⟩ | ⟨a, b, k, c, d⟩
  · exact .inl ⟨by omega, b⟩
  · exact .inr (.inl ⟨a, b, c⟩)
  · exact .inr (.inr ⟨a, b, k, c, d⟩)
theorem NameR.only {s : ByteArray} {r r' : Nat} (h : NameR s r) (h' : NameR s r') : r = r' := NameAt.same h h'.at
/-- Is a text a name? -/
def isName (s : ByteArray) : Prop := 0 < s.size ∧ NameR s s.size
theorem nameL_c (s : ByteArray) (w : World) (hs : s.size ≤ 1048576) : Calls Tryd.prog 18 #[.string s] w fun e w' => (∃ b : Bool, e = .returned (.bool b) ∧ (b = true ↔ isName s)) ∧ w = w' := by
  by_cases h0 : s.size = 0
  · have he : s.toList.isEmpty = true := by rw [toList_empty]; simp [h0]
    go_enter Tryd.func18, Tryd.ntmps18
    go_wp2
    go_ret
    exact ⟨⟨_, rfl, by simp [isName, h0]⟩, rfl⟩
  · have he : s.toList.isEmpty = false := by rw [toList_empty]; simp [h0]
    go_enter Tryd.func18, Tryd.ntmps18
    go_wp2_with (go_at_call 27; refine (nameLong_c s _ hs).mono ?_; rintro _ _ ⟨r, rfl, hr, rfl⟩; have HR := Lib.hid hr; clear hr)
    go_ret
    refine ⟨⟨_, rfl, ?_⟩, rfl⟩
    rw [beq_iff_eq]
    constructor
    · intro e
      exact ⟨by omega, (show r = s.size by omega) ▸ HR.out⟩
    · intro e
      rw [e.2.only HR.out]
end Go.Proofs.YthhkpoobcnmdgaaDoor
/-
  Numbers: lex.numberLong, lex.Number; litmusref05.number, litmusref05.Number.
-/
namespace Go.Proofs.YthhkpoobcnmdgaaDoor
open Go.RowKit
set_option linter.unusedVariables false

theorem IsEnd.start {p : Int → Bool} {s : ByteArray} {a : Nat} (ha : a ≤ s.size) : ∃ k, IsEnd p s a k := by
  generalize hn : s.size - a = n
  induction n generalizing a with
  | zero => exact ⟨a, Nat.le_refl _, ha, fun j h1 h2 => by omega, fun h => by omega⟩
  | succ n ih =>
    cases hp : p (by_ s a) with
    | false => exact ⟨a, Nat.le_refl _, ha, fun j h1 h2 => by omega, fun _ => hp⟩
    | true =>
      obtain ⟨k, h1, h2, h3, h4⟩ := ih (a := a + 1) (by omega) (by omega)
      refine ⟨k, by omega, h2, fun j h5 h6 => ?_, h4⟩
      by_cases e : j = a
      · rw [e]; exact hp
      · exact h3 j (by omega) h6

/-- How many bytes a - takes from a place on. -/
def dash (s : ByteArray) (a : Nat) : Nat := if by_ s a = 45 then 1 else 0
/-- How many bytes at a text's start are a number. -/
def NumR (s : ByteArray) (r : Nat) : Prop := ∃ k, IsEnd digB s (dash s 0) k ∧ r = if k = dash s 0 then 0 else if by_ s (dash s 0) = 48 then (if dash s 0 = 0 then 1 else 0) else k
theorem by_out {s : ByteArray} {k : Nat} (h : s.size ≤ k) : by_ s k = -1 := dif_neg (by omega)
theorem dash_le {s : ByteArray} (a : Nat) (ha : a ≤ s.size) : a + dash s a ≤ s.size := by
  unfold dash
  split
  · rename_i h
    by_cases e : a < s.size
    · omega
    · rw [by_out (by omega)] at h; cases h
  · omega

end Go.Proofs.YthhkpoobcnmdgaaDoor
/-
  Numbers: lex.numberLong, walked.
-/
namespace Go.Proofs.YthhkpoobcnmdgaaDoor
open Go.RowKit
set_option linter.unusedVariables false

set_option maxHeartbeats 2000000 in
theorem numberLong_0 (s : ByteArray) (w : World) (hs : s.size ≤ 1048576) (hpos : 0 < s.size) (q : (((s[0].toNat : Nat) : Int) == 45) = false) (HD0 : Hid (dash s 0 = 0)) :
    Calls Tryd.prog 28 #[.string s] w fun e w' => ∃ r : Nat, e = .returned (.int .i64 r) ∧ NumR s r ∧ w = w' := by
  have he : s.toList.isEmpty = false := by rw [toList_empty]; exact decide_eq_false (by omega)
  go_enter Tryd.func28, Tryd.ntmps28
  go_wp2
  go_loop [4] (fun i => ∃ k : Nat, 0 ≤ k ∧ k ≤ s.size ∧ i = .int .i64 k ∧ ∀ j, 0 ≤ j → j < k → digB (by_ s j) = true) (fun i => s.size - (intOf i).toNat)
  case atStart => exact ⟨0, Nat.le_refl _, by omega, rfl, fun j h1 h2 => by omega⟩
  case round =>
    obtain ⟨k, h1, hk, rfl, hd⟩ := hrel
    have HD := Lib.hid hd
    clear hd
    by_cases hkn : k < s.size
    · have hx := by_at hkn
      have HX := Lib.hid hx
      clear hx
      cases b : digB ((s[k].toNat : Nat) : Int) with
      | true =>
        have HN := Lib.hid (more HD.out (by rw [HX.out]; exact b))
        go_wp2_with (go_at_call 48; refine (digit_c _ _).mono ?_; rintro _ _ ⟨rfl, rfl⟩)
        go_round
        case rel => exact ⟨k + 1, by omega, by omega, by go_num, HN.out⟩
        case measure => simp [intOf]; omega
      | false =>
        have HE := Lib.hid (show IsEnd digB s 0 k from ⟨by omega, hk, HD.out, fun _ => by rw [HX.out]; exact b⟩)
        by_cases e : k = 0
        · subst e
          have HR := Lib.hid (show NumR s 0 from ⟨0, by rw [HD0.out]; exact HE.out, by rw [HD0.out]; simp⟩)
          go_wp2_with (go_at_call 48; refine (digit_c _ _).mono ?_; rintro _ _ ⟨rfl, rfl⟩)
          go_ret
          exact ⟨0, by go_num, HR.out, rfl⟩
        · have hne : (((k : Nat) : Int) == 0) = false := by simp; omega
          have hds : 0 < s.size := by omega
          have hy := by_at hds
          have HY := Lib.hid hy
          clear hy
          cases c : (((s[0].toNat : Nat) : Int) == 48) with
          | true =>
            have HR := Lib.hid (show NumR s 1 from ⟨k, by rw [HD0.out]; exact HE.out, by rw [HD0.out, if_neg e, if_pos (by rw [HY.out]; exact eq_of_beq c)]; rfl⟩)
            go_wp2_with (go_at_call 48; refine (digit_c _ _).mono ?_; rintro _ _ ⟨rfl, rfl⟩)
            go_ret
            exact ⟨1, by go_num, HR.out, rfl⟩
          | false =>
            have HR := Lib.hid (show NumR s k from ⟨k, by rw [HD0.out]; exact HE.out, by rw [HD0.out, if_neg e, if_neg (fun h => by rw [HY.out] at h; rw [h] at c; simp at c)]⟩)
            go_wp2_with (go_at_call 48; refine (digit_c _ _).mono ?_; rintro _ _ ⟨rfl, rfl⟩)
            go_ret
            exact ⟨k, by go_num, HR.out, rfl⟩
    ·
      have HE := Lib.hid (show IsEnd digB s 0 k from ⟨by omega, hk, HD.out, fun h => absurd h hkn⟩)
      by_cases e : k = 0
      · omega
      · have hne : (((k : Nat) : Int) == 0) = false := by simp; omega
        have hds : 0 < s.size := by omega
        have hy := by_at hds
        have HY := Lib.hid hy
        clear hy
        cases c : (((s[0].toNat : Nat) : Int) == 48) with
        | true =>
          have HR := Lib.hid (show NumR s 1 from ⟨k, by rw [HD0.out]; exact HE.out, by rw [HD0.out, if_neg e, if_pos (by rw [HY.out]; exact eq_of_beq c)]; rfl⟩)
          go_wp2_with (go_at_call 48; refine (digit_c _ _).mono ?_; rintro _ _ ⟨rfl, rfl⟩)
          go_ret
          exact ⟨1, by go_num, HR.out, rfl⟩
        | false =>
          have HR := Lib.hid (show NumR s k from ⟨k, by rw [HD0.out]; exact HE.out, by rw [HD0.out, if_neg e, if_neg (fun h => by rw [HY.out] at h; rw [h] at c; simp at c)]⟩)
          go_wp2_with (go_at_call 48; refine (digit_c _ _).mono ?_; rintro _ _ ⟨rfl, rfl⟩)
          go_ret
          exact ⟨k, by go_num, HR.out, rfl⟩
set_option maxHeartbeats 2000000 in
theorem numberLong_1 (s : ByteArray) (w : World) (hs : s.size ≤ 1048576) (hpos : 0 < s.size) (q : (((s[0].toNat : Nat) : Int) == 45) = true) (HD0 : Hid (dash s 0 = 1)) :
    Calls Tryd.prog 28 #[.string s] w fun e w' => ∃ r : Nat, e = .returned (.int .i64 r) ∧ NumR s r ∧ w = w' := by
  have he : s.toList.isEmpty = false := by rw [toList_empty]; exact decide_eq_false (by omega)
  go_enter Tryd.func28, Tryd.ntmps28
  go_wp2
  go_loop [4] (fun i => ∃ k : Nat, 1 ≤ k ∧ k ≤ s.size ∧ i = .int .i64 k ∧ ∀ j, 1 ≤ j → j < k → digB (by_ s j) = true) (fun i => s.size - (intOf i).toNat)
  case atStart => exact ⟨1, Nat.le_refl _, by omega, rfl, fun j h1 h2 => by omega⟩
  case round =>
    obtain ⟨k, h1, hk, rfl, hd⟩ := hrel
    have HD := Lib.hid hd
    clear hd
    by_cases hkn : k < s.size
    · have hx := by_at hkn
      have HX := Lib.hid hx
      clear hx
      cases b : digB ((s[k].toNat : Nat) : Int) with
      | true =>
        have HN := Lib.hid (more HD.out (by rw [HX.out]; exact b))
        go_wp2_with (go_at_call 48; refine (digit_c _ _).mono ?_; rintro _ _ ⟨rfl, rfl⟩)
        go_round
        case rel => exact ⟨k + 1, by omega, by omega, by go_num, HN.out⟩
        case measure => simp [intOf]; omega
      | false =>
        have HE := Lib.hid (show IsEnd digB s 1 k from ⟨by omega, hk, HD.out, fun _ => by rw [HX.out]; exact b⟩)
        by_cases e : k = 1
        · subst e
          have HR := Lib.hid (show NumR s 0 from ⟨1, by rw [HD0.out]; exact HE.out, by rw [HD0.out]; simp⟩)
          go_wp2_with (go_at_call 48; refine (digit_c _ _).mono ?_; rintro _ _ ⟨rfl, rfl⟩)
          go_ret
          exact ⟨0, by go_num, HR.out, rfl⟩
        · have hne : (((k : Nat) : Int) == 1) = false := by simp; omega
          have hds : 1 < s.size := by omega
          have hy := by_at hds
          have HY := Lib.hid hy
          clear hy
          cases c : (((s[1].toNat : Nat) : Int) == 48) with
          | true =>
            have HR := Lib.hid (show NumR s 0 from ⟨k, by rw [HD0.out]; exact HE.out, by rw [HD0.out, if_neg e, if_pos (by rw [HY.out]; exact eq_of_beq c)]; rfl⟩)
            go_wp2_with (go_at_call 48; refine (digit_c _ _).mono ?_; rintro _ _ ⟨rfl, rfl⟩)
            go_ret
            exact ⟨0, by go_num, HR.out, rfl⟩
          | false =>
            have HR := Lib.hid (show NumR s k from ⟨k, by rw [HD0.out]; exact HE.out, by rw [HD0.out, if_neg e, if_neg (fun h => by rw [HY.out] at h; rw [h] at c; simp at c)]⟩)
            go_wp2_with (go_at_call 48; refine (digit_c _ _).mono ?_; rintro _ _ ⟨rfl, rfl⟩)
            go_ret
            exact ⟨k, by go_num, HR.out, rfl⟩
    ·
      have HE := Lib.hid (show IsEnd digB s 1 k from ⟨by omega, hk, HD.out, fun h => absurd h hkn⟩)
      by_cases e : k = 1
      · subst e
        have HR := Lib.hid (show NumR s 0 from ⟨1, by rw [HD0.out]; exact HE.out, by rw [HD0.out]; simp⟩)
        go_wp2_with (go_at_call 48; refine (digit_c _ _).mono ?_; rintro _ _ ⟨rfl, rfl⟩)
        go_ret
        exact ⟨0, by go_num, HR.out, rfl⟩
      · have hne : (((k : Nat) : Int) == 1) = false := by simp; omega
        have hds : 1 < s.size := by omega
        have hy := by_at hds
        have HY := Lib.hid hy
        clear hy
        cases c : (((s[1].toNat : Nat) : Int) == 48) with
        | true =>
          have HR := Lib.hid (show NumR s 0 from ⟨k, by rw [HD0.out]; exact HE.out, by rw [HD0.out, if_neg e, if_pos (by rw [HY.out]; exact eq_of_beq c)]; rfl⟩)
          go_wp2_with (go_at_call 48; refine (digit_c _ _).mono ?_; rintro _ _ ⟨rfl, rfl⟩)
          go_ret
          exact ⟨0, by go_num, HR.out, rfl⟩
        | false =>
          have HR := Lib.hid (show NumR s k from ⟨k, by rw [HD0.out]; exact HE.out, by rw [HD0.out, if_neg e, if_neg (fun h => by rw [HY.out] at h; rw [h] at c; simp at c)]⟩)
          go_wp2_with (go_at_call 48; refine (digit_c _ _).mono ?_; rintro _ _ ⟨rfl, rfl⟩)
          go_ret
          exact ⟨k, by go_num, HR.out, rfl⟩
end Go.Proofs.YthhkpoobcnmdgaaDoor
/-
  Numbers: litmusref05.number, walked.
-/
namespace Go.Proofs.YthhkpoobcnmdgaaDoor
open Go.RowKit
set_option linter.unusedVariables false
/-- How many bytes from a place on are digits, with a - maybe. -/
def NumAt (s : ByteArray) (a r : Nat) : Prop := ∃ k, IsEnd digB s (a + dash s a) k ∧ r = if k = a + dash s a then 0 else k - a

set_option maxHeartbeats 2000000 in
theorem numR_0 (s : ByteArray) (a : Nat) (w : World) (hs : s.size ≤ 1048576) (q : a < s.size) (qq : (((s[a].toNat : Nat) : Int) == 45) = false) (HD0 : Hid (dash s a = 0)) :
    Calls Tryd.prog 37 #[.string s, .int .i64 a] w fun e w' => ∃ r : Nat, e = .returned (.int .i64 r) ∧ NumAt s a r ∧ w = w' := by
  have hle : a ≤ s.size := by omega
  have hlt : decide (a < s.size) = true := by simp; omega
  go_enter Tryd.func37, Tryd.ntmps37
  go_wp2
  go_loop [5] (fun i => ∃ k : Nat, a + 0 ≤ k ∧ k ≤ s.size ∧ i = .int .i64 k ∧ ∀ j, a + 0 ≤ j → j < k → digB (by_ s j) = true) (fun i => s.size - (intOf i).toNat)
  case atStart => exact ⟨a + 0, Nat.le_refl _, by omega, by go_num, fun j h1 h2 => by omega⟩
  case round =>
    obtain ⟨k, h1, hk, rfl, hd⟩ := hrel
    have HD := Lib.hid hd
    clear hd
    by_cases hkn : k < s.size
    · have hx := by_at hkn
      have HX := Lib.hid hx
      clear hx
      cases b : digB ((s[k].toNat : Nat) : Int) with
      | true =>
        have HN := Lib.hid (more HD.out (by rw [HX.out]; exact b))
        go_wp2_with (go_at_call 36; refine (digitR_c _ _).mono ?_; rintro _ _ ⟨rfl, rfl⟩)
        go_round
        case rel => exact ⟨k + 1, by omega, by omega, by go_num, HN.out⟩
        case measure => simp [intOf]; omega
      | false =>
        have HE := Lib.hid (show IsEnd digB s (a + 0) k from ⟨by omega, hk, HD.out, fun _ => by rw [HX.out]; exact b⟩)
        by_cases e : k = a + 0
        · obtain rfl : a = k := by omega
          have HR := Lib.hid (show NumAt s a 0 from ⟨a + 0, by rw [HD0.out]; exact HE.out, by rw [HD0.out]; simp⟩)
          clear h1 e
          go_wp2_with (go_at_call 36; refine (digitR_c _ _).mono ?_; rintro _ _ ⟨rfl, rfl⟩)
          go_ret
          exact ⟨0, by go_num, HR.out, rfl⟩
        · have hne : (((k : Nat) : Int) == ((a : Nat) : Int)) = false := by simp; omega
          have HR := Lib.hid (show NumAt s a (k - a) from ⟨k, by rw [HD0.out]; exact HE.out, by rw [HD0.out, if_neg e]⟩)
          go_wp2_with (go_at_call 36; refine (digitR_c _ _).mono ?_; rintro _ _ ⟨rfl, rfl⟩)
          go_ret
          exact ⟨k - a, by go_num, HR.out, rfl⟩
    ·
      have HE := Lib.hid (show IsEnd digB s (a + 0) k from ⟨by omega, hk, HD.out, fun h => absurd h hkn⟩)
      by_cases e : k = a + 0
      · omega
      · have hne : (((k : Nat) : Int) == ((a : Nat) : Int)) = false := by simp; omega
        have HR := Lib.hid (show NumAt s a (k - a) from ⟨k, by rw [HD0.out]; exact HE.out, by rw [HD0.out, if_neg e]⟩)
        go_wp2_with (go_at_call 36; refine (digitR_c _ _).mono ?_; rintro _ _ ⟨rfl, rfl⟩)
        go_ret
        exact ⟨k - a, by go_num, HR.out, rfl⟩
set_option maxHeartbeats 2000000 in
theorem numR_1 (s : ByteArray) (a : Nat) (w : World) (hs : s.size ≤ 1048576) (q : a < s.size) (qq : (((s[a].toNat : Nat) : Int) == 45) = true) (HD0 : Hid (dash s a = 1)) :
    Calls Tryd.prog 37 #[.string s, .int .i64 a] w fun e w' => ∃ r : Nat, e = .returned (.int .i64 r) ∧ NumAt s a r ∧ w = w' := by
  have hle : a ≤ s.size := by omega
  have hlt : decide (a < s.size) = true := by simp; omega
  go_enter Tryd.func37, Tryd.ntmps37
  go_wp2
  go_loop [5] (fun i => ∃ k : Nat, a + 1 ≤ k ∧ k ≤ s.size ∧ i = .int .i64 k ∧ ∀ j, a + 1 ≤ j → j < k → digB (by_ s j) = true) (fun i => s.size - (intOf i).toNat)
  case atStart => exact ⟨a + 1, Nat.le_refl _, by omega, by go_num, fun j h1 h2 => by omega⟩
  case round =>
    obtain ⟨k, h1, hk, rfl, hd⟩ := hrel
    have HD := Lib.hid hd
    clear hd
    by_cases hkn : k < s.size
    · have hx := by_at hkn
      have HX := Lib.hid hx
      clear hx
      cases b : digB ((s[k].toNat : Nat) : Int) with
      | true =>
        have HN := Lib.hid (more HD.out (by rw [HX.out]; exact b))
        go_wp2_with (go_at_call 36; refine (digitR_c _ _).mono ?_; rintro _ _ ⟨rfl, rfl⟩)
        go_round
        case rel => exact ⟨k + 1, by omega, by omega, by go_num, HN.out⟩
        case measure => simp [intOf]; omega
      | false =>
        have HE := Lib.hid (show IsEnd digB s (a + 1) k from ⟨by omega, hk, HD.out, fun _ => by rw [HX.out]; exact b⟩)
        by_cases e : k = a + 1
        · subst e
          have HR := Lib.hid (show NumAt s a 0 from ⟨a + 1, by rw [HD0.out]; exact HE.out, by rw [HD0.out]; simp⟩)
          go_wp2_with (go_at_call 36; refine (digitR_c _ _).mono ?_; rintro _ _ ⟨rfl, rfl⟩)
          go_ret
          exact ⟨0, by go_num, HR.out, rfl⟩
        · have hne : (((k : Nat) : Int) == ((a : Nat) : Int) + 1) = false := by simp; omega
          have HR := Lib.hid (show NumAt s a (k - a) from ⟨k, by rw [HD0.out]; exact HE.out, by rw [HD0.out, if_neg e]⟩)
          go_wp2_with (go_at_call 36; refine (digitR_c _ _).mono ?_; rintro _ _ ⟨rfl, rfl⟩)
          go_ret
          exact ⟨k - a, by go_num, HR.out, rfl⟩
    ·
      have HE := Lib.hid (show IsEnd digB s (a + 1) k from ⟨by omega, hk, HD.out, fun h => absurd h hkn⟩)
      by_cases e : k = a + 1
      · subst e
        have HR := Lib.hid (show NumAt s a 0 from ⟨a + 1, by rw [HD0.out]; exact HE.out, by rw [HD0.out]; simp⟩)
        go_wp2_with (go_at_call 36; refine (digitR_c _ _).mono ?_; rintro _ _ ⟨rfl, rfl⟩)
        go_ret
        exact ⟨0, by go_num, HR.out, rfl⟩
      · have hne : (((k : Nat) : Int) == ((a : Nat) : Int) + 1) = false := by simp; omega
        have HR := Lib.hid (show NumAt s a (k - a) from ⟨k, by rw [HD0.out]; exact HE.out, by rw [HD0.out, if_neg e]⟩)
        go_wp2_with (go_at_call 36; refine (digitR_c _ _).mono ?_; rintro _ _ ⟨rfl, rfl⟩)
        go_ret
        exact ⟨k - a, by go_num, HR.out, rfl⟩
theorem numR_2 (s : ByteArray) (w : World) (hs : s.size ≤ 1048576) : Calls Tryd.prog 37 #[.string s, .int .i64 s.size] w fun e w' => ∃ r : Nat, e = .returned (.int .i64 r) ∧ NumAt s s.size r ∧ w = w' := by
  have hd : dash s s.size = 0 := by unfold dash; rw [by_out (Nat.le_refl _)]; rfl
  have HR := Lib.hid (show NumAt s s.size 0 from ⟨s.size, by rw [hd]; exact ⟨Nat.le_refl _, Nat.le_refl _, fun j h1 h2 => by omega, fun h => absurd h (Nat.lt_irrefl _)⟩, by rw [hd]; simp⟩)
  clear hd
  go_enter Tryd.func37, Tryd.ntmps37
  go_wp2
  refine wp_loop_rounds 1 ?_
  rw [rounds_succ]
  go_wp2
  go_ret
  exact ⟨0, by go_num, HR.out, rfl⟩
theorem numR_c (s : ByteArray) (a : Nat) (w : World) (hs : s.size ≤ 1048576) (ha : a ≤ s.size) : Calls Tryd.prog 37 #[.string s, .int .i64 a] w fun e w' => ∃ r : Nat, e = .returned (.int .i64 r) ∧ NumAt s a r ∧ w = w' := by
  by_cases h : a < s.size
  · cases q : (((s[a].toNat : Nat) : Int) == 45) with
    | true => exact numR_1 s a w hs h q (by unfold dash; rw [by_at h, if_pos (eq_of_beq q)]; exact rfl)
    | false => exact numR_0 s a w hs h q (by unfold dash; rw [by_at h, if_neg (fun e => by rw [e] at q; simp at q)]; exact rfl)
  · obtain rfl : s.size = a := by omega
    exact numR_2 s w hs

end Go.Proofs.YthhkpoobcnmdgaaDoor
/-
  Numbers: lex.Number, litmusref05.Number.
-/
namespace Go.Proofs.YthhkpoobcnmdgaaDoor
open Go.RowKit
set_option linter.unusedVariables false

theorem NumR.only {s : ByteArray} {r r' : Nat} (h : NumR s r) (h' : NumR s r') : r = r' := by
  obtain ⟨k, h1, h2⟩ := h
  obtain ⟨k', h3, h4⟩ := h'
  have := h1.uniq h3
  subst this
  rw [h2, h4]
theorem NumAt.only {s : ByteArray} {a r r' : Nat} (h : NumAt s a r) (h' : NumAt s a r') : r = r' := by
  obtain ⟨k, h1, h2⟩ := h
  obtain ⟨k', h3, h4⟩ := h'
  have := h1.uniq h3
  subst this
  rw [h2, h4]
theorem dash_cases (s : ByteArray) (a : Nat) : (by_ s a = 45 ∧ dash s a = 1) ∨ (by_ s a ≠ 45 ∧ dash s a = 0) := by
  unfold dash
  by_cases h : by_ s a = 45
  · exact .inl ⟨h, if_pos h⟩
  · exact .inr ⟨h, if_neg h⟩
/-- Is a text a number? -/
def isNum (s : ByteArray) : Prop := 0 < s.size ∧ NumR s s.size
/-- The same, as the document's answer tells it. -/
theorem isNum_iff {s : ByteArray} : isNum s ↔ 0 < s.size ∧ NumAt s 0 s.size ∧ (if by_ s 0 = 45 then by_ s 1 ≠ 48 else s.size = 1 ∨ by_ s 0 ≠ 48) := by
  unfold isNum NumR NumAt
  rw [Nat.zero_add]
  rcases dash_cases s 0 with ⟨ha, hd⟩ | ⟨ha, hd⟩
  · rw [hd, if_pos ha]
    constructor
    · rintro ⟨h0, k, h1, h2⟩
      by_cases e : k = 1
      · rw [if_pos e] at h2; omega
      · rw [if_neg e] at h2
        by_cases e2 : by_ s 1 = 48
        · rw [if_pos e2, if_neg (by decide)] at h2; omega
        · rw [if_neg e2] at h2
          exact ⟨h0, ⟨k, h1, by rw [if_neg e]; omega⟩, e2⟩
    · rintro ⟨h0, ⟨k, h1, h2⟩, h3⟩
      refine ⟨h0, k, h1, ?_⟩
      by_cases e : k = 1
      · rw [if_pos e] at h2; omega
      · rw [if_neg e] at h2
        rw [if_neg e, if_neg h3]; omega
  · rw [hd, if_neg ha]
    constructor
    · rintro ⟨h0, k, h1, h2⟩
      have hk := h1.2.1
      by_cases e : k = 0
      · rw [if_pos e] at h2; omega
      · rw [if_neg e] at h2
        by_cases e2 : by_ s 0 = 48
        · rw [if_pos e2, if_pos rfl] at h2
          exact ⟨h0, ⟨k, h1, by rw [if_neg e]; omega⟩, .inl h2⟩
        · rw [if_neg e2] at h2
          exact ⟨h0, ⟨k, h1, by rw [if_neg e]; omega⟩, .inr e2⟩
    · rintro ⟨h0, ⟨k, h1, h2⟩, h3⟩
      refine ⟨h0, k, h1, ?_⟩
      by_cases e : k = 0
      · rw [if_pos e] at h2; omega
      · rw [if_neg e] at h2
        rw [if_neg e]
        by_cases e2 : by_ s 0 = 48
        · rw [if_pos e2, if_pos rfl]
          rcases h3 with h3 | h3
          · exact h3
          · exact absurd e2 h3
        · rw [if_neg e2]; omega
theorem numberLong_c (s : ByteArray) (w : World) (hs : s.size ≤ 1048576) (hpos : 0 < s.size) : Calls Tryd.prog 28 #[.string s] w fun e w' => ∃ r : Nat, e = .returned (.int .i64 r) ∧ NumR s r ∧ w = w' := by
  cases q : (((s[0].toNat : Nat) : Int) == 45) with
  | true => exact numberLong_1 s w hs hpos q (by unfold dash; rw [by_at hpos, if_pos (eq_of_beq q)]; exact rfl)
  | false => exact numberLong_0 s w hs hpos q (by unfold dash; rw [by_at hpos, if_neg (fun e => by rw [e] at q; simp at q)]; exact rfl)
theorem numL_c (s : ByteArray) (w : World) (hs : s.size ≤ 1048576) : Calls Tryd.prog 19 #[.string s] w fun e w' => (∃ b : Bool, e = .returned (.bool b) ∧ (b = true ↔ isNum s)) ∧ w = w' := by
  by_cases h0 : s.size = 0
  · have he : s.toList.isEmpty = true := by rw [toList_empty]; simp [h0]
    go_enter Tryd.func19, Tryd.ntmps19
    go_wp2
    go_ret
    exact ⟨⟨_, rfl, by simp [isNum, h0]⟩, rfl⟩
  · have he : s.toList.isEmpty = false := by rw [toList_empty]; simp [h0]
    go_enter Tryd.func19, Tryd.ntmps19
    go_wp2_with (go_at_call 28; refine (numberLong_c s _ hs (by omega)).mono ?_; rintro _ _ ⟨r, rfl, hr, rfl⟩; have HR := Lib.hid hr; clear hr)
    go_ret
    refine ⟨⟨_, rfl, ?_⟩, rfl⟩
    rw [beq_iff_eq]
    constructor
    · intro e
      exact ⟨by omega, (show r = s.size by omega) ▸ HR.out⟩
    · intro e
      rw [e.2.only HR.out]
theorem of_bne {r n : Nat} (h : ((r : Int) != (n : Int)) = true) : r ≠ n := fun e => by subst e; simp at h
theorem of_beqf {r n : Nat} (h : ((r : Int) != (n : Int)) = false) : r = n := by
  have h1 : (r : Int) = (n : Int) := by simpa using h
  omega
theorem numN_c (s : ByteArray) (w : World) (hs : s.size ≤ 1048576) : Calls Tryd.prog 38 #[.string s] w fun e w' => (∃ b : Bool, e = .returned (.bool b) ∧ (b = true ↔ isNum s)) ∧ w = w' := by
  by_cases h0 : s.size = 0
  · have he : s.toList.isEmpty = true := by rw [toList_empty]; simp [h0]
    go_enter Tryd.func38, Tryd.ntmps38
    go_wp2
    go_ret
    exact ⟨⟨_, rfl, by simp [isNum, h0]⟩, rfl⟩
  · have he : s.toList.isEmpty = false := by rw [toList_empty]; simp [h0]
    have hpos : 0 < s.size := by omega
    have hb := by_at hpos
    have HB := Lib.hid hb
    clear hb
    cases q : (((s[0].toNat : Nat) : Int) == 45) with
    | true =>
      have hq := eq_of_beq q
      have HQ := Lib.hid (show by_ s 0 = 45 by rw [HB.out]; exact hq)
      clear hq
      by_cases h2 : 1 < s.size
      · have hc := by_at h2
        have HC := Lib.hid hc
        clear hc
        go_enter Tryd.func38, Tryd.ntmps38
        go_wp2_with (go_at_call 37; refine (numR_c s 0 _ hs (by omega)).mono ?_; rintro _ _ ⟨r, rfl, hr, rfl⟩; have HR := Lib.hid hr; clear hr)
        all_goals
          go_ret
          refine ⟨⟨_, rfl, ?_⟩, rfl⟩
          rw [isNum_iff, if_pos HQ.out, HC.out]
        · constructor
          · intro h; cases h
          · rintro ⟨_, h1, _⟩
            first | exact absurd (HR.out.only h1) (of_bne (by assumption)) | (have := h1.only HR.out; omega)
        · have hrs : r = s.size := of_beqf (by assumption)
          have HN : NumAt s 0 s.size := hrs ▸ HR.out
          constructor
          · intro h
            exact ⟨hpos, HN, by simpa using h⟩
          · rintro ⟨_, _, h⟩
            simpa using h
      · have hz : ∀ r, NumAt s 0 r → r = 0 := by
          rintro r ⟨k, h3, h4⟩
          have hd : dash s 0 = 1 := by unfold dash; rw [HQ.out, if_pos rfl]
          rw [hd] at h3 h4
          have := h3.1
          have := h3.2.1
          rw [h4, if_pos (by omega)]
        have HZ := Lib.hid hz
        clear hz
        go_enter Tryd.func38, Tryd.ntmps38
        go_wp2_with (go_at_call 37; refine (numR_c s 0 _ hs (by omega)).mono ?_; rintro _ _ ⟨r, rfl, hr, rfl⟩; obtain rfl := HZ.out r hr; have HR := Lib.hid hr; clear hr)
        all_goals
          go_ret
          refine ⟨⟨_, rfl, ?_⟩, rfl⟩
          rw [isNum_iff]
          constructor
          · intro h; cases h
          · rintro ⟨_, h1, _⟩
            first | exact absurd (HR.out.only h1) (of_bne (by assumption)) | (have := h1.only HR.out; omega)
    | false =>
      have HQ := Lib.hid (show by_ s 0 ≠ 45 by rw [HB.out]; intro h; rw [h] at q; simp at q)
      cases tl : (s.toList == [48]) with
      | true =>
        have h1 : s.size = 1 := by
          have := eq_of_beq tl
          rw [ByteArray.toList_eq] at this
          show s.data.toList.length = 1
          rw [this]; rfl
        have H1 := Lib.hid h1
        clear h1
        go_enter Tryd.func38, Tryd.ntmps38
        go_wp2_with (go_at_call 37; refine (numR_c s 0 _ hs (by omega)).mono ?_; rintro _ _ ⟨r, rfl, hr, rfl⟩; have HR := Lib.hid hr; clear hr)
        all_goals
          go_ret
          refine ⟨⟨_, rfl, ?_⟩, rfl⟩
          rw [isNum_iff, if_neg HQ.out]
        · constructor
          · intro h; cases h
          · rintro ⟨_, h1, _⟩
            first | exact absurd (HR.out.only h1) (of_bne (by assumption)) | (have := h1.only HR.out; omega)
        · have hrs : r = s.size := of_beqf (by assumption)
          have HN : NumAt s 0 s.size := hrs ▸ HR.out
          exact ⟨fun _ => ⟨hpos, HN, .inl H1.out⟩, fun _ => rfl⟩
      | false =>
        have h1 : by_ s 0 = 48 → s.size ≠ 1 := by
          intro h e
          rw [HB.out] at h
          obtain ⟨⟨l⟩⟩ := s
          match l, e with
          | [x], _ =>
            have hx : x.toNat = 48 := by
              have : (((⟨⟨[x]⟩⟩ : ByteArray)[0]).toNat : Int) = 48 := h
              exact Int.ofNat.inj this
            have : x = 48 := by apply UInt8.toNat_inj.1; rw [hx]; rfl
            subst this
            rw [ByteArray.toList_eq] at tl
            cases tl
        have H1 := Lib.hid h1
        clear h1
        go_enter Tryd.func38, Tryd.ntmps38
        go_wp2_with (go_at_call 37; refine (numR_c s 0 _ hs (by omega)).mono ?_; rintro _ _ ⟨r, rfl, hr, rfl⟩; have HR := Lib.hid hr; clear hr)
        all_goals
          go_ret
          refine ⟨⟨_, rfl, ?_⟩, rfl⟩
          rw [isNum_iff, if_neg HQ.out]
        · constructor
          · intro h; cases h
          · rintro ⟨_, h1, _⟩
            first | exact absurd (HR.out.only h1) (of_bne (by assumption)) | (have := h1.only HR.out; omega)
        · have hrs : r = s.size := of_beqf (by assumption)
          have HN : NumAt s 0 s.size := hrs ▸ HR.out
          have h1 := H1.out
          rw [HB.out] at h1 ⊢
          constructor
          · intro h
            exact ⟨hpos, HN, .inr (by simpa using h)⟩
          · rintro ⟨_, _, h⟩
            rcases h with h | h
            · simp only [bne_iff_ne, ne_eq]
              exact fun e => h1 e h
            · simpa using h
end Go.Proofs.YthhkpoobcnmdgaaDoor
/-
  Plain mathematics of rows of limbs (base 2^32, the lowest first); nothing of the program stands here.
-/
namespace Go.Proofs.YthhkpoobcnmdgaaDoor
namespace M
set_option linter.unusedVariables false

/-- The base of limbs. -/
def R : Nat := 4294967296
theorem R_pos : 0 < R := by decide
theorem R_eq : R = 4294967296 := rfl

/-- A row's number. -/
def val : List Nat → Nat
  | [] => 0
  | x :: xs => x + R * val xs

/-- All limbs are limbs. -/
def Lim (xs : List Nat) : Prop := ∀ x ∈ xs, x < R

/-- A row without noughts at its high end. -/
def tr : List Nat → List Nat
  | [] => []
  | x :: xs => if x = 0 ∧ tr xs = [] then [] else x :: tr xs

theorem val_nil : val [] = 0 := rfl
theorem val_cons (x : Nat) (xs : List Nat) : val (x :: xs) = x + R * val xs := rfl

theorem val_append (xs ys : List Nat) : val (xs ++ ys) = val xs + R ^ xs.length * val ys := by
  induction xs with
  | nil => simp [val]
  | cons x xs ih =>
    simp only [List.cons_append, val, ih, List.length_cons, Nat.pow_succ, Nat.mul_add]
    have : R * (R ^ xs.length * val ys) = R ^ xs.length * R * val ys := by rw [← Nat.mul_assoc, Nat.mul_comm R]
    omega

theorem val_lt {xs : List Nat} (h : Lim xs) : val xs < R ^ xs.length := by
  induction xs with
  | nil => simp [val]
  | cons x xs ih =>
    have h1 := ih (fun y hy => h y (by simp [hy]))
    have h2 : x < R := h x (by simp)
    simp only [val, List.length_cons, Nat.pow_succ]
    have h3 : val xs + 1 ≤ R ^ xs.length := h1
    have h4 : R * (val xs + 1) ≤ R * R ^ xs.length := Nat.mul_le_mul_left _ h3
    rw [Nat.mul_comm (R ^ xs.length)]
    rw [Nat.mul_add] at h4
    omega

theorem Lim.nil : Lim [] := by intro x hx; cases hx
theorem Lim.cons {x : Nat} {xs : List Nat} (hx : x < R) (h : Lim xs) : Lim (x :: xs) := by
  intro y hy
  rcases List.mem_cons.1 hy with rfl | hy
  · exact hx
  · exact h y hy
theorem Lim.append {xs ys : List Nat} (h : Lim xs) (k : Lim ys) : Lim (xs ++ ys) := by
  intro y hy
  rcases List.mem_append.1 hy with hy | hy
  · exact h y hy
  · exact k y hy
theorem Lim.take {xs : List Nat} (h : Lim xs) (n : Nat) : Lim (xs.take n) := fun x hx => h x (List.mem_of_mem_take hx)
theorem Lim.drop {xs : List Nat} (h : Lim xs) (n : Nat) : Lim (xs.drop n) := fun x hx => h x (List.mem_of_mem_drop hx)
theorem Lim.tail {x : Nat} {xs : List Nat} (h : Lim (x :: xs)) : Lim xs := fun y hy => h y (by simp [hy])
theorem Lim.head {x : Nat} {xs : List Nat} (h : Lim (x :: xs)) : x < R := h x (by simp)
theorem Lim.get {xs : List Nat} (h : Lim xs) {i x : Nat} (hx : xs[i]? = some x) : x < R := h x (List.mem_of_getElem? hx)
theorem Lim.of_append_left {xs ys : List Nat} (h : Lim (xs ++ ys)) : Lim xs := fun x hx => h x (by simp [hx])
theorem Lim.of_append_right {xs ys : List Nat} (h : Lim (xs ++ ys)) : Lim ys := fun x hx => h x (by simp [hx])

/-! ### tr -/
theorem tr_lim {xs : List Nat} (h : Lim xs) : Lim (tr xs) := by
  induction xs with
  | nil => exact h
  | cons x xs ih =>
    simp only [tr]
    split
    · exact Lim.nil
    · exact Lim.cons h.head (ih h.tail)

theorem val_tr (xs : List Nat) : val (tr xs) = val xs := by
  induction xs with
  | nil => rfl
  | cons x xs ih =>
    simp only [tr]
    split
    · rename_i h
      obtain ⟨h0, h1⟩ := h
      rw [h1] at ih
      simp only [val] at ih ⊢
      rw [← ih, h0, Nat.mul_zero]
    · simp only [val, ih]

theorem tr_prefix (xs : List Nat) : tr xs = xs.take (tr xs).length := by
  induction xs with
  | nil => rfl
  | cons x xs ih =>
    simp only [tr]
    split
    · rfl
    · simp only [List.length_cons, List.take_succ_cons]
      rw [← ih]

theorem tr_length_le (xs : List Nat) : (tr xs).length ≤ xs.length := by
  have h := congrArg List.length (tr_prefix xs)
  rw [List.length_take] at h
  omega

theorem tr_snoc_zero (xs : List Nat) : tr (xs ++ [0]) = tr xs := by
  induction xs with
  | nil => simp [tr]
  | cons x xs ih => simp only [List.cons_append, tr, ih]

theorem tr_snoc_pos (xs : List Nat) {x : Nat} (h : x ≠ 0) : tr (xs ++ [x]) = xs ++ [x] := by
  induction xs with
  | nil => simp [tr, h]
  | cons y xs ih =>
    simp only [List.cons_append, tr, ih]
    rw [if_neg]
    intro hc
    have := hc.2
    simp at this

theorem tr_tr (xs : List Nat) : tr (tr xs) = tr xs := by
  induction xs with
  | nil => rfl
  | cons x xs ih =>
    by_cases h : x = 0 ∧ tr xs = []
    · simp only [tr, if_pos h]
    · have h1 : tr (x :: xs) = x :: tr xs := by simp only [tr, if_neg h]
      rw [h1]
      simp only [tr, ih]
      rw [if_neg h]

theorem tr_eq_nil_iff (xs : List Nat) : tr xs = [] ↔ val xs = 0 := by
  induction xs with
  | nil => simp [tr, val]
  | cons x xs ih =>
    simp only [tr, val]
    have hR := R_pos
    constructor
    · intro h
      by_cases hc : x = 0 ∧ tr xs = []
      · have := ih.1 hc.2
        rw [hc.1, this, Nat.mul_zero]
      · rw [if_neg hc] at h
        cases h
    · intro h
      have h1 : x = 0 := by omega
      have h2 : R * val xs = 0 := by omega
      have h3 : val xs = 0 := by
        rcases Nat.mul_eq_zero.1 h2 with h | h
        · omega
        · exact h
      rw [if_pos ⟨h1, ih.2 h3⟩]

/-- Trimmed rows of one number are one. -/
theorem tr_unique {xs ys : List Nat} (hx : Lim xs) (hy : Lim ys) (h : val xs = val ys) : tr xs = tr ys := by
  induction xs generalizing ys with
  | nil =>
    have h0 : val ys = 0 := by rw [← h]; rfl
    rw [(tr_eq_nil_iff ys).2 h0]
    rfl
  | cons x xs ih =>
    cases ys with
    | nil =>
      have h0 : val (x :: xs) = 0 := by rw [h]; rfl
      rw [(tr_eq_nil_iff _).2 h0]
      rfl
    | cons y ys =>
      simp only [val] at h
      have hx0 := hx.head
      have hy0 := hy.head
      have e1 : (x + R * val xs) % R = x := by rw [Nat.add_mul_mod_self_left, Nat.mod_eq_of_lt hx0]
      have e2 : (y + R * val ys) % R = y := by rw [Nat.add_mul_mod_self_left, Nat.mod_eq_of_lt hy0]
      have e3 : x = y := by rw [← e1, h, e2]
      subst e3
      have e4 : R * val xs = R * val ys := by omega
      have e5 : val xs = val ys := Nat.eq_of_mul_eq_mul_left R_pos e4
      simp only [tr, ih hx.tail hy.tail e5]

/-- A row that is trimmed. -/
def Tr (xs : List Nat) : Prop := tr xs = xs
theorem Tr.of_tr (xs : List Nat) : Tr (tr xs) := tr_tr xs
theorem Tr.unique {xs ys : List Nat} (hx : Lim xs) (hy : Lim ys) (tx : Tr xs) (ty : Tr ys) (h : val xs = val ys) : xs = ys := by
  rw [← tx, ← ty]
  exact tr_unique hx hy h
theorem Tr.nil : Tr [] := rfl

theorem tr_take_succ {xs : List Nat} {k x : Nat} (h : xs[k]? = some x) : xs.take (k + 1) = xs.take k ++ [x] := by
  rw [List.take_add_one, h]
  rfl

/-! ### The row of a number -/
/-- The trimmed row of a number. -/
def lims (n : Nat) : List Nat := if _h : n = 0 then [] else (n % R) :: lims (n / R)
termination_by n
decreasing_by exact Nat.div_lt_self (by omega) (by decide)

theorem lims_zero : lims 0 = [] := by rw [lims]; rfl
theorem lims_pos {n : Nat} (h : n ≠ 0) : lims n = (n % R) :: lims (n / R) := by rw [lims, dif_neg h]

theorem lims_ind (p : Nat → Prop) (h0 : p 0) (h1 : ∀ n, n ≠ 0 → p (n / R) → p n) (n : Nat) : p n := by
  induction n using Nat.strongRecOn with
  | ind n ih =>
    by_cases h : n = 0
    · subst h; exact h0
    · exact h1 n h (ih _ (Nat.div_lt_self (by omega) (by decide)))

theorem val_lims (n : Nat) : val (lims n) = n := by
  refine lims_ind (fun n => val (lims n) = n) (by rw [lims_zero]; rfl) (fun n h ih => ?_) n
  rw [lims_pos h, val_cons, ih]
  have := Nat.div_add_mod n R
  omega

theorem lim_lims (n : Nat) : Lim (lims n) := by
  refine lims_ind (fun n => Lim (lims n)) (by rw [lims_zero]; exact Lim.nil) (fun n h ih => ?_) n
  rw [lims_pos h]
  exact Lim.cons (Nat.mod_lt _ R_pos) ih

theorem tr_lims (n : Nat) : Tr (lims n) := by
  refine lims_ind (fun n => Tr (lims n)) (by rw [lims_zero]; exact Tr.nil) (fun n h ih => ?_) n
  rw [lims_pos h]
  unfold Tr at ih ⊢
  simp only [tr, ih]
  rw [if_neg]
  intro hc
  apply h
  have h1 : val (lims (n / R)) = 0 := by rw [hc.2]; rfl
  rw [val_lims] at h1
  have := Nat.div_add_mod n R
  rw [h1, hc.1] at this
  omega

theorem tr_eq_lims {xs : List Nat} (h : Lim xs) : tr xs = lims (val xs) := by
  rw [← tr_lims (val xs)]
  exact tr_unique h (lim_lims _) (val_lims _).symm

theorem lims_val {xs : List Nat} (h : Lim xs) (t : Tr xs) : lims (val xs) = xs := by rw [← tr_eq_lims h]; exact t

theorem lims_inj {n m : Nat} : lims n = lims m ↔ n = m := by
  constructor
  · intro h
    rw [← val_lims n, h, val_lims]
  · intro h
    rw [h]

theorem lims_eq_nil {n : Nat} : lims n = [] ↔ n = 0 := by rw [← lims_zero, lims_inj]

theorem lims_length_le {n k : Nat} : (lims n).length ≤ k ↔ n < R ^ k := by
  induction k generalizing n with
  | zero =>
    simp only [Nat.pow_zero, Nat.le_zero, List.length_eq_zero_iff, lims_eq_nil]
    omega
  | succ k ih =>
    by_cases h : n = 0
    · subst h
      rw [lims_zero]
      simp [Nat.pow_pos R_pos]
    · rw [lims_pos h, List.length_cons, Nat.add_le_add_iff_right, ih, Nat.pow_succ, Nat.div_lt_iff_lt_mul R_pos]

theorem val_lt_pow {xs : List Nat} {k : Nat} (h : Lim xs) (hk : xs.length ≤ k) : val xs < R ^ k :=
  Nat.lt_of_lt_of_le (val_lt h) (Nat.pow_le_pow_right R_pos hk)

theorem lims_val_length_le {xs : List Nat} (h : Lim xs) : (lims (val xs)).length ≤ xs.length := lims_length_le.2 (val_lt h)

/-- A limb of a row that goes on with noughts. -/
def limbAt (xs : List Nat) (i : Nat) : Nat := xs[i]?.getD 0
theorem limbAt_some {xs : List Nat} {i x : Nat} (h : xs[i]? = some x) : limbAt xs i = x := by unfold limbAt; rw [h]; rfl
theorem limbAt_none {xs : List Nat} {i : Nat} (h : xs.length ≤ i) : limbAt xs i = 0 := by unfold limbAt; rw [List.getElem?_eq_none h]; rfl
theorem limbAt_lt {xs : List Nat} (h : Lim xs) (i : Nat) : limbAt xs i < R := by
  unfold limbAt
  cases hx : xs[i]? with
  | none => exact R_pos
  | some x => exact h.get hx

theorem limbAt_tr (xs : List Nat) (i : Nat) : limbAt (tr xs) i = limbAt xs i := by
  induction xs generalizing i with
  | nil => rfl
  | cons x xs ih =>
    simp only [tr]
    split
    · rename_i h
      cases i with
      | zero => simp [limbAt, h.1]
      | succ i =>
        have := ih i
        rw [h.2] at this
        simp only [limbAt, List.getElem?_cons_succ] at this ⊢
        rw [← this]
        simp
    · cases i with
      | zero => rfl
      | succ i =>
        have := ih i
        simp only [limbAt, List.getElem?_cons_succ] at this ⊢
        exact this

theorem val_two {xs : List Nat} (h : (tr xs).length ≤ 2) : val xs = limbAt xs 0 + R * limbAt xs 1 := by
  rw [← val_tr xs, ← limbAt_tr xs 0, ← limbAt_tr xs 1]
  match hx : tr xs, h with
  | [], _ => rfl
  | [x], _ => simp [val, limbAt]
  | [x, y], _ => simp [val, limbAt]
  | x :: y :: z :: r, h => simp at h

theorem val_take_succ (xs : List Nat) (i : Nat) : val (xs.take (i + 1)) = val (xs.take i) + R ^ i * limbAt xs i := by
  by_cases h : i < xs.length
  · have hx : xs[i]? = some xs[i] := List.getElem?_eq_getElem h
    rw [tr_take_succ hx, val_append, limbAt_some hx, List.length_take, Nat.min_eq_left (Nat.le_of_lt h)]
    simp [val]
  · have h' : xs.length ≤ i := by omega
    rw [limbAt_none h', List.take_of_length_le h', List.take_of_length_le (by omega)]
    simp

/-! ### Sums by columns -/
/-- The limbs of rows at one place, together. -/
def col (rs : List (List Nat)) (i : Nat) : Nat := (rs.map fun r => limbAt r i).sum
/-- The numbers of rows' first limbs, together. -/
def tot (rs : List (List Nat)) (i : Nat) : Nat := (rs.map fun r => val (r.take i)).sum
/-- The numbers of rows, together. -/
def vals (rs : List (List Nat)) : Nat := (rs.map val).sum

theorem tot_zero (rs : List (List Nat)) : tot rs 0 = 0 := by
  induction rs with
  | nil => rfl
  | cons r rs ih => simp only [tot, List.map_cons, List.sum_cons, List.take_zero, val_nil] at ih ⊢; omega

theorem tot_succ (rs : List (List Nat)) (i : Nat) : tot rs (i + 1) = tot rs i + R ^ i * col rs i := by
  induction rs with
  | nil => simp [tot, col]
  | cons r rs ih =>
    simp only [tot, col, List.map_cons, List.sum_cons] at ih ⊢
    rw [val_take_succ, ih, Nat.mul_add]
    omega

theorem tot_all {rs : List (List Nat)} {m : Nat} (h : ∀ r ∈ rs, r.length ≤ m) : tot rs m = vals rs := by
  induction rs with
  | nil => rfl
  | cons r rs ih =>
    have h1 := ih fun r hr => h r (by simp [hr])
    simp only [tot, vals, List.map_cons, List.sum_cons] at h1 ⊢
    rw [h1, List.take_of_length_le (h r (by simp))]

theorem col_take_succ {rs : List (List Nat)} {j : Nat} {r : List Nat} (h : rs[j]? = some r) (i : Nat) : col (rs.take (j + 1)) i = col (rs.take j) i + limbAt r i := by
  rw [tr_take_succ' h]
  simp [col]
where tr_take_succ' {α : Type} {xs : List α} {k : Nat} {x : α} (h : xs[k]? = some x) : xs.take (k + 1) = xs.take k ++ [x] := by
        rw [List.take_add_one, h]
        rfl

theorem col_le {rs : List (List Nat)} (h : ∀ r ∈ rs, Lim r) (i : Nat) : col rs i + rs.length ≤ rs.length * R := by
  induction rs with
  | nil => simp [col]
  | cons r rs ih =>
    have h1 := ih fun r hr => h r (by simp [hr])
    have h2 := limbAt_lt (h r (by simp)) i
    simp only [col, List.map_cons, List.sum_cons, List.length_cons, Nat.add_mul, Nat.one_mul] at h1 ⊢
    omega

/-- One column more. -/
theorem sum_step {rs : List (List Nat)} {ds : List Nat} {i c : Nat} (hl : ds.length = i) (h : val ds + R ^ i * c = tot rs i) :
    val (ds ++ [(c + col rs i) % R]) + R ^ (i + 1) * ((c + col rs i) / R) = tot rs (i + 1) := by
  rw [val_append, hl, tot_succ, ← h, val_cons, val_nil, Nat.mul_zero, Nat.add_zero, Nat.pow_succ]
  have e := Nat.div_add_mod (c + col rs i) R
  have e2 : R ^ i * ((c + col rs i) % R) + R ^ i * R * ((c + col rs i) / R) = R ^ i * (c + col rs i) := by
    rw [Nat.mul_assoc, ← Nat.mul_add]
    congr 1
    omega
  have e3 : R ^ i * (c + col rs i) = R ^ i * c + R ^ i * col rs i := Nat.mul_add _ _ _
  omega

/-- The carry stays below the count of rows. -/
theorem sum_carry {rs : List (List Nat)} (h : ∀ r ∈ rs, Lim r) {i c : Nat} (hc : c < rs.length) : (c + col rs i) / R < rs.length := by
  have h1 := col_le h i
  rw [Nat.div_lt_iff_lt_mul R_pos]
  omega

/-! ### Division by one limb -/
/-- One limb more of a division, from the high end down. -/
theorem div_step {zs : List Nat} {b left x V : Nat} (hb : 0 < b) (h : V = val zs * b + left) :
    x + R * V = val ((R * left + x) / b :: zs) * b + (R * left + x) % b := by
  rw [val_cons, h, Nat.add_mul]
  have e := Nat.div_add_mod (R * left + x) b
  have e2 : (R * left + x) / b * b = b * ((R * left + x) / b) := Nat.mul_comm _ _
  have e3 : R * (val zs * b + left) = R * val zs * b + R * left := by rw [Nat.mul_add, Nat.mul_assoc]
  omega

theorem div_limb_lt {b left x : Nat} (hl : left < b) (hx : x < R) : (R * left + x) / b < R := by
  rw [Nat.div_lt_iff_lt_mul (by omega)]
  have h1 : R * (left + 1) ≤ R * b := Nat.mul_le_mul_left _ hl
  rw [Nat.mul_add] at h1
  omega

theorem div_done {zs : List Nat} {b left V : Nat} (hl : left < b) (h : V = val zs * b + left) : val zs = V / b ∧ left = V % b := by
  rw [h]
  constructor
  · rw [Nat.mul_comm, Nat.mul_add_div (by omega), Nat.div_eq_of_lt hl, Nat.add_zero]
  · rw [Nat.mul_comm, Nat.mul_add_mod, Nat.mod_eq_of_lt hl]

theorem drop_pred {α : Type} {xs : List α} {k : Nat} {x : α} (h : xs[k]? = some x) : xs.drop k = x :: xs.drop (k + 1) := by
  obtain ⟨hk, rfl⟩ := List.getElem?_eq_some_iff.1 h
  exact List.drop_eq_getElem_cons hk

/-! ### Rows times a limb -/
/-- One limb more: what comes to a place, and what is carried. -/
theorem mac_step {zs : List Nat} {k c y S : Nat} (hl : zs.length = k) (h : val zs + R ^ k * c = S) :
    val (zs ++ [(c + y) % R]) + R ^ (k + 1) * ((c + y) / R) = S + R ^ k * y := by
  rw [val_append, hl, ← h, val_cons, val_nil, Nat.mul_zero, Nat.add_zero, Nat.pow_succ]
  have e := Nat.div_add_mod (c + y) R
  have e2 : R ^ k * ((c + y) % R) + R ^ k * R * ((c + y) / R) = R ^ k * (c + y) := by
    rw [Nat.mul_assoc, ← Nat.mul_add]
    congr 1
    omega
  have e3 : R ^ k * (c + y) = R ^ k * c + R ^ k * y := Nat.mul_add _ _ _
  omega

theorem limb_mul_le {x t : Nat} (hx : x < R) (ht : t < R) : x * t ≤ 18446744065119617025 := by
  rw [R_eq] at hx ht
  have : x * t ≤ 4294967295 * 4294967295 := Nat.mul_le_mul (by omega) (by omega)
  omega

theorem val_take_some {xs : List Nat} {k x : Nat} (h : xs[k]? = some x) : val (xs.take (k + 1)) = val (xs.take k) + R ^ k * x := by
  rw [val_take_succ, limbAt_some h]

/-- One limb more of 'us plus t times xs'. -/
theorem addTimes_step {us xs zs : List Nat} {k c t u x : Nat} (hu : us[k]? = some u) (hx : xs[k]? = some x) (hl : zs.length = k)
    (h : val zs + R ^ k * c = val (us.take k) + t * val (xs.take k)) :
    val (zs ++ [(c + (x * t + u)) % R]) + R ^ (k + 1) * ((c + (x * t + u)) / R) = val (us.take (k + 1)) + t * val (xs.take (k + 1)) := by
  rw [mac_step hl h, val_take_some hu, val_take_some hx, Nat.mul_add, Nat.mul_add]
  have : t * (R ^ k * x) = R ^ k * (x * t) := by rw [Nat.mul_comm x t, ← Nat.mul_assoc, Nat.mul_comm t, Nat.mul_assoc]
  omega

/-- One limb more of 'p plus t times xs'. -/
theorem scale_step {xs zs : List Nat} {k c t p x : Nat} (hx : xs[k]? = some x) (hl : zs.length = k) (h : val zs + R ^ k * c = p + t * val (xs.take k)) :
    val (zs ++ [(c + x * t) % R]) + R ^ (k + 1) * ((c + x * t) / R) = p + t * val (xs.take (k + 1)) := by
  rw [mac_step hl h, val_take_some hx, Nat.mul_add]
  have : t * (R ^ k * x) = R ^ k * (x * t) := by rw [Nat.mul_comm x t, ← Nat.mul_assoc, Nat.mul_comm t, Nat.mul_assoc]
  omega

theorem lim_replicate (n : Nat) : Lim (List.replicate n 0) := by
  intro x hx
  rw [List.eq_of_mem_replicate hx]
  exact R_pos

theorem val_replicate (n : Nat) : val (List.replicate n 0) = 0 := by
  induction n with
  | zero => rfl
  | succ n ih => rw [List.replicate_succ, val_cons, ih, Nat.mul_zero]

/-- One limb more of a long product: what is in the row before, what addTimes leaves, and the carry, are what is in it behind. -/
theorem mul_step {ds zs xs ys : List Nat} {k n cy t : Nat} (hd : ds.length = k + n) (hz : zs.length = n) (ht : ys[k]? = some t) (hv : val ds = val xs * val (ys.take k))
    (hs : val zs + R ^ n * cy = val (ds.drop k) + t * val xs) : val (ds.take k ++ zs ++ [cy]) = val xs * val (ys.take (k + 1)) := by
  have h1 : val ds = val (ds.take k) + R ^ k * val (ds.drop k) := by
    have := val_append (ds.take k) (ds.drop k)
    rw [List.take_append_drop, List.length_take, Nat.min_eq_left (by omega)] at this
    exact this
  rw [val_append, val_append, List.length_append, List.length_take, Nat.min_eq_left (by omega), hz, val_cons, val_nil, Nat.mul_zero, Nat.add_zero, val_take_some ht, Nat.mul_add, ← hv, h1, Nat.pow_add]
  have e1 : R ^ k * R ^ n * cy = R ^ k * (R ^ n * cy) := Nat.mul_assoc _ _ _
  have e2 : R ^ k * (val zs + R ^ n * cy) = R ^ k * (val (ds.drop k) + t * val xs) := by rw [hs]
  rw [Nat.mul_add, Nat.mul_add] at e2
  have e3 : val xs * (R ^ k * t) = R ^ k * (t * val xs) := by rw [Nat.mul_comm t, ← Nat.mul_assoc, Nat.mul_comm (val xs), Nat.mul_assoc]
  omega

end M
end Go.Proofs.YthhkpoobcnmdgaaDoor

/-
  Plain mathematics of long division (Knuth's algorithm D) over rows of limbs.
-/
namespace Go.Proofs.YthhkpoobcnmdgaaDoor
namespace M
set_option linter.unusedVariables false

theorem val_one (z : Nat) : val [z] = z := by simp [val]

/-- What a guess is told by: the quotient of the three highest limbs by the two highest, at most 2^32 - 1. -/
def Guess (t3 b2 g : Nat) : Prop := g < R ∧ g * b2 ≤ t3 ∧ (g + 1 = R ∨ t3 < (g + 1) * b2)

/-- A guess is at most one too great, never too small. -/
theorem guess_near {P b2 vl t3 ul g : Nat} (hP : 0 < P) (hvl : vl < P) (hul : ul < P) (hb : R ≤ b2) (hg : Guess t3 b2 g) (hU : t3 * P + ul < (b2 * P + vl) * R) :
    g * (b2 * P + vl) < t3 * P + ul + (b2 * P + vl) ∧ t3 * P + ul < (g + 1) * (b2 * P + vl) := by
  obtain ⟨h1, h2, h3⟩ := hg
  constructor
  · have e1 : g * (b2 * P + vl) = g * b2 * P + g * vl := by rw [Nat.mul_add, Nat.mul_assoc]
    have e2 : g * b2 * P ≤ t3 * P := Nat.mul_le_mul_right _ h2
    have e3 : g * vl ≤ R * P := Nat.mul_le_mul (Nat.le_of_lt h1) (Nat.le_of_lt hvl)
    have e4 : R * P ≤ b2 * P := Nat.mul_le_mul_right _ hb
    have e5 : g * vl < b2 * P := by
      rcases Nat.eq_zero_or_pos g with h0 | h0
      · rw [h0, Nat.zero_mul]
        exact Nat.mul_pos (Nat.lt_of_lt_of_le R_pos hb) hP
      · have : g * vl < g * P := Nat.mul_lt_mul_of_pos_left hvl h0
        have h6 : g * P ≤ R * P := Nat.mul_le_mul_right _ (Nat.le_of_lt h1)
        omega
    omega
  · rcases h3 with h3 | h3
    · rw [h3, Nat.mul_comm R]
      exact hU
    · have e1 : (g + 1) * (b2 * P + vl) = (g + 1) * b2 * P + (g + 1) * vl := by rw [Nat.mul_add, Nat.mul_assoc]
      have e2 : (t3 + 1) * P ≤ (g + 1) * b2 * P := Nat.mul_le_mul_right _ h3
      rw [Nat.add_mul, Nat.one_mul] at e2
      omega

/-- The quotient is the guess, or one less. -/
theorem guess_div {U V g : Nat} (hV : 0 < V) (h1 : g * V < U + V) (h2 : U < (g + 1) * V) : (g * V ≤ U ∧ U / V = g ∧ U % V = U - g * V) ∨ (U < g * V ∧ 1 ≤ g ∧ U / V = g - 1 ∧ U % V = U + V - g * V) := by
  have hadd : (g + 1) * V = g * V + V := by rw [Nat.add_mul, Nat.one_mul]
  by_cases h : g * V ≤ U
  · left
    have hd : U / V = g := by
      rw [Nat.div_eq_iff hV]
      constructor
      · exact h
      · omega
    refine ⟨h, hd, ?_⟩
    have := Nat.div_add_mod U V
    rw [hd, Nat.mul_comm] at this
    omega
  · right
    have hg : 1 ≤ g := by
      rcases Nat.eq_zero_or_pos g with h0 | h0
      · rw [h0, Nat.zero_mul] at h
        omega
      · exact h0
    have hgs : (g - 1) * V = g * V - V := by rw [Nat.sub_mul, Nat.one_mul]
    have hge : V ≤ g * V := Nat.le_mul_of_pos_left V hg
    have hd : U / V = g - 1 := by
      rw [Nat.div_eq_iff hV]
      constructor
      · omega
      · omega
    refine ⟨by omega, hg, hd, ?_⟩
    have := Nat.div_add_mod U V
    rw [hd, Nat.mul_comm] at this
    omega

/-- The loop that betters a guess keeps this: the guess times the highest limb, and what is left, are the two highest limbs; it is not below what it shall be. -/
structure Better (t3 b0 b1 r0 g left : Nat) : Prop where
  sum : (g * b1 + left) * R + r0 = t3
  ge : ∀ k, k < R → k * (b1 * R + b0) ≤ t3 → k ≤ g

theorem Better.test {t3 b0 b1 r0 g left : Nat} (h : Better t3 b0 b1 r0 g left) : left * R + r0 < g * b0 ↔ t3 < g * (b1 * R + b0) := by
  have := h.sum
  rw [Nat.add_mul] at this
  have e : g * (b1 * R + b0) = g * b1 * R + g * b0 := by rw [Nat.mul_add, Nat.mul_assoc]
  omega

theorem Better.start {b0 b1 r0 top : Nat} (hb : 0 < b1) (hr : r0 < R) : Better (top * R + r0) b0 b1 r0 (top / b1) (top % b1) := by
  constructor
  · rw [Nat.mul_comm (top / b1), Nat.div_add_mod]
  · intro k _ hk
    rw [Nat.le_div_iff_mul_le hb]
    have e : k * (b1 * R + b0) = k * b1 * R + k * b0 := by rw [Nat.mul_add, Nat.mul_assoc]
    refine Nat.le_of_not_lt fun hc => ?_
    have : (top + 1) * R ≤ k * b1 * R := Nat.mul_le_mul_right _ hc
    rw [Nat.add_mul, Nat.one_mul] at this
    omega

theorem Better.step {t3 b0 b1 r0 g left : Nat} (h : Better t3 b0 b1 r0 g left) (hg : 1 ≤ g) (hc : R ≤ g ∨ t3 < g * (b1 * R + b0)) : Better t3 b0 b1 r0 (g - 1) (left + b1) := by
  constructor
  · have e : (g - 1) * b1 + (left + b1) = g * b1 + left := by
      obtain ⟨k, rfl⟩ : ∃ k, g = k + 1 := ⟨g - 1, by omega⟩
      rw [Nat.add_sub_cancel, Nat.add_mul, Nat.one_mul]
      omega
    rw [e]
    exact h.sum
  · intro k hk hkt
    have h1 := h.ge k hk hkt
    rcases hc with hc | hc
    · omega
    · have h2 : k ≠ g := by
        intro e
        rw [e] at hkt
        omega
      omega

/-- Where it ends. -/
theorem Better.done {t3 b0 b1 r0 g left : Nat} (h : Better t3 b0 b1 r0 g left) (hb0 : b0 < R) (hr : r0 < R) (hb1 : 0 < b1) (htop : t3 < (b1 * R + R) * R) (hc : R ≤ left ∨ (g < R ∧ ¬ t3 < g * (b1 * R + b0))) : Guess t3 (b1 * R + b0) g := by
  have key : g < R ∧ g * (b1 * R + b0) ≤ t3 := by
    rcases hc with hc | ⟨h1, h2⟩
    · have hs := h.sum
      have h3 : g * b1 + left < b1 * R + R := by
        refine Nat.lt_of_not_le fun hcc => ?_
        have : (b1 * R + R) * R ≤ (g * b1 + left) * R := Nat.mul_le_mul_right _ hcc
        omega
      have h4 : g * b1 < R * b1 := by rw [Nat.mul_comm R]; omega
      have h5 : g < R := Nat.lt_of_mul_lt_mul_right h4
      refine ⟨h5, ?_⟩
      have h6 : ¬ left * R + r0 < g * b0 := by
        have h7 : g * b0 ≤ R * R := Nat.mul_le_mul (Nat.le_of_lt h5) (Nat.le_of_lt hb0)
        have h8 : R * R ≤ left * R := Nat.mul_le_mul_right _ hc
        omega
      rw [h.test] at h6
      omega
    · exact ⟨h1, by omega⟩
  refine ⟨key.1, key.2, ?_⟩
  by_cases hR : g + 1 = R
  · exact .inl hR
  · right
    refine Nat.lt_of_not_le fun hcc => ?_
    have := h.ge (g + 1) (by have := key.1; omega) hcc
    omega

/-- The first guess is at most 2^32 + 1. -/
theorem guess_start {b1 r2 r1 : Nat} (hb : 2147483648 ≤ b1) (hr2 : r2 ≤ b1) (hr1 : r1 < R) : (r2 * R + r1) / b1 ≤ 4294967297 := by
  have hb0 : 0 < b1 := by omega
  refine Nat.le_of_lt_succ ?_
  rw [Nat.div_lt_iff_lt_mul hb0]
  have h1 : r2 * R ≤ b1 * R := Nat.mul_le_mul_right _ hr2
  rw [R_eq] at h1 hr1 ⊢
  have h2 : (4294967297 + 1) * b1 = b1 * 4294967296 + 2 * b1 := by omega
  rw [Nat.succ_eq_add_one, h2]
  omega

/-- One limb more of 'us less t times vs'. -/
theorem take_step {us vs zs : List Nat} {k bo cy t u v z bo' : Nat} (hu : us[k]? = some u) (hv : vs[k]? = some v) (hl : zs.length = k)
    (h : val (us.take k) + R ^ k * (bo + cy) = val zs + t * val (vs.take k)) (hz : u + R * bo' = z + (cy + v * t) % R + bo) :
    val (us.take (k + 1)) + R ^ (k + 1) * (bo' + (cy + v * t) / R) = val (zs ++ [z]) + t * val (vs.take (k + 1)) := by
  rw [val_take_some hu, val_take_some hv, val_append, hl, val_one, Nat.pow_succ]
  have e1 := Nat.div_add_mod (cy + v * t) R
  have e2 : R ^ k * (u + R * bo' + R * ((cy + v * t) / R)) = R ^ k * (z + bo + (cy + v * t)) := by congr 1; omega
  have e3 : R ^ k * R * (bo' + (cy + v * t) / R) = R ^ k * (R * bo') + R ^ k * (R * ((cy + v * t) / R)) := by rw [Nat.mul_assoc, Nat.mul_add, Nat.mul_add]
  have e4 : R ^ k * (u + R * bo' + R * ((cy + v * t) / R)) = R ^ k * u + R ^ k * (R * bo') + R ^ k * (R * ((cy + v * t) / R)) := by rw [Nat.mul_add, Nat.mul_add]
  have e5 : R ^ k * (z + bo + (cy + v * t)) = R ^ k * z + R ^ k * (bo + cy) + R ^ k * (v * t) := by rw [← Nat.mul_add, ← Nat.mul_add]; congr 1; omega
  have e6 : t * (val (vs.take k) + R ^ k * v) = t * val (vs.take k) + R ^ k * (v * t) := by
    rw [Nat.mul_add]
    congr 1
    rw [Nat.mul_comm v t, ← Nat.mul_assoc, Nat.mul_comm t, Nat.mul_assoc]
  omega

/-- The last limb of 'us less t times vs'. -/
theorem take_last {us zs : List Nat} {n bo cy u z bo' T : Nat} (hu : us[n]? = some u) (hul : us.length = n + 1) (hl : zs.length = n)
    (h : val (us.take n) + R ^ n * (bo + cy) = val zs + T) (hz : u + R * bo' = z + cy + bo) : val us + R ^ (n + 1) * bo' = val (zs ++ [z]) + T := by
  have e0 : val us = val (us.take n) + R ^ n * u := by
    have := val_take_some hu
    rw [List.take_of_length_le (by omega)] at this
    exact this
  rw [e0, val_append, hl, val_one, Nat.pow_succ]
  have e1 : R ^ n * (u + R * bo') = R ^ n * (z + cy + bo) := by rw [hz]
  have e2 : R ^ n * (u + R * bo') = R ^ n * u + R ^ n * R * bo' := by rw [Nat.mul_add, Nat.mul_assoc]
  have e3 : R ^ n * (z + cy + bo) = R ^ n * z + R ^ n * (bo + cy) := by rw [← Nat.mul_add]; congr 1; omega
  omega

/-- A row's two and three highest limbs. -/
theorem val_top2 {vs : List Nat} {n b0 b1 : Nat} (hl : vs.length = n + 2) (h0 : vs[n]? = some b0) (h1 : vs[n + 1]? = some b1) : val vs = (b1 * R + b0) * R ^ n + val (vs.take n) := by
  have e1 := val_take_some h1
  have e0 := val_take_some h0
  rw [List.take_of_length_le (by omega)] at e1
  rw [e1, e0, Nat.pow_succ, Nat.add_mul]
  have e2 : b1 * R * R ^ n = R ^ n * R * b1 := by rw [Nat.mul_comm b1, Nat.mul_comm (R * b1), Nat.mul_assoc]
  have e3 : b0 * R ^ n = R ^ n * b0 := Nat.mul_comm _ _
  omega
theorem val_top3 {us : List Nat} {n r0 r1 r2 : Nat} (hl : us.length = n + 3) (h0 : us[n]? = some r0) (h1 : us[n + 1]? = some r1) (h2 : us[n + 2]? = some r2) :
    val us = ((r2 * R + r1) * R + r0) * R ^ n + val (us.take n) := by
  have e2 := val_take_some h2
  rw [List.take_of_length_le (by omega)] at e2
  have e1 := val_top2 (vs := us.take (n + 2)) (n := n) (b0 := r0) (b1 := r1) (by rw [List.length_take]; omega) (by rw [List.getElem?_take, if_pos (by omega), h0]) (by rw [List.getElem?_take, if_pos (by omega), h1])
  rw [List.take_take, Nat.min_eq_left (by omega)] at e1
  rw [e2, e1]
  have e5 : (r2 * R + r1) * R + r0 = r2 * R * R + (r1 * R + r0) := by rw [Nat.add_mul, Nat.add_assoc]
  have e4 : r2 * R * R * R ^ n = R ^ (n + 2) * r2 := by simp only [Nat.pow_succ, Nat.mul_assoc, Nat.mul_comm, Nat.mul_left_comm]
  rw [e5, Nat.add_mul (r2 * R * R), e4]
  omega

end M
end Go.Proofs.YthhkpoobcnmdgaaDoor

/-
  Plain mathematics of digits: bytes of texts, numbers of digits.
-/
namespace Go.Proofs.YthhkpoobcnmdgaaDoor
namespace M
set_option linter.unusedVariables false

/-- A text's bytes. -/
def bytes (s : ByteArray) : List Nat := s.data.toList.map UInt8.toNat
theorem bytes_len (s : ByteArray) : (bytes s).length = s.size := by unfold bytes; rw [List.length_map, Lib.size_eq]
theorem bytes_get (s : ByteArray) (k : Nat) (h : k < s.size) : (bytes s)[k]? = some (s[k].toNat) := by
  unfold bytes
  rw [List.getElem?_map]
  have h' : k < s.data.toList.length := by rw [← Lib.size_eq]; exact h
  rw [List.getElem?_eq_getElem h']
  rfl
theorem bytes_inj {s t : ByteArray} (h : bytes s = bytes t) : s = t := by
  unfold bytes at h
  have h2 := (List.map_inj_right (fun a b hab => UInt8.toNat_inj.1 hab)).1 h
  obtain ⟨⟨a⟩⟩ := s
  obtain ⟨⟨b⟩⟩ := t
  simp at h2
  rw [h2]
theorem bytes_extract (s : ByteArray) (a b : Nat) : bytes (s.extract a b) = ((bytes s).drop a).take (b - a) := by
  unfold bytes
  rw [Lib.extract_data, List.map_take, List.map_drop]
theorem bytes_tail (s : ByteArray) (a : Nat) : bytes (s.extract a s.size) = (bytes s).drop a := by
  unfold bytes
  rw [Lib.extract_to_end, List.map_drop]

/-- These bytes are digits' bytes. -/
def Dig (l : List Nat) : Prop := ∀ x ∈ l, 48 ≤ x ∧ x ≤ 57
/-- These bytes are the digits of a number. -/
def Digits (l : List Nat) : Prop := l ≠ [] ∧ (l[0]? = some 48 → l.length = 1) ∧ Dig l
instance (l : List Nat) : Decidable (Dig l) := by unfold Dig; infer_instance
instance (l : List Nat) : Decidable (Digits l) := by unfold Digits; infer_instance

/-- Digits, read on from a number. -/
def dec (v : Nat) (l : List Nat) : Nat := l.foldl (fun a x => a * 10 + (x - 48)) v
theorem dec_nil (v : Nat) : dec v [] = v := rfl
theorem dec_cons (v x : Nat) (l : List Nat) : dec v (x :: l) = dec (v * 10 + (x - 48)) l := by unfold dec; rw [List.foldl_cons]
theorem dec_append (v : Nat) (l m : List Nat) : dec v (l ++ m) = dec (dec v l) m := by unfold dec; rw [List.foldl_append]

theorem dec_shift (v : Nat) (l : List Nat) : dec v l = v * 10 ^ l.length + dec 0 l := by
  induction l generalizing v with
  | nil => rw [dec_nil, dec_nil, List.length_nil, Nat.pow_zero, Nat.mul_one, Nat.add_zero]
  | cons x l ih =>
    rw [dec_cons, dec_cons, List.length_cons, ih, ih (0 * 10 + (x - 48)), Nat.pow_succ, Nat.add_mul, Nat.zero_mul, Nat.zero_add]
    have : v * 10 * 10 ^ l.length = v * (10 ^ l.length * 10) := by rw [Nat.mul_assoc, Nat.mul_comm 10]
    omega

theorem dec_lt {l : List Nat} (h : Dig l) : dec 0 l < 10 ^ l.length := by
  induction l with
  | nil => rw [dec_nil]; exact Nat.one_pos
  | cons x l ih =>
    have hx := h x (by simp)
    have h1 := ih fun y hy => h y (by simp [hy])
    rw [dec_cons, List.length_cons, dec_shift, Nat.pow_succ]
    have h2 : (0 * 10 + (x - 48)) * 10 ^ l.length ≤ 9 * 10 ^ l.length := Nat.mul_le_mul_right _ (by omega)
    omega

theorem dec_snoc (v : Nat) (l : List Nat) (x : Nat) : dec v (l ++ [x]) = dec v l * 10 + (x - 48) := by rw [dec_append, dec_cons, dec_nil]

/-- Rows that are trimmed, behind a scale. -/
theorem lims_of_len {ds : List Nat} (hl : Lim ds) (h : ds = [] ∨ R ^ (ds.length - 1) ≤ val ds) : lims (val ds) = ds := by
  rw [← tr_eq_lims hl]
  rcases h with rfl | h
  · rfl
  · have h1 : (tr ds).length = ds.length := by
      rcases Nat.lt_or_ge (tr ds).length ds.length with hlt | hge
      · have h2 : (lims (val ds)).length ≤ ds.length - 1 := by rw [← tr_eq_lims hl]; omega
        rw [lims_length_le] at h2
        omega
      · have := tr_length_le ds
        omega
    rw [tr_prefix, h1, List.take_length]

theorem lims_snoc {ds : List Nat} {c : Nat} (hl : Lim ds) (hc : c < R) (h : c ≠ 0) : lims (val ds + R ^ ds.length * c) = ds ++ [c] := by
  have e : val ds + R ^ ds.length * c = val (ds ++ [c]) := by rw [val_append]; simp [val]
  rw [e, ← tr_eq_lims (hl.append (Lim.cons hc Lim.nil)), tr_snoc_pos _ h]

theorem pow_le_lims {v : Nat} (h : lims v ≠ []) : R ^ ((lims v).length - 1) ≤ v := by
  refine Nat.le_of_not_lt fun hc => ?_
  have h1 := lims_length_le.2 hc
  have h2 : 0 < (lims v).length := List.length_pos_iff.2 h
  omega

/-! ### The digits of a number -/
/-- Its digits' bytes, the lowest first; of 0 none. -/
def lows (n : Nat) : List Nat := if _h : n = 0 then [] else (48 + n % 10) :: lows (n / 10)
termination_by n
decreasing_by omega

theorem lows_zero : lows 0 = [] := by rw [lows]; rfl
theorem lows_pos {n : Nat} (h : n ≠ 0) : lows n = (48 + n % 10) :: lows (n / 10) := by rw [lows, dif_neg h]

/-- Its text's bytes. -/
def txt (n : Nat) : List Nat := if n = 0 then [48] else (lows n).reverse

theorem lows_ind (p : Nat → Prop) (h0 : p 0) (h1 : ∀ n, n ≠ 0 → p (n / 10) → p n) (n : Nat) : p n := by
  induction n using Nat.strongRecOn with
  | ind n ih =>
    by_cases h : n = 0
    · subst h; exact h0
    · exact h1 n h (ih _ (by omega))

theorem lows_dig (n : Nat) : Dig (lows n) := by
  refine lows_ind (fun n => Dig (lows n)) (by rw [lows_zero]; intro x hx; cases hx) (fun n h ih => ?_) n
  rw [lows_pos h]
  intro x hx
  rcases List.mem_cons.1 hx with rfl | hx
  · omega
  · exact ih x hx

theorem dec_lows (n : Nat) : dec 0 (lows n).reverse = n := by
  refine lows_ind (fun n => dec 0 (lows n).reverse = n) (by rw [lows_zero]; rfl) (fun n h ih => ?_) n
  rw [lows_pos h, List.reverse_cons, dec_snoc, ih]
  omega

theorem txt_dig (n : Nat) : Dig (txt n) := by
  unfold txt
  split
  · intro x hx; simp at hx; omega
  · intro x hx; exact lows_dig n x (List.mem_reverse.1 hx)

theorem dec_txt (n : Nat) : dec 0 (txt n) = n := by
  unfold txt
  split
  · rename_i h; rw [h, dec_cons, dec_nil]
  · exact dec_lows n

theorem lows_last {n : Nat} (h : n ≠ 0) : ∃ x l, (lows n).reverse = x :: l ∧ 49 ≤ x := by
  revert h
  refine lows_ind (fun n => n ≠ 0 → ∃ x l, (lows n).reverse = x :: l ∧ 49 ≤ x) (fun h => absurd rfl h) (fun n h ih _ => ?_) n
  rw [lows_pos h, List.reverse_cons]
  by_cases h2 : n / 10 = 0
  · rw [h2, lows_zero]
    exact ⟨48 + n % 10, [], rfl, by omega⟩
  · obtain ⟨x, l, e, hx⟩ := ih h2
    rw [e]
    exact ⟨x, l ++ [48 + n % 10], rfl, hx⟩

theorem txt_digits (n : Nat) : Digits (txt n) := by
  refine ⟨?_, ?_, txt_dig n⟩
  · unfold txt
    split
    · simp
    · rename_i h
      obtain ⟨x, l, e, _⟩ := lows_last h
      rw [e]
      simp
  · unfold txt
    split
    · intro _; rfl
    · rename_i h
      obtain ⟨x, l, e, hx⟩ := lows_last h
      rw [e]
      intro h2
      simp at h2
      omega

theorem txt_inj {n m : Nat} (h : txt n = txt m) : n = m := by rw [← dec_txt n, h, dec_txt]

theorem lows_take (n k : Nat) (h : n / 10 ^ k ≠ 0) : (lows n).take (k + 1) = (lows n).take k ++ [48 + n / 10 ^ k % 10] := by
  induction k generalizing n with
  | zero =>
    simp at h
    rw [lows_pos h]
    simp
  | succ k ih =>
    have hn : n ≠ 0 := by
      intro e
      rw [e] at h
      simp at h
    have e : n / 10 ^ (k + 1) = n / 10 / 10 ^ k := by rw [Nat.pow_succ, Nat.mul_comm, Nat.div_div_eq_div_mul]
    rw [e] at h ⊢
    rw [lows_pos hn, List.take_succ_cons, List.take_succ_cons, ih _ h]
    rfl

theorem lows_take_all (n k : Nat) (h : n / 10 ^ k = 0) : (lows n).take k = lows n := by
  induction k generalizing n with
  | zero =>
    simp at h
    rw [h, lows_zero]
    rfl
  | succ k ih =>
    by_cases hn : n = 0
    · rw [hn, lows_zero]; rfl
    · have e : n / 10 ^ (k + 1) = n / 10 / 10 ^ k := by rw [Nat.pow_succ, Nat.mul_comm, Nat.div_div_eq_div_mul]
      rw [e] at h
      rw [lows_pos hn, List.take_succ_cons, ih _ h]

theorem lows_len_le {n k : Nat} (h : n < 10 ^ k) : (lows n).length ≤ k := by
  have := lows_take_all n k (Nat.div_eq_of_lt h)
  have h2 := congrArg List.length this
  rw [List.length_take] at h2
  omega

theorem lows_lt {n k : Nat} (h : n / 10 ^ k ≠ 0) : k < (lows n).length := by
  have h2 := congrArg List.length (lows_take n k h)
  rw [List.length_append, List.length_take, List.length_take] at h2
  simp at h2
  omega

theorem lows_val_len {xs : List Nat} (h : Lim xs) : (lows (val xs)).length ≤ 10 * xs.length := by
  refine lows_len_le (Nat.lt_of_lt_of_le (val_lt h) ?_)
  rw [Nat.pow_mul]
  exact Nat.pow_le_pow_left (by decide) _

end M
end Go.Proofs.YthhkpoobcnmdgaaDoor
/-
  Rows of bytes (as MB, which is of limbs, in a program that has these).
-/
namespace Go.Proofs.YthhkpoobcnmdgaaDoor
open Go.RowKit
set_option linter.unusedVariables false

theorem ret_eq {a b : Value} (h : a = b) : Ending.returned a = .returned b := by rw [h]
theorem ret_int {k : IntKind} {a b : Int} (h : a = b) : Ending.returned (.int k a) = .returned (.int k b) := by rw [h]
theorem ret_bool {a b : Bool} (h : a = b) : Ending.returned (.bool a) = .returned (.bool b) := by rw [h]
theorem ret_slice {A : Option Addr} {n m c : Nat} (h : n = m) : Ending.returned (.slice A n c) = .returned (.slice A m c) := by rw [h]

/-- A kind of elements, each of one cell: how they lie in memory, which there are, the numbers of their type and of the slices' type. -/
structure Kd (α : Type) where
  enc : α → Value
  ok : α → Prop
  e : TypeId
  t : TypeId
  zero : α
  bytes : Nat
  one : ∀ x, (enc x).oneCell' = true
  under : Tryd.prog.underlying t = some (.slice e)
  info : (Tryd.prog.info? e).map (fun i => (i.zero, i.size, i.bytes)) = some (some (enc zero), 1, bytes)
  zsize : (enc zero).cells.size = 1
  light : bytes ≤ 16

/-- Bytes. -/
def kU8 : Kd Nat := ⟨fun x => .int .u8 (x : Int), fun x => x < 256, 5, 24, 0, 1, fun _ => rfl, Tryd.underlying24, by kernel_rfl, rfl, by decide⟩

/-- A slice that reads as xs (nil and empty ones let in). -/
structure RdK {α : Type} (K : Kd α) (w : World) (A : Option Addr) (n c : Nat) (xs : List α) : Prop where
  len : xs.length = n
  cap : n ≤ c
  nil : A = none → c = 0
  lim : ∀ x ∈ xs, K.ok x
  cells : 0 < n → ∃ b o, A = some ⟨b, o, none⟩ ∧ ∀ (i : Nat) (x : α), xs[i]? = some x → w.cell? ⟨b, o + i, none⟩ = some (K.enc x)

section
variable {α : Type} {K : Kd α} {w w' : World} {A : Option Addr} {n c : Nat} {xs : List α}

theorem RdK.at_ (h : RdK K w A n c xs) {i : Nat} (hi : i < n) :
    ∃ b o x, A = some ⟨b, o, none⟩ ∧ xs[i]? = some x ∧ K.ok x ∧ w.cell? ⟨b, o + i, none⟩ = some (K.enc x) := by
  obtain ⟨b, o, hA, hc⟩ := h.cells (by omega)
  have hl : i < xs.length := by rw [h.len]; exact hi
  have hx : xs[i]? = some xs[i] := List.getElem?_eq_getElem hl
  exact ⟨b, o, xs[i], hA, hx, h.lim _ (List.getElem_mem hl), hc i _ hx⟩

/-- What lies in a block that stayed as it was reads as it did. -/
theorem RdK.keep (h : RdK K w A n c xs) (hk : ∀ p, A = some p → 0 < n → w'.heap[p.block]? = w.heap[p.block]?) : RdK K w' A n c xs := by
  refine ⟨h.len, h.cap, h.nil, h.lim, fun hn => ?_⟩
  obtain ⟨b, o, hA, hc⟩ := h.cells hn
  refine ⟨b, o, hA, fun i x hx => ?_⟩
  have := hk _ hA hn
  exact (World.cell?_of_block (a := ⟨b, o + i, none⟩) this).trans (hc i x hx)

theorem RdK.blk (h : RdK K w A n c xs) (hn : 0 < n) {p : Addr} (hA : A = some p) : p.block < w.heap.size := by
  obtain ⟨b, o, hA', hc⟩ := h.cells hn
  rw [hA'] at hA
  cases hA
  have hl : 0 < xs.length := by rw [h.len]; exact hn
  exact World.block_lt_of_cell? w _ (hc 0 _ (List.getElem?_eq_getElem hl))

theorem RdK.below (h : RdK K w A n c xs) (hb : Below w.heap.size w w') : RdK K w' A n c xs :=
  h.keep fun p hp hn => hb.block _ (h.blk hn hp)

/-- Behind a law that wrote one row: that row is another one. -/
theorem RdK.grown {row : Option Nat} (h : RdK K w A n c xs) (hg : w.grownBy w' row) (hr : ∀ p, A = some p → 0 < n → some p.block ≠ row) : RdK K w' A n c xs :=
  h.keep fun p hp hn => hg.block _ (h.blk hn hp) (hr p hp hn)

theorem RdK.empty (w : World) (A : Option Addr) (c : Nat) (hc : A = none → c = 0) : RdK K w A 0 c [] := ⟨rfl, Nat.zero_le _, hc, (fun _ hx => by cases hx), fun h => absurd h (by omega)⟩

/-- Its first elements. -/
theorem RdK.take (h : RdK K w A n c xs) {m : Nat} (hm : m ≤ n) : RdK K w A m c (xs.take m) := by
  refine ⟨by rw [List.length_take, h.len]; omega, by have := h.cap; omega, h.nil, fun x hx => h.lim x (List.mem_of_mem_take hx), fun hn => ?_⟩
  obtain ⟨b, o, hA, hc⟩ := h.cells (by omega)
  refine ⟨b, o, hA, fun i x hx => hc i x ?_⟩
  rw [List.getElem?_take] at hx
  split at hx
  · exact hx
  · cases hx

theorem RdK.drew (h : RdK K w A n c xs) : RdK K w.drew A n c xs := ⟨h.len, h.cap, h.nil, h.lim, h.cells⟩
theorem RdK.alloc (h : RdK K w A n c xs) (o : Obj) : RdK K (w.alloc o) A n c xs := h.below ((Below.refl _ _).alloc (Nat.le_refl _) o)

/-- A new block of one element. -/
theorem RdK.one (w : World) (x : α) (hx : K.ok x) : RdK K (w.alloc (.cells #[K.enc x] K.e)) (some ⟨w.heap.size, 0, none⟩) 1 1 [x] := by
  refine ⟨rfl, Nat.le_refl _, (fun h => by cases h), fun y hy => ?_, fun _ => ⟨_, _, rfl, fun i y hy => ?_⟩⟩
  · simp at hy; subst hy; exact hx
  · cases i with
    | zero =>
      simp at hy
      subst hy
      rw [cell_of_row _ _ _ #[K.enc x] K.e (0, 0) (heap_alloc_new w _)]
      rfl
    | succ i => simp at hy
end

/-- A slice that the call itself made: its block is known whole. -/
structure OwK {α : Type} (K : Kd α) (w : World) (base : Nat) (A : Option Addr) (n c : Nat) (xs : List α) : Prop where
  row : w.ownsRow base K.e 1 (.slice A n c) n (xs.map K.enc)
  lim : ∀ x ∈ xs, K.ok x

section
variable {α : Type} {K : Kd α} {w w' : World} {base : Nat} {A : Option Addr} {n c : Nat} {xs : List α}

theorem OwK.len (h : OwK K w base A n c xs) : xs.length = n := by have := h.row.1; simpa using this

theorem OwK.cases (h : OwK K w base A n c xs) : (A = none ∧ n = 0 ∧ c = 0 ∧ xs = []) ∨
    ∃ g cur, A = some ⟨g, 0, none⟩ ∧ base ≤ g ∧ w.heap[g]? = some (.cells cur K.e (0, 0)) ∧ n ≤ c ∧ c ≤ maxLen ∧ cur.size = c ∧ cur.toList.take n = xs.map K.enc := by
  rcases h.row.2 with ⟨hv, hn⟩ | ⟨g, cap, cur, hv, hb, hh, hnc, hcm, hcs, ht⟩
  · left
    injection hv with h1 h2 h3
    refine ⟨h1, hn, h3, List.eq_nil_of_length_eq_zero ?_⟩
    rw [h.len, hn]
  · right
    injection hv with h1 h2 h3
    subst h1 h3
    exact ⟨g, cur, rfl, hb, hh, hnc, hcm, by omega, by simpa using ht⟩

theorem OwK.rd (h : OwK K w base A n c xs) : RdK K w A n c xs := by
  rcases h.cases with ⟨rfl, rfl, rfl, rfl⟩ | ⟨g, cur, rfl, hb, hh, hnc, hcm, hcs, ht⟩
  · exact RdK.empty _ _ _ fun _ => rfl
  · refine ⟨h.len, hnc, (fun h => by cases h), h.lim, fun hn => ⟨g, 0, rfl, fun i x hx => ?_⟩⟩
    have := h.row.cells (g := g) rfl i (K.enc x) (by rw [List.getElem?_map, hx]; rfl)
    rw [Addr.add_lit] at this
    exact this

theorem OwK.mono {base' : Nat} (h : OwK K w base A n c xs) (hb : base' ≤ base) : OwK K w base' A n c xs := by
  refine ⟨⟨h.row.1, ?_⟩, h.lim⟩
  rcases h.row.2 with h' | ⟨g, cap, cur, hv, hg, r⟩
  · exact .inl h'
  · exact .inr ⟨g, cap, cur, hv, Nat.le_trans hb hg, r⟩

theorem grownBy_of_below (hb : Below w.heap.size w w') (row : Option Nat) : w.grownBy w' row := ⟨hb.os, hb.tape, hb.output, hb.size, fun k hk _ => hb.block k hk⟩
theorem below_of_grownBy (hg : w.grownBy w' none) : Below w.heap.size w w' := ⟨hg.os, hg.tape, hg.output, hg.size, fun k hk => hg.block k hk (by simp)⟩

theorem OwK.below (h : OwK K w base A n c xs) (hb : Below w.heap.size w w') : OwK K w' base A n c xs := by
  refine ⟨h.row.kept (w' := w') (row := none) (grownBy_of_below hb none) ?_, h.lim⟩
  cases hv : (Value.slice A n c).ownBlock <;> simp

theorem OwK.grown {row : Option Nat} (h : OwK K w base A n c xs) (hg : w.grownBy w' row) (hr : ∀ p, A = some p → some p.block ≠ row) : OwK K w' base A n c xs := by
  refine ⟨h.row.kept hg ?_, h.lim⟩
  cases A with
  | none => exact .inl rfl
  | some p => exact .inr (hr p rfl)

theorem OwK.drew (h : OwK K w base A n c xs) : OwK K w.drew base A n c xs := ⟨h.row.drew, h.lim⟩
theorem OwK.alloc (h : OwK K w base A n c xs) (o : Obj) : OwK K (w.alloc o) base A n c xs := ⟨h.row.alloc o, h.lim⟩

theorem OwK.nil_ (w : World) (base : Nat) : OwK K w base none 0 0 [] := ⟨World.ownsRow_nil w base _ 1, fun _ hx => by cases hx⟩

/-- Its first elements. -/
theorem OwK.take (h : OwK K w base A n c xs) {m : Nat} (hm : m ≤ n) : OwK K w base A m c (xs.take m) := by
  refine ⟨⟨by rw [List.length_map, List.length_take, h.len]; omega, ?_⟩, fun x hx => h.lim x (List.mem_of_mem_take hx)⟩
  rcases h.cases with ⟨rfl, rfl, rfl, rfl⟩ | ⟨g, cur, rfl, hb, hh, hnc, hcm, hcs, ht⟩
  · left
    have : m = 0 := by omega
    subst this
    exact ⟨rfl, rfl⟩
  · right
    refine ⟨g, c, cur, rfl, hb, hh, by omega, hcm, by omega, ?_⟩
    rw [Nat.mul_one, List.map_take, ← ht, List.take_take, Nat.min_eq_left hm]

theorem OwK.lt (h : OwK K w base A n c xs) {p : Addr} (hp : A = some p) : base ≤ p.block ∧ p.block < w.heap.size :=
  h.row.lt p.block (by subst hp; rfl)

/-- An empty slice literal. -/
theorem OwK.lit0 (hb : base ≤ w.heap.size) : OwK K (w.alloc (.cells #[] K.e)) base (some ⟨w.heap.size, 0, none⟩) 0 0 [] :=
  ⟨World.ownsRow_lit w #[] 0 hb (by unfold maxLen; omega) rfl, fun _ hx => by cases hx⟩
end

/-- append, whatever is appended, onto a row that the call made. -/
theorem app_own {α : Type} (K : Kd α) (w : World) {ops : Array Oper} {rest : List Oper} {o : Oper} {a : Act} {Q : Exit → Act → World → Prop} (hgd : o.guard = none) (s x : Operand)
    (ho : o.op = .call { callee := .builtin .append, args := #[s, x], argTypes := #[K.t, K.t] })
    (base : Nat) (A : Option Addr) (n c : Nat) (xs : List α) (hs : a.eval s = .slice A n c) (hown : OwK K w base A n c xs)
    (B : Option Addr) (m d : Nat) (ys : List α) (hx : a.eval x = .slice B m d) (hr : RdK K w B m d ys) (hbd : n + m ≤ 8388608) (hbase : base ≤ w.heap.size)
    (h : ∀ A' c' w', OwK K w' base A' (n + m) c' (xs ++ ys) → w.grownBy w' (Value.slice A n c).ownBlock → wpList Tryd.prog ops Q rest (a.put o.dst (.slice A' (n + m) c')) w') :
    wpList Tryd.prog ops Q (o :: rest) a w := by
  obtain ⟨i0, hi, hz0, hz1, hz2⟩ := info_parts K.info
  have hlight := K.light
  cases B with
  | none =>
    have hd : d = 0 := hr.nil rfl
    subst hd
    have hm : m = 0 := by have := hr.cap; omega
    subst hm
    have hy : ys = [] := List.eq_nil_of_length_eq_zero hr.len
    subst hy
    refine wpList_append_own_none hgd s x K.t ho base K.e i0 1 K.under hi _ n (xs.map K.enc) hs hown.row hx ?_
    have := h A c w (by simpa using hown) (World.grownBy.refl w _)
    simpa using this
  | some ad =>
    refine wpList_append_own w hgd s x K.t ho base K.e i0 (K.enc K.zero) 1 K.bytes K.under hi hz0 hz1 hz2 K.zsize (by decide) _ n (xs.map K.enc) hs hown.row ad m d (ys.map K.enc) hx ?_ ?_ ?_ ?_ ?_ hbase ?_
    · rw [List.length_map, hr.len, Nat.mul_one]
    · intro j u hj
      rw [List.getElem?_map] at hj
      cases hy : ys[j]? with
      | none => rw [hy] at hj; cases hj
      | some y =>
        rw [hy] at hj
        cases hj
        have hjl : j < ys.length := (List.getElem?_eq_some_iff.1 hy).1
        obtain ⟨b, o', hA, hc⟩ := hr.cells (by rw [← hr.len]; omega)
        cases hA
        rw [Addr.add_lit]
        exact hc j y hy
    · intro u hu
      obtain ⟨y, _, rfl⟩ := List.mem_map.1 hu
      exact K.one y
    · unfold maxLen; omega
    · have : (n + m) * K.bytes ≤ 8388608 * 16 := Nat.mul_le_mul hbd hlight
      omega
    · intro v' w' hown' hgrow _
      have hlim : ∀ y ∈ xs ++ ys, K.ok y := by
        intro y hy
        rcases List.mem_append.1 hy with hy | hy
        · exact hown.lim y hy
        · exact hr.lim y hy
      rw [← List.map_append] at hown'
      rcases hown'.2 with ⟨rfl, h0⟩ | ⟨g, cap, cur, rfl, r⟩
      · have hh := h none 0 w' ⟨⟨hown'.1, .inl ⟨by rw [h0], h0⟩⟩, hlim⟩ hgrow
        rw [h0] at hh
        exact hh
      · exact h _ _ w' ⟨hown', hlim⟩ hgrow

/-- make of a row without elements, with room for n. -/
theorem make_own {α : Type} (K : Kd α) (w : World) {ops : Array Oper} {rest : List Oper} {o : Oper} {a : Act} {Q : Exit → Act → World → Prop} (hg : o.guard = none) (l c : Operand)
    (hop : o.op = Op.makeSlice K.t l c) (kl kc : IntKind) (C : Int) (n : Nat) (hl : a.eval l = .int kl 0) (hc : a.eval c = .int kc C) (hC : C = (n : Int)) (hn : n ≤ 8388608)
    (hK : ∀ w', OwK K w' w.heap.size (some ⟨w.heap.size, 0, none⟩) 0 n [] → Below w.heap.size w w' → wpList Tryd.prog ops Q rest (a.put o.dst (.slice (some ⟨w.heap.size, 0, none⟩) 0 n)) w') :
    wpList Tryd.prog ops Q (o :: rest) a w := by
  obtain ⟨i0, hi, hz0, hz1, hz2⟩ := info_parts K.info
  have hlight := K.light
  refine wpList_make_own w hg l c K.t hop w.heap.size K.e i0 (K.enc K.zero) 1 K.under hi hz0 hz1 kl kc C n hl hc hC ?_ (by unfold maxLen; omega) (Nat.le_refl _) ?_
  · rw [hz2]
    have : K.bytes * n ≤ 16 * 8388608 := Nat.mul_le_mul hlight hn
    omega
  · intro w' h1 h2
    exact hK w' ⟨by simpa using h1, fun _ hx => by cases hx⟩ (below_of_grownBy h2)

theorem madeCells_one (z : Value) (n : Nat) : (madeCells #[z] n).toList = List.replicate n z := by
  apply List.ext_getElem
  · simp [madeCells]
  · intro i h1 h2
    simp [madeCells, Nat.mod_one]

theorem cells_single {v : Value} (h : v.cells.size = 1) (h1 : v.oneCell' = true) : v.cells = #[v] := by
  cases v <;> first | rfl | (simp [Value.oneCell'] at h1)

/-- make of a row of n zero elements. -/
theorem make_full {α : Type} (K : Kd α) (w : World) {ops : Array Oper} {rest : List Oper} {o : Oper} {a : Act} {Q : Exit → Act → World → Prop} (hg : o.guard = none) (l c : Operand)
    (hop : o.op = Op.makeSlice K.t l c) (kl kc : IntKind) (L C : Int) (n : Nat) (hl : a.eval l = .int kl L) (hc : a.eval c = .int kc C) (hL : L = (n : Int)) (hC : C = (n : Int)) (hn : n ≤ 8388608) (hz : K.ok K.zero)
    (hK : ∀ w', OwK K w' w.heap.size (some ⟨w.heap.size, 0, none⟩) n n (List.replicate n K.zero) → Below w.heap.size w w' → wpList Tryd.prog ops Q rest (a.put o.dst (.slice (some ⟨w.heap.size, 0, none⟩) n n)) w') :
    wpList Tryd.prog ops Q (o :: rest) a w := by
  obtain ⟨i0, hi, hz0, hz1, hz2⟩ := info_parts K.info
  have hlight := K.light
  refine wpList_make_full w hg l c K.t hop w.heap.size K.e i0 (K.enc K.zero) 1 K.under hi hz0 hz1 kl kc L C n hl hc hL hC ?_ (by unfold maxLen; omega) (Nat.le_refl _) ?_
  · rw [hz2]
    have : K.bytes * n ≤ 16 * 8388608 := Nat.mul_le_mul hlight hn
    omega
  · intro w' h1 h2
    rw [Nat.mul_one, cells_single K.zsize (K.one _), madeCells_one, ← List.map_replicate] at h1
    refine hK w' ⟨h1, fun x hx => ?_⟩ (below_of_grownBy h2)
    rw [List.eq_of_mem_replicate hx]
    exact hz

theorem below_app {α : Type} {K : Kd α} {a w w' : World} {B : Nat} {A : Option Addr} {n c : Nat} {xs : List α} {o : Obj} (hb : Below B a w) (hB : B ≤ w.heap.size) (ho : OwK K w B A n c xs)
    (hg : (w.alloc o).grownBy w' (Value.slice A n c).ownBlock) : Below B a w' := by
  refine (hb.alloc hB o).grown hg (by simp; omega) fun k hk => ?_
  exact (ho.row.lt k hk).1
theorem below_app' {α : Type} {K : Kd α} {a w w' : World} {B : Nat} {A : Option Addr} {n c : Nat} {xs : List α} (hb : Below B a w) (hB : B ≤ w.heap.size) (ho : OwK K w B A n c xs)
    (hg : w.grownBy w' (Value.slice A n c).ownBlock) : Below B a w' := by
  refine hb.grown hg hB fun k hk => ?_
  exact (ho.row.lt k hk).1


/-- A new block of some elements. -/
theorem RdK.lits {α : Type} (K : Kd α) (w : World) (xs : List α) (hx : ∀ x ∈ xs, K.ok x) : RdK K (w.alloc (.cells (xs.map K.enc).toArray K.e)) (some ⟨w.heap.size, 0, none⟩) xs.length xs.length xs := by
  refine ⟨rfl, Nat.le_refl _, (fun h => by cases h), hx, fun _ => ⟨_, _, rfl, fun i y hy => ?_⟩⟩
  rw [Nat.zero_add, cell_of_row _ _ _ (xs.map K.enc).toArray K.e (0, 0) (heap_alloc_new w _)]
  simp [hy]
theorem bytes_of {l : List Nat} (h : ∀ x ∈ l, x < 256) : M.bytes (strOfNums (l.map fun x : Nat => (x : Int))) = l := by
  unfold M.bytes
  rw [strOfNums_data, List.map_map, List.map_map]
  induction l with
  | nil => rfl
  | cons x l ih =>
    rw [List.map_cons, ih fun y hy => h y (List.mem_cons_of_mem _ hy)]
    have := h x List.mem_cons_self
    congr 1
    show (UInt8.ofNat (Int.toNat (x : Int))).toNat = x
    rw [Int.toNat_natCast]
    simp only [UInt8.toNat_ofNat']
    omega
/-- A row of bytes as a text. -/
theorem OwK.back {w : World} {base : Nat} {A : Option Addr} {n c : Nat} {xs : List Nat} (h : OwK kU8 w base A n c xs) (hn : 0 < n) : ∃ u : ByteArray, M.bytes u = xs ∧ (convert 24 9 (.slice A n c)).run Tryd.prog w = .ok (.string u) w := by
  obtain ⟨b, o, rfl, hc⟩ := h.rd.cells hn
  refine ⟨strOfNums (xs.map fun x : Nat => (x : Int)), bytes_of h.lim, ?_⟩
  refine run_convert_bytes_arg (P := Tryd.prog) w 24 5 Tryd.underlying24 Tryd.underlying5 b o n c _ (by rw [List.length_map]; exact h.rd.len) (fun i hi => ?_) 9 Tryd.underlying9
  obtain ⟨x, hx⟩ : ∃ x, xs[i]? = some x := ⟨_, List.getElem?_eq_getElem (by rw [h.rd.len]; exact hi)⟩
  rw [hc i x hx, List.getD_eq_getElem?_getD, List.getElem?_map, hx]
  rfl

/-- append, as a step of a region that draws its order. -/
theorem app_step {α : Type} (K : Kd α) (w : World) {ops : Array Oper} {o : Oper} {a : Act} {KK : Act → World → Prop} {Q : Exit → Act → World → Prop} {E : Prop} (hgd : o.guard = none) (s x : Operand)
    (ho : o.op = .call { callee := .builtin .append, args := #[s, x], argTypes := #[K.t, K.t] })
    (base : Nat) (A : Option Addr) (n c : Nat) (xs : List α) (hs : a.eval s = .slice A n c) (hown : OwK K w base A n c xs)
    (ad : Addr) (m d : Nat) (ys : List α) (hx : a.eval x = .slice (some ad) m d) (hr : RdK K w (some ad) m d ys) (hbd : n + m ≤ 8388608) (hbase : base ≤ w.heap.size)
    (h : ∀ A' c' w', OwK K w' base A' (n + m) c' (xs ++ ys) → w.grownBy w' (Value.slice A n c).ownBlock → KK (a.put o.dst (.slice A' (n + m) c')) w') :
    if Region.wanted o (yielded ops a.tmps) = true then Oper.wp Tryd.prog o a w KK Q else E := by
  have hw : Region.wanted o (yielded ops a.tmps) = true := by simp [Region.wanted, hgd]
  rw [if_pos hw]
  obtain ⟨i0, hi, hz0, hz1, hz2⟩ := info_parts K.info
  have hlight := K.light
  refine wp_append_own w s x K.t ho base K.e i0 (K.enc K.zero) 1 K.bytes K.under hi hz0 hz1 hz2 K.zsize (by decide) _ n (xs.map K.enc) hs hown.row ad m d (ys.map K.enc) hx ?_ ?_ ?_ ?_ ?_ hbase ?_
  · rw [List.length_map, hr.len, Nat.mul_one]
  · intro j u hj
    rw [List.getElem?_map] at hj
    cases hy : ys[j]? with
    | none => rw [hy] at hj; cases hj
    | some y =>
      rw [hy] at hj
      cases hj
      have hjl : j < ys.length := (List.getElem?_eq_some_iff.1 hy).1
      obtain ⟨b, o', hA, hc⟩ := hr.cells (by rw [← hr.len]; omega)
      cases hA
      rw [Addr.add_lit]
      exact hc j y hy
  · intro u hu
    obtain ⟨y, _, rfl⟩ := List.mem_map.1 hu
    exact K.one y
  · unfold maxLen; omega
  · have : (n + m) * K.bytes ≤ 8388608 * 16 := Nat.mul_le_mul hbd hlight
    omega
  · intro v' w' hown' hgrow _
    have hlim : ∀ y ∈ xs ++ ys, K.ok y := by
      intro y hy
      rcases List.mem_append.1 hy with hy | hy
      · exact hown.lim y hy
      · exact hr.lim y hy
    rw [← List.map_append] at hown'
    rcases hown'.2 with ⟨rfl, h0⟩ | ⟨g, cap, cur, rfl, r⟩
    · have hh := h none 0 w' ⟨⟨hown'.1, .inl ⟨by rw [h0], h0⟩⟩, hlim⟩ hgrow
      rw [h0] at hh
      exact hh
    · exact h _ _ w' ⟨hown', hlim⟩ hgrow
theorem and15 (b : Nat) (h : b < 256) : bits .and .u8 (b : Int) 15 = ((b % 16 : Nat) : Int) := by
  have : ∀ b : Nat, b < 256 → bits .and .u8 (b : Int) 15 = ((b % 16 : Nat) : Int) := by decide +kernel
  exact this b h
end Go.Proofs.YthhkpoobcnmdgaaDoor
/-
  A text's token: what it is, byte for byte.
-/
namespace Go.Proofs.YthhkpoobcnmdgaaDoor
open Go.RowKit
set_option linter.unusedVariables false

def hexD (n : Nat) : Nat := if n < 10 then 48 + n else 87 + n
/-- How a byte stands in a token. -/
def q1 (b : Nat) : List Nat := if b = 10 then [92, 110] else if b = 34 ∨ b = 92 then [92, b] else if 32 ≤ b ∧ b ≤ 126 then [b] else [92, 120, hexD (b / 16), hexD (b % 16)]
def q2 (l : List Nat) : List Nat := l.flatMap q1
/-- The bytes of a text's token. -/
def quo (s : ByteArray) : List Nat := 34 :: (q2 (M.bytes s) ++ [34])
theorem q1_len (b : Nat) : (q1 b).length ≤ 4 := by unfold q1; split <;> (try split) <;> (try split) <;> simp
theorem q2_len (l : List Nat) : (q2 l).length ≤ 4 * l.length := by
  induction l with
  | nil => simp [q2]
  | cons b l ih =>
    have := q1_len b
    simp only [q2, List.flatMap_cons, List.length_append, List.length_cons] at ih ⊢
    omega
theorem q2_snoc (l : List Nat) (k : Nat) (b : Nat) (h : l[k]? = some b) : q2 (l.take (k + 1)) = q2 (l.take k) ++ q1 b := by
  rw [List.take_add_one, h]
  simp [q2]
theorem bytes_app (s t : ByteArray) : M.bytes (s ++ t) = M.bytes s ++ M.bytes t := by
  unfold M.bytes
  rw [ByteArray.data_append, Array.toList_append, List.map_append]
theorem byte_lt (s : ByteArray) (k : Nat) (h : k < s.size) : s[k].toNat < 256 := s[k].toNat_lt
theorem bytes_one (s : ByteArray) (k : Nat) (h : k < s.size) : M.bytes (s.extract k (k + 1)) = [s[k].toNat] := by
  rw [M.bytes_extract, show k + 1 - k = 1 from by omega, List.take_one, List.head?_drop, M.bytes_get s k h]
  rfl
theorem size_bytes (s : ByteArray) : s.size = (M.bytes s).length := (M.bytes_len s).symm
/-- The sixteen digits. -/
def sixteen : ByteArray := ⟨#[48, 49, 50, 51, 52, 53, 54, 55, 56, 57, 97, 98, 99, 100, 101, 102]⟩
theorem hex_at (n : Nat) (h : n < 16) : M.bytes (sixteen.extract n (n + 1)) = [hexD n] := by
  rw [M.bytes_extract]
  have : ∀ n, n < 16 → ((M.bytes sixteen).drop n).take (n + 1 - n) = [hexD n] := by decide
  exact this n h

set_option maxHeartbeats 4000000 in
theorem quoteR_c (s : ByteArray) (w : World) (hs : s.size ≤ 1048576) : Calls Tryd.prog 24 #[.string s] w fun e w' => (∃ t, e = .returned (.string t) ∧ M.bytes t = quo s) ∧ Below w.heap.size w w' := by
  go_enter Tryd.func24, Tryd.ntmps24
  go_wp2
  go_loopw [3, 5] (fun v i wr => ∃ (k : Nat) (t : ByteArray), k ≤ s.size ∧ i = .int .i64 k ∧ v = .string t ∧ M.bytes t = 34 :: q2 ((M.bytes s).take k) ∧ Below w.heap.size w wr) (fun v i _ => s.size - (intOf i).toNat)
  case atStart => exact ⟨0, _, Nat.zero_le _, rfl, rfl, rfl, .refl _ _⟩
  case round =>
    obtain ⟨k, t, hk, rfl, rfl, hd, hbl⟩ := hrel
    have HD := Lib.hid hd
    have HB := Lib.hid hbl
    clear hd hbl
    have hts : t.size ≤ 4194305 := by
      rw [size_bytes, HD.out, List.length_cons]
      have h1 := q2_len ((M.bytes s).take k)
      rw [List.length_take, M.bytes_len] at h1
      omega
    by_cases hkn : k < s.size
    · have hx := M.bytes_get s k hkn
      have hkey : ∀ x : ByteArray, M.bytes x = q1 s[k].toNat → M.bytes (t ++ x) = 34 :: q2 ((M.bytes s).take (k + 1)) := fun x h => by
        rw [bytes_app, HD.out, q2_snoc _ k _ hx, h]; rfl
      have KEY := Lib.hid hkey
      have H1 := Lib.hid (bytes_one s k hkn)
      clear hx hkey
      have hlt := byte_lt s k hkn
      cases a : (((s[k].toNat : Nat) : Int) == 10) with
      | true =>
        have e : s[k].toNat = 10 := by have := eq_of_beq a; omega
        have HQ := Lib.hid (show M.bytes ⟨#[92, 110]⟩ = q1 s[k].toNat by rw [e]; rfl)
        clear e
        go_wp2
        exact ⟨⟨k + 1, _, by omega, by go_num, rfl, KEY.out _ HQ.out, HB.out⟩, by simp [intOf]; omega⟩
      | false =>
        have ea : s[k].toNat ≠ 10 := fun e => by rw [e] at a; simp at a
        have EA := Lib.hid ea
        clear ea
        have two : ∀ {b : Bool}, ((((s[k].toNat : Nat) : Int) == 34) = true ∨ (((s[k].toNat : Nat) : Int) == 92) = true) → q1 s[k].toNat = [92, s[k].toNat] := by
          intro b h
          unfold q1
          rw [if_neg EA.out, if_pos (by rcases h with h | h <;> (have := eq_of_beq h; omega))]
        have TWO := Lib.hid (@two true)
        clear two
        have conc : M.bytes ((t ++ ⟨#[92]⟩) ++ s.extract k (k + 1)) = M.bytes (t ++ ((⟨#[92]⟩ : ByteArray) ++ s.extract k (k + 1))) := by rw [bytes_app, bytes_app, bytes_app, bytes_app, List.append_assoc]
        have CONC := Lib.hid conc
        clear conc
        have t1 : (t ++ (⟨#[92]⟩ : ByteArray)).size ≤ 4194306 := by
          rw [ByteArray.size_append]
          have : (⟨#[92]⟩ : ByteArray).size = 1 := rfl
          omega
        have t2 : (s.extract k (k + 1)).size = 1 := by rw [size_bytes, H1.out]; rfl
        cases b : (((s[k].toNat : Nat) : Int) == 34) with
        | true =>
          have HQ := Lib.hid (show M.bytes ((⟨#[92]⟩ : ByteArray) ++ s.extract k (k + 1)) = q1 s[k].toNat by rw [TWO.out (.inl b), bytes_app, H1.out]; rfl)
          go_wp2
          exact ⟨⟨k + 1, _, by omega, by go_num, rfl, CONC.out.trans (KEY.out _ HQ.out), HB.out⟩, by simp [intOf]; omega⟩
        | false =>
          cases c : (((s[k].toNat : Nat) : Int) == 92) with
          | true =>
            have HQ := Lib.hid (show M.bytes ((⟨#[92]⟩ : ByteArray) ++ s.extract k (k + 1)) = q1 s[k].toNat by rw [TWO.out (.inr c), bytes_app, H1.out]; rfl)
            go_wp2
            exact ⟨⟨k + 1, _, by omega, by go_num, rfl, CONC.out.trans (KEY.out _ HQ.out), HB.out⟩, by simp [intOf]; omega⟩
          | false =>
            have eb : ¬ (s[k].toNat = 34 ∨ s[k].toNat = 92) := by
              rintro (e | e)
              · rw [e] at b; simp at b
              · rw [e] at c; simp at c
            have EB := Lib.hid eb
            clear eb CONC TWO t1
            by_cases r : 32 ≤ s[k].toNat ∧ s[k].toNat ≤ 126
            · have HQ := Lib.hid (show M.bytes (s.extract k (k + 1)) = q1 s[k].toNat by rw [H1.out]; unfold q1; rw [if_neg EA.out, if_neg EB.out, if_pos r])
              obtain ⟨r1, r2⟩ := r
              go_wp2
              exact ⟨⟨k + 1, _, by omega, by go_num, rfl, KEY.out _ HQ.out, HB.out⟩, by simp [intOf]; omega⟩
            · have rr : (decide (32 ≤ ((s[k].toNat : Nat) : Int)) && decide (((s[k].toNat : Nat) : Int) ≤ 126)) = false := by
                rw [Bool.and_eq_false_iff, decide_eq_false_iff_not, decide_eq_false_iff_not]
                omega
              have c1 : s[k].toNat / 16 < 16 := by omega
              have c2 : s[k].toNat % 16 < 16 := by omega
              have hfin : M.bytes (((t ++ ⟨#[92, 120]⟩) ++ sixteen.extract (s[k].toNat / 16) (s[k].toNat / 16 + 1)) ++ sixteen.extract (s[k].toNat % 16) (s[k].toNat % 16 + 1)) = 34 :: q2 ((M.bytes s).take (k + 1)) := by
                have h1 := KEY.out (⟨#[92, 120]⟩ ++ (sixteen.extract (s[k].toNat / 16) (s[k].toNat / 16 + 1) ++ sixteen.extract (s[k].toNat % 16) (s[k].toNat % 16 + 1))) (by
                  rw [bytes_app, bytes_app, hex_at _ c1, hex_at _ c2]
                  unfold q1
                  rw [if_neg EA.out, if_neg EB.out, if_neg (by intro h; rw [Bool.and_eq_false_iff, decide_eq_false_iff_not, decide_eq_false_iff_not] at rr; omega)]
                  rfl)
                rw [← h1]
                simp only [bytes_app, List.append_assoc]
              have FIN := Lib.hid hfin
              have s16 : M.bytes sixteen = M.bytes sixteen := rfl
              clear hfin s16
              go_wp2
              all_goals
                go_big_region
                go_wp2
                exact ⟨⟨k + 1, _, by omega, by go_num, rfl, FIN.out, HB.out.drew⟩, by simp [intOf]; omega⟩
    · have hk2 : k = s.size := by omega
      have HR := Lib.hid (show M.bytes (t ++ ⟨#[34]⟩) = quo s by
        rw [bytes_app, HD.out, List.take_of_length_le (by rw [M.bytes_len]; omega)]
        rfl)
      go_wp2
      go_ret
      exact ⟨⟨_, rfl, HR.out⟩, HB.out⟩
end Go.Proofs.YthhkpoobcnmdgaaDoor
/-
  lex.Quote: the bytes of a text's token.
-/
namespace Go.Proofs.YthhkpoobcnmdgaaDoor
open Go.RowKit
set_option linter.unusedVariables false

theorem q1_lt (b : Nat) (h : b < 256) : ∀ x ∈ q1 b, x < 256 := by
  have hd : ∀ n, n < 16 → hexD n < 256 := fun n hn => by unfold hexD; split <;> omega
  intro x hx
  unfold q1 at hx
  split at hx
  · simp at hx; omega
  · split at hx
    · simp at hx; omega
    · split at hx
      · simp at hx; omega
      · have h1 := hd (b / 16) (by omega)
        have h2 := hd (b % 16) (by omega)
        simp at hx
        omega
theorem hexAt (n : Nat) (h : n < 16) : (sixteen[n]'h).toNat = hexD n := by
  have : ∀ n (h : n < 16), (sixteen[n]'h).toNat = hexD n := by decide
  exact this n h
set_option maxHeartbeats 4000000 in
theorem quoteL_c (s : ByteArray) (w : World) (hs : s.size ≤ 1048576) : Calls Tryd.prog 15 #[.string s] w fun e w' => (∃ t, e = .returned (.string t) ∧ M.bytes t = quo s) ∧ Below w.heap.size w w' := by
  go_enter Tryd.func15, Tryd.ntmps15
  go_wp2_with (first
    | (at_make; refine make_own kU8 _ rfl _ _ rfl .i64 .i64 _ (s.size + 2) rfl rfl (by omega) (by omega) ?_; intro w1 ho1 hb1; have HO1 := Lib.hid ho1; have HB1 := Lib.hid hb1; clear ho1 hb1)
    | (at_builtin; refine app_own kU8 _ rfl _ _ rfl w.heap.size _ 0 (s.size + 2) [] rfl (HO1.out.alloc _) _ 1 1 [34] rfl (RdK.lits kU8 _ [34] (by intro x hx; simp at hx; subst hx; show 34 < 256; decide)) (by omega) (by have := HB1.out.size; simp; omega) ?_; intro A2 c2 w2 ho2 hg2; have HO2 := Lib.hid ho2; have HB2 := Lib.hid (below_app HB1.out HB1.out.size HO1.out hg2); clear ho2 hg2))
  go_loopw [3, 4] (fun v i wr => ∃ (k : Nat) (A : Option Addr) (n c : Nat), k ≤ s.size ∧ i = .int .i64 k ∧ v = .slice A n c ∧ OwK kU8 wr w.heap.size A n c (34 :: q2 ((M.bytes s).take k)) ∧ Below w.heap.size w wr) (fun v i _ => s.size - (intOf i).toNat)
  case atStart => exact ⟨0, A2, 1, c2, Nat.zero_le _, rfl, rfl, HO2.out, HB2.out⟩
  case round =>
    obtain ⟨k, A, n, c, hk, rfl, rfl, ho, hbl⟩ := hrel
    clear HO1 HB1 HO2 HB2
    have HO := Lib.hid ho
    have HB := Lib.hid hbl
    have hn : n ≤ 4194305 := by
      rw [← ho.rd.len, List.length_cons]
      have h1 := q2_len ((M.bytes s).take k)
      rw [List.length_take, M.bytes_len] at h1
      omega
    have hn1 : 0 < n := by rw [← ho.rd.len, List.length_cons]; omega
    clear ho hbl
    by_cases hkn : k < s.size
    · have hx := M.bytes_get s k hkn
      have hkey : 34 :: q2 ((M.bytes s).take (k + 1)) = (34 :: q2 ((M.bytes s).take k)) ++ q1 s[k].toNat := by rw [q2_snoc _ k _ hx]; rfl
      have KEY := Lib.hid hkey
      clear hx hkey
      have hlt := byte_lt s k hkn
      cases b : (((s[k].toNat : Nat) : Int) == 34) with
      | true =>
        have e : s[k].toNat = 34 := by have := eq_of_beq b; omega
        have HQ := Lib.hid (show q1 s[k].toNat = [92, s[k].toNat] by rw [e]; rfl)
        clear e
        go_wp2_with (at_builtin; refine app_own kU8 _ rfl _ _ rfl w.heap.size A n c _ rfl (HO.out.alloc _) _ 2 2 [92, s[k].toNat] rfl (RdK.lits kU8 _ [92, s[k].toNat] (by intro x hx; show x < 256; simp at hx; omega)) (by omega) (by have := HB.out.size; simp; omega) ?_; intro A3 c3 w3 ho3 hg3; have HO3 := Lib.hid ho3; have HB3 := Lib.hid (below_app HB.out HB.out.size HO.out hg3); clear ho3 hg3)
        exact ⟨⟨k + 1, A3, n + 2, c3, by omega, by go_num, rfl, by rw [KEY.out, HQ.out]; exact HO3.out, HB3.out⟩, by simp [intOf]; omega⟩
      | false =>
        cases b2 : (((s[k].toNat : Nat) : Int) == 92) with
        | true =>
          have e : s[k].toNat = 92 := by have := eq_of_beq b2; omega
          have HQ := Lib.hid (show q1 s[k].toNat = [92, s[k].toNat] by rw [e]; rfl)
          clear e
          go_wp2_with (at_builtin; refine app_own kU8 _ rfl _ _ rfl w.heap.size A n c _ rfl (HO.out.alloc _) _ 2 2 [92, s[k].toNat] rfl (RdK.lits kU8 _ [92, s[k].toNat] (by intro x hx; show x < 256; simp at hx; omega)) (by omega) (by have := HB.out.size; simp; omega) ?_; intro A3 c3 w3 ho3 hg3; have HO3 := Lib.hid ho3; have HB3 := Lib.hid (below_app HB.out HB.out.size HO.out hg3); clear ho3 hg3)
          exact ⟨⟨k + 1, A3, n + 2, c3, by omega, by go_num, rfl, by rw [KEY.out, HQ.out]; exact HO3.out, HB3.out⟩, by simp [intOf]; omega⟩
        | false =>
          have eb : ¬ (s[k].toNat = 34 ∨ s[k].toNat = 92) := by
            rintro (e | e)
            · rw [e] at b; simp at b
            · rw [e] at b2; simp at b2
          have EB := Lib.hid eb
          clear eb
          cases a : (((s[k].toNat : Nat) : Int) == 10) with
          | true =>
            have e : s[k].toNat = 10 := by have := eq_of_beq a; omega
            have HQ := Lib.hid (show q1 s[k].toNat = [92, 110] by rw [e]; rfl)
            clear e
            go_wp2_with (at_builtin; refine app_own kU8 _ rfl _ _ rfl w.heap.size A n c _ rfl (HO.out.alloc _) _ 2 2 [92, 110] rfl (RdK.lits kU8 _ [92, 110] (by intro x hx; show x < 256; simp at hx; omega)) (by omega) (by have := HB.out.size; simp; omega) ?_; intro A3 c3 w3 ho3 hg3; have HO3 := Lib.hid ho3; have HB3 := Lib.hid (below_app HB.out HB.out.size HO.out hg3); clear ho3 hg3)
            exact ⟨⟨k + 1, A3, n + 2, c3, by omega, by go_num, rfl, by rw [KEY.out, HQ.out]; exact HO3.out, HB3.out⟩, by simp [intOf]; omega⟩
          | false =>
            have ea : s[k].toNat ≠ 10 := fun e => by rw [e] at a; simp at a
            have EA := Lib.hid ea
            clear ea
            cases r : prB ((s[k].toNat : Nat) : Int) with
            | true =>
              have HQ := Lib.hid (show q1 s[k].toNat = [s[k].toNat] by
                unfold q1
                rw [if_neg EA.out, if_neg EB.out, if_pos (by unfold prB at r; simp at r; omega)])
              go_wp2_with (first | (go_at_call 25; refine (printed_c _ _).mono ?_; rintro _ _ ⟨rfl, rfl⟩) | (at_builtin; refine app_own kU8 _ rfl _ _ rfl w.heap.size A n c _ rfl (HO.out.alloc _) _ 1 1 [s[k].toNat] rfl (RdK.lits kU8 _ [s[k].toNat] (by intro x hx; show x < 256; simp at hx; omega)) (by omega) (by have := HB.out.size; simp; omega) ?_; intro A3 c3 w3 ho3 hg3; have HO3 := Lib.hid ho3; have HB3 := Lib.hid (below_app HB.out HB.out.size HO.out hg3); clear ho3 hg3))
              exact ⟨⟨k + 1, A3, n + 1, c3, by omega, by go_num, rfl, by rw [KEY.out, HQ.out]; exact HO3.out, HB3.out⟩, by simp [intOf]; omega⟩
            | false =>
              have HQ := Lib.hid (show q1 s[k].toNat = [92, 120, hexD (s[k].toNat / 16), hexD (s[k].toNat % 16)] by
                unfold q1
                rw [if_neg EA.out, if_neg EB.out, if_neg (by unfold prB at r; simp at r; omega)])
              go_wp2_with (go_at_call 25; refine (printed_c _ _).mono ?_; rintro _ _ ⟨rfl, rfl⟩)
              have c1 : s[k].toNat / 16 < 16 := by omega
              have c2 : s[k].toNat % 16 < 16 := by omega
              have e1 : (((s[k].toNat : Nat) : Int) / 16).toNat = s[k].toNat / 16 := by omega
              have e2 : (((s[k].toNat : Nat) : Int) % 16).toNat = s[k].toNat % 16 := by omega
              have hx1 : (({ data := #[48, 49, 50, 51, 52, 53, 54, 55, 56, 57, 97, 98, 99, 100, 101, 102] } : ByteArray)[s[k].toNat / 16]'c1).toNat = hexD (s[k].toNat / 16) := hexAt _ c1
              have hx2 : (({ data := #[48, 49, 50, 51, 52, 53, 54, 55, 56, 57, 97, 98, 99, 100, 101, 102] } : ByteArray)[s[k].toNat % 16]'c2).toNat = hexD (s[k].toNat % 16) := hexAt _ c2
              have l1 : hexD (s[k].toNat / 16) < 256 := by unfold hexD; split <;> omega
              have l2 : hexD (s[k].toNat % 16) < 256 := by unfold hexD; split <;> omega
              have LL := Lib.hid (show ∀ x ∈ [92, 120, hexD (s[k].toNat / 16), hexD (s[k].toNat % 16)], kU8.ok x by intro x hx; show x < 256; simp at hx; omega)
              clear l1 l2
              have band := and15 s[k].toNat hlt
              have d1 : (0 : Int) ≤ ((s[k].toNat : Nat) : Int) / 16 := by omega
              have d2 : ((s[k].toNat : Nat) : Int) / 16 < 16 := by omega
              have d3 : (0 : Int) ≤ ((s[k].toNat : Nat) : Int) % 16 := by omega
              have d4 : ((s[k].toNat : Nat) : Int) % 16 < 16 := by omega
              go_region_law (refine app_step kU8 _ rfl (.tmp 22) (.tmp 29) rfl w.heap.size A n c _ rfl (HO.out.alloc _).drew _ 4 4 [92, 120, hexD (s[k].toNat / 16), hexD (s[k].toNat % 16)] rfl (RdK.lits kU8 wr [92, 120, hexD (s[k].toNat / 16), hexD (s[k].toNat % 16)] LL.out).drew (by omega) (by have := HB.out.size; simp; omega) ?_; intro A3 c3 w3 ho3 hg3; have HO3 := Lib.hid ho3; have HB3 := Lib.hid (below_app' (HB.out.alloc HB.out.size _).drew (by have := HB.out.size; simp; omega) (HO.out.alloc _).drew hg3); clear ho3 hg3)
              all_goals go_wp2
              all_goals exact ⟨⟨k + 1, A3, n + 4, c3, by omega, by go_num, rfl, by rw [KEY.out, HQ.out]; exact HO3.out, HB3.out⟩, by simp [intOf]; omega⟩
    · have hk2 : k = s.size := by omega
      have HX := Lib.hid (show (34 :: q2 ((M.bytes s).take k)) ++ [34] = quo s by
        rw [List.take_of_length_le (by rw [M.bytes_len]; omega)]
        rfl)
      clear hk2
      go_wp2_with (at_builtin; refine app_own kU8 _ rfl _ _ rfl w.heap.size A n c _ rfl (HO.out.alloc _) _ 1 1 [34] rfl (RdK.lits kU8 _ [34] (by intro x hx; simp at hx; subst hx; show 34 < 256; decide)) (by omega) (by have := HB.out.size; simp; omega) ?_; intro A3 c3 w3 ho3 hg3; have HB3 := Lib.hid (below_app HB.out HB.out.size HO.out hg3); obtain ⟨u, hu, hcv⟩ := ho3.back (by omega); have HU := Lib.hid hu; clear ho3 hg3 hu)
      go_ret
      exact ⟨⟨u, rfl, HU.out.trans HX.out⟩, HB3.out⟩
end Go.Proofs.YthhkpoobcnmdgaaDoor
/-
  lex: signs, digits to the base 16, items of texts, what parts tokens.
-/
namespace Go.Proofs.YthhkpoobcnmdgaaDoor
open Go.RowKit
set_option linter.unusedVariables false

theorem toList_bytes {s : ByteArray} {l : List UInt8} : (s.toList == l) = (M.bytes s == l.map UInt8.toNat) := by
  rw [ByteArray.toList_eq]
  unfold M.bytes
  rw [Bool.eq_iff_iff, beq_iff_eq, beq_iff_eq]
  constructor
  · intro h; rw [h]
  · intro h
    exact List.map_inj_right (fun a b e => UInt8.toNat_inj.1 e) |>.1 h
theorem two_eq {s : ByteArray} (h : 2 ≤ s.size) (a b : UInt8) : ((s.extract 0 2).toList == [a, b]) = (decide (by_ s 0 = a.toNat) && decide (by_ s 1 = b.toNat)) := by
  rw [toList_bytes, M.bytes_extract, by_at (show 0 < s.size by omega), by_at (show 1 < s.size by omega)]
  have h0 := M.bytes_get s 0 (by omega)
  have h1 := M.bytes_get s 1 (by omega)
  match hb : M.bytes s, h0, h1 with
  | [], h0, _ => simp at h0
  | [x], _, h1 => simp at h1
  | x :: y :: l, h0, h1 =>
    simp at h0 h1
    subst h0; subst h1
    rw [Bool.eq_iff_iff]
    simp
    omega
/-- How many bytes at a text's start are a sign. -/
def signN (s : ByteArray) : Nat :=
  if 2 ≤ s.size ∧ ((by_ s 0 = 60 ∧ by_ s 1 = 61) ∨ (by_ s 0 = 61 ∧ by_ s 1 = 61) ∨ (by_ s 0 = 45 ∧ by_ s 1 = 62)) then 2
  else if by_ s 0 = 43 ∨ by_ s 0 = 45 ∨ by_ s 0 = 42 ∨ by_ s 0 = 60 ∨ by_ s 0 = 61 then 1 else 0
theorem signLong_c (s : ByteArray) (w : World) (hs : s.size ≤ 1048576) : Calls Tryd.prog 55 #[.string s] w fun e w' => e = .returned (.int .i64 (signN s)) ∧ w = w' := by
  by_cases h0 : s.size = 0
  · have he : s.toList.isEmpty = true := by rw [toList_empty]; simp [h0]
    have hn : s.toList = [] := by simpa using he
    have hr : signN s = 0 := by
      unfold signN
      rw [if_neg (by omega), by_out (by omega)]
      rfl
    have HR := Lib.hid hr
    clear hr
    go_enter Tryd.func55, Tryd.ntmps55
    go_wp2
    go_ret
    rw [HR.out]
    exact ⟨rfl, rfl⟩
  · have he : s.toList.isEmpty = false := by rw [toList_empty]; simp [h0]
    have hne : ¬ s.toList = [] := by simpa using he
    have hpos : 0 < s.size := by omega
    have hb := by_at hpos
    have h1 : (if by_ s 0 = 43 ∨ by_ s 0 = 45 ∨ by_ s 0 = 42 ∨ by_ s 0 = 60 ∨ by_ s 0 = 61 then 1 else 0 : Nat) =
        (if (((s[0].toNat : Nat) : Int) == 43 || ((s[0].toNat : Nat) : Int) == 45 || ((s[0].toNat : Nat) : Int) == 42 || ((s[0].toNat : Nat) : Int) == 60 || ((s[0].toNat : Nat) : Int) == 61) = true then 1 else 0 : Nat) := by
      rw [hb]
      simp only [Bool.or_eq_true, beq_iff_eq, or_assoc]
    by_cases h2 : 2 ≤ s.size
    · have hr : signN s = if ((s.extract 0 2).toList == [60, 61] || (s.extract 0 2).toList == [61, 61] || (s.extract 0 2).toList == [45, 62]) = true then 2 else
          (if (((s[0].toNat : Nat) : Int) == 43 || ((s[0].toNat : Nat) : Int) == 45 || ((s[0].toNat : Nat) : Int) == 42 || ((s[0].toNat : Nat) : Int) == 60 || ((s[0].toNat : Nat) : Int) == 61) = true then 1 else 0) := by
        unfold signN
        rw [h1, two_eq h2 60 61, two_eq h2 61 61, two_eq h2 45 62]
        simp only [Bool.or_eq_true, Bool.and_eq_true, decide_eq_true_eq, h2, true_and, or_assoc]
        rfl
      have HR := Lib.hid hr
      clear hr h1 hb
      go_enter Tryd.func55, Tryd.ntmps55
      go_wp2
      all_goals
        go_ret
        rw [HR.out]
        refine ⟨?_, rfl⟩
        first | (simp [*]; done) | (exfalso; simp_all; done)
    · have hr : signN s = (if (((s[0].toNat : Nat) : Int) == 43 || ((s[0].toNat : Nat) : Int) == 45 || ((s[0].toNat : Nat) : Int) == 42 || ((s[0].toNat : Nat) : Int) == 60 || ((s[0].toNat : Nat) : Int) == 61) = true then 1 else 0) := by
        unfold signN
        rw [h1, if_neg (fun h => h2 h.1)]
      have HR := Lib.hid hr
      clear hr h1 hb
      go_enter Tryd.func55, Tryd.ntmps55
      go_wp2
      all_goals
        go_ret
        rw [HR.out]
        refine ⟨?_, rfl⟩
        first | (simp [*]; done) | (exfalso; simp_all; done)
end Go.Proofs.YthhkpoobcnmdgaaDoor
/-
  lex: digits to the base 16, items of texts.
-/
namespace Go.Proofs.YthhkpoobcnmdgaaDoor
open Go.RowKit
set_option linter.unusedVariables false

/-- A digit to the base 16; -1: it is none. -/
def hexV (b : Int) : Int := if digB b = true then b - 48 else if 97 ≤ b ∧ b ≤ 102 then b - 87 else -1
theorem hexDigit_c (b : Int) (w : World) (h0 : 0 ≤ b) (h1 : b < 256) : Calls Tryd.prog 63 #[.int .u8 b] w fun e w' => e = .returned (.int .i64 (hexV b)) ∧ w = w' := by
  cases hd : digB b with
  | true =>
    have hb : 48 ≤ b ∧ b ≤ 57 := by simpa [digB] using hd
    have HR := Lib.hid (show hexV b = b - 48 by unfold hexV; rw [if_pos hd])
    obtain ⟨hb1, hb2⟩ := hb
    go_enter Tryd.func63, Tryd.ntmps63
    go_wp2_with (go_at_call 48; refine (digit_c _ _).mono ?_; rintro _ _ ⟨rfl, rfl⟩)
    go_ret
    rw [HR.out]
    exact ⟨by go_num, rfl⟩
  | false =>
    by_cases hx : 97 ≤ b ∧ b ≤ 102
    · have HR := Lib.hid (show hexV b = b - 87 by unfold hexV; rw [if_neg (by rw [hd]; decide), if_pos hx])
      obtain ⟨hb1, hb2⟩ := hx
      go_enter Tryd.func63, Tryd.ntmps63
      go_wp2_with (go_at_call 48; refine (digit_c _ _).mono ?_; rintro _ _ ⟨rfl, rfl⟩)
      go_ret
      rw [HR.out]
      exact ⟨by go_num, rfl⟩
    · have HR := Lib.hid (show hexV b = -1 by unfold hexV; rw [if_neg (by rw [hd]; decide), if_neg hx])
      have hx2 : (decide (97 ≤ b) && decide (b ≤ 102)) = false := by
        rw [Bool.and_eq_false_iff, decide_eq_false_iff_not, decide_eq_false_iff_not]
        omega
      go_enter Tryd.func63, Tryd.ntmps63
      go_wp2_with (go_at_call 48; refine (digit_c _ _).mono ?_; rintro _ _ ⟨rfl, rfl⟩)
      all_goals
        first
          | (exfalso; omega)
          | (go_ret; rw [HR.out]; exact ⟨rfl, rfl⟩)
theorem hexV_range (b : Int) : -1 ≤ hexV b ∧ hexV b ≤ 15 := by
  unfold hexV
  split
  · rename_i h
    have : 48 ≤ b ∧ b ≤ 57 := by simpa [digB] using h
    omega
  · split <;> omega
theorem or16 (a b : Nat) (ha : a < 16) (hb : b < 16) : bits .or .i64 ((a : Int) * 16) (b : Int) = ((16 * a + b : Nat) : Int) := by
  have : ∀ a : Nat, a < 16 → ∀ b : Nat, b < 16 → bits .or .i64 ((a : Int) * 16) (b : Int) = ((16 * a + b : Nat) : Int) := by decide +kernel
  exact this a ha b hb
/-- What the item \x.. at a text's start is worth, and how long it is; 0: it is none. -/
def hexN (s : ByteArray) : Int × Int :=
  if 4 ≤ s.size ∧ 0 ≤ hexV (by_ s 2) ∧ 0 ≤ hexV (by_ s 3) then (16 * hexV (by_ s 2) + hexV (by_ s 3), 4) else (0, 0)
theorem hexN_len (s : ByteArray) : (hexN s).2 = 0 ∨ (hexN s).2 = 4 := by
  unfold hexN
  split
  · exact .inr rfl
  · exact .inl rfl
set_option maxHeartbeats 2000000 in
theorem hexItem_c (s : ByteArray) (w : World) (hs : s.size ≤ 1048576) : Calls Tryd.prog 62 #[.string s] w fun e w' => e = .returned (.tuple #[.int .u8 (hexN s).1, .int .i64 (hexN s).2]) ∧ Below w.heap.size w w' := by
  by_cases h4 : 4 ≤ s.size
  · have b2 := by_at (show 2 < s.size by omega)
    have b3 := by_at (show 3 < s.size by omega)
    have l2 := byte_lt s 2 (by omega)
    have l3 := byte_lt s 3 (by omega)
    have r2 := hexV_range (by_ s 2)
    have r3 := hexV_range (by_ s 3)
    obtain ⟨p, hp⟩ : ∃ p, p = hexV (by_ s 2) := ⟨_, rfl⟩
    obtain ⟨q, hq⟩ : ∃ q, q = hexV (by_ s 3) := ⟨_, rfl⟩
    have hr : hexN s = if 0 ≤ p ∧ 0 ≤ q then (16 * p + q, 4) else (0, 0) := by
      unfold hexN
      rw [← hp, ← hq]
      simp only [h4, true_and]
    rw [← hp] at r2
    rw [← hq] at r3
    rw [b2] at hp
    rw [b3] at hq
    have HR := Lib.hid hr
    have HP := Lib.hid hp
    have HQ := Lib.hid hq
    clear hr b2 b3 hp hq
    by_cases hpn : p < 0
    · have hz := Lib.hid (show hexN s = (0, 0) by rw [HR.out, if_neg (by omega)])
      clear HR
      go_enter Tryd.func62, Tryd.ntmps62
      go_wp2
      go_region_with (go_at_call 63; refine (hexDigit_c _ _ (by omega) (by omega)).mono ?_; rintro _ _ ⟨rfl, rfl⟩; (first | rw [← HP.out] | rw [← HQ.out]))
      all_goals go_wp2
      all_goals go_returns
      all_goals rw [hz.out]
      all_goals exact ⟨rfl, (Below.refl _ _).drew⟩
    · by_cases hqn : q < 0
      · have hz := Lib.hid (show hexN s = (0, 0) by rw [HR.out, if_neg (by omega)])
        clear HR
        go_enter Tryd.func62, Tryd.ntmps62
        go_wp2
        go_region_with (go_at_call 63; refine (hexDigit_c _ _ (by omega) (by omega)).mono ?_; rintro _ _ ⟨rfl, rfl⟩; (first | rw [← HP.out] | rw [← HQ.out]))
        all_goals go_wp2
        all_goals go_returns
        all_goals rw [hz.out]
        all_goals exact ⟨rfl, (Below.refl _ _).drew⟩
      · obtain ⟨a, rfl⟩ := Int.eq_ofNat_of_zero_le (show 0 ≤ p by omega)
        obtain ⟨b, rfl⟩ := Int.eq_ofNat_of_zero_le (show 0 ≤ q by omega)
        have ha : a < 16 := by omega
        have hb : b < 16 := by omega
        have hor := or16 a b ha hb
        have hz := Lib.hid (show hexN s = (((16 * a + b : Nat) : Int), 4) by rw [HR.out, if_pos ⟨by omega, by omega⟩]; norm_cast)
        clear HR
        go_enter Tryd.func62, Tryd.ntmps62
        go_wp2
        go_region_with (go_at_call 63; refine (hexDigit_c _ _ (by omega) (by omega)).mono ?_; rintro _ _ ⟨rfl, rfl⟩; (first | rw [← HP.out] | rw [← HQ.out]))
        all_goals go_wp2
        all_goals go_returns
        all_goals rw [hz.out]
        all_goals exact ⟨rfl, (Below.refl _ _).drew⟩
  · have hr : hexN s = (0, 0) := if_neg (fun h => h4 h.1)
    have HR := Lib.hid hr
    clear hr
    go_enter Tryd.func62, Tryd.ntmps62
    go_wp2
    go_returns
    rw [HR.out]
    exact ⟨rfl, .refl _ _⟩
end Go.Proofs.YthhkpoobcnmdgaaDoor
/-
  lex: items of texts.
-/
namespace Go.Proofs.YthhkpoobcnmdgaaDoor
open Go.RowKit
set_option linter.unusedVariables false

/-- What the item at a text's start is worth, and how long it is; 0: it is none. -/
def itemN (s : ByteArray) : Int × Int :=
  if prB (by_ s 0) = false then (0, 0) else if by_ s 0 ≠ 92 then (by_ s 0, 1) else if s.size < 2 then (0, 0)
  else if by_ s 1 = 34 ∨ by_ s 1 = 92 then (by_ s 1, 2) else if by_ s 1 = 110 then (10, 2) else if by_ s 1 = 120 then hexN s else (0, 0)
theorem bl_one {w w1 : World} (h : Below w.heap.size w w1) : Below w.heap.size w w1 := h
set_option maxHeartbeats 2000000 in
theorem item_c (s : ByteArray) (w : World) (hs : s.size ≤ 1048576) (hpos : 0 < s.size) : Calls Tryd.prog 61 #[.string s] w fun e w' => e = .returned (.tuple #[.int .u8 (itemN s).1, .int .i64 (itemN s).2]) ∧ Below w.heap.size w w' := by
  have b0 := by_at hpos
  have l0 := byte_lt s 0 hpos
  cases hp : prB ((s[0].toNat : Nat) : Int) with
  | false =>
    have hz := Lib.hid (show itemN s = (0, 0) by unfold itemN; rw [b0, if_pos hp])
    clear b0
    go_enter Tryd.func61, Tryd.ntmps61
    go_wp2_with (go_at_call 25; refine (printed_c _ _).mono ?_; rintro _ _ ⟨rfl, rfl⟩)
    go_returns
    rw [hz.out]
    exact ⟨rfl, .refl _ _⟩
  | true =>
    cases h92 : (((s[0].toNat : Nat) : Int) == 92) with
    | false =>
      have hz := Lib.hid (show itemN s = (((s[0].toNat : Nat) : Int), 1) by
        unfold itemN
        rw [b0, if_neg (by rw [hp]; decide), if_pos (fun e => by rw [e] at h92; simp at h92)])
      clear b0
      go_enter Tryd.func61, Tryd.ntmps61
      go_wp2_with (go_at_call 25; refine (printed_c _ _).mono ?_; rintro _ _ ⟨rfl, rfl⟩)
      go_returns
      rw [hz.out]
      exact ⟨rfl, .refl _ _⟩
    | true =>
      have hi : itemN s = if s.size < 2 then (0, 0) else if by_ s 1 = 34 ∨ by_ s 1 = 92 then (by_ s 1, 2) else if by_ s 1 = 110 then (10, 2) else if by_ s 1 = 120 then hexN s else (0, 0) := by
        unfold itemN
        rw [b0, if_neg (by rw [hp]; decide), if_neg (fun h => h (eq_of_beq h92))]
      have HI := Lib.hid hi
      clear hi b0
      by_cases h2 : s.size < 2
      · have hz := Lib.hid (show itemN s = (0, 0) by rw [HI.out, if_pos h2])
        clear HI
        go_enter Tryd.func61, Tryd.ntmps61
        go_wp2_with (go_at_call 25; refine (printed_c _ _).mono ?_; rintro _ _ ⟨rfl, rfl⟩)
        go_returns
        rw [hz.out]
        exact ⟨rfl, .refl _ _⟩
      · have h1 : 1 < s.size := by omega
        have b1 := by_at h1
        have l1 := byte_lt s 1 h1
        have hi : itemN s = if ((s[1].toNat : Nat) : Int) = 34 ∨ ((s[1].toNat : Nat) : Int) = 92 then (((s[1].toNat : Nat) : Int), 2) else if ((s[1].toNat : Nat) : Int) = 110 then (10, 2) else if ((s[1].toNat : Nat) : Int) = 120 then hexN s else (0, 0) := by
          rw [HI.out, if_neg h2, b1]
        have HJ := Lib.hid hi
        clear hi b1 HI
        have hl := hexN_len s
        have HL := Lib.hid hl
        clear hl
        go_enter Tryd.func61, Tryd.ntmps61
        go_wp2_with (first
          | (go_at_call 25; refine (printed_c _ _).mono ?_; rintro _ _ ⟨rfl, rfl⟩)
          | (go_at_call 62; refine (hexItem_c s _ hs).mono ?_; rintro _ w5 ⟨rfl, hbl⟩; have HB5 := Lib.hid hbl; clear hbl))
        all_goals go_returns
        all_goals (rw [HJ.out]; clear HJ HL)
        all_goals first
          | exact absurd (eq_of_beq (by assumption : (((s[1].toNat : Nat) : Int) == 34) = true)) (ne_of_beq_false (by assumption : (((s[1].toNat : Nat) : Int) == 34) = false))
          | exact absurd (eq_of_beq (by assumption : (((s[1].toNat : Nat) : Int) == 92) = true)) (ne_of_beq_false (by assumption : (((s[1].toNat : Nat) : Int) == 92) = false))
          | exact absurd (eq_of_beq (by assumption : (((s[1].toNat : Nat) : Int) == 110) = true)) (ne_of_beq_false (by assumption : (((s[1].toNat : Nat) : Int) == 110) = false))
          | exact absurd (eq_of_beq (by assumption : (((s[1].toNat : Nat) : Int) == 120) = true)) (ne_of_beq_false (by assumption : (((s[1].toNat : Nat) : Int) == 120) = false))
          | (refine ⟨?_, by first | exact .refl _ _ | exact HB5.out⟩
             first
               | (rw [if_pos (Or.inl (eq_of_beq (by assumption : (((s[1].toNat : Nat) : Int) == 34) = true)))]; rfl)
               | (rw [if_pos (Or.inr (eq_of_beq (by assumption : (((s[1].toNat : Nat) : Int) == 92) = true)))]; rfl)
               | (rw [if_neg (fun h => h.elim (ne_of_beq_false (by assumption : (((s[1].toNat : Nat) : Int) == 34) = false)) (ne_of_beq_false (by assumption : (((s[1].toNat : Nat) : Int) == 92) = false))), if_pos (eq_of_beq (by assumption : (((s[1].toNat : Nat) : Int) == 110) = true))]; rfl)
               | (rw [if_neg (fun h => h.elim (ne_of_beq_false (by assumption : (((s[1].toNat : Nat) : Int) == 34) = false)) (ne_of_beq_false (by assumption : (((s[1].toNat : Nat) : Int) == 92) = false))), if_neg (ne_of_beq_false (by assumption : (((s[1].toNat : Nat) : Int) == 110) = false)), if_pos (eq_of_beq (by assumption : (((s[1].toNat : Nat) : Int) == 120) = true))]; rfl)
               | (rw [if_neg (fun h => h.elim (ne_of_beq_false (by assumption : (((s[1].toNat : Nat) : Int) == 34) = false)) (ne_of_beq_false (by assumption : (((s[1].toNat : Nat) : Int) == 92) = false))), if_neg (ne_of_beq_false (by assumption : (((s[1].toNat : Nat) : Int) == 110) = false)), if_neg (ne_of_beq_false (by assumption : (((s[1].toNat : Nat) : Int) == 120) = false))]; rfl))
end Go.Proofs.YthhkpoobcnmdgaaDoor
/-
  lex: texts (textOf).
-/
namespace Go.Proofs.YthhkpoobcnmdgaaDoor
open Go.RowKit
set_option linter.unusedVariables false

theorem hexN_val (s : ByteArray) : 0 ≤ (hexN s).1 ∧ (hexN s).1 < 256 ∧ 0 ≤ (hexN s).2 ∧ ((hexN s).2 = 0 ∨ (hexN s).2 ≤ s.size) := by
  have r2 := hexV_range (by_ s 2)
  have r3 := hexV_range (by_ s 3)
  unfold hexN
  split
  · rename_i h
    refine ⟨?_, ?_, (by show (0 : Int) ≤ 4; decide), .inr ?_⟩
    · show 0 ≤ 16 * hexV (by_ s 2) + hexV (by_ s 3); omega
    · show 16 * hexV (by_ s 2) + hexV (by_ s 3) < 256; omega
    · show (4 : Int) ≤ s.size; omega
  · exact ⟨by decide, by decide, by decide, .inl rfl⟩
theorem by_range (s : ByteArray) (k : Nat) (h : k < s.size) : 0 ≤ by_ s k ∧ by_ s k < 256 := by
  have := byte_lt s k h
  rw [by_at h]
  omega
theorem itemN_val (s : ByteArray) (hp : 0 < s.size) : 0 ≤ (itemN s).1 ∧ (itemN s).1 < 256 ∧ 0 ≤ (itemN s).2 ∧ ((itemN s).2 = 0 ∨ (itemN s).2 ≤ s.size) := by
  have r0 := by_range s 0 hp
  unfold itemN
  split
  · exact ⟨by decide, by decide, by decide, .inl rfl⟩
  · split
    · exact ⟨r0.1, r0.2, (by show (0 : Int) ≤ 1; decide), .inr (by show (1 : Int) ≤ s.size; omega)⟩
    · split
      · exact ⟨by decide, by decide, by decide, .inl rfl⟩
      · have r1 := by_range s 1 (by omega)
        split
        · exact ⟨r1.1, r1.2, (by show (0 : Int) ≤ 2; decide), .inr (by show (2 : Int) ≤ s.size; omega)⟩
        · split
          · exact ⟨by decide, by decide, by decide, .inr (by show (2 : Int) ≤ s.size; omega)⟩
          · split
            · exact hexN_val s
            · exact ⟨by decide, by decide, by decide, .inl rfl⟩

/-- The bytes of a text from a place within its token on, behind those read, and where the token ends. -/
def textG (s : ByteArray) : Nat → Nat → List Nat → Option (List Nat × Nat)
  | 0, _, _ => none
  | f + 1, k, out => if s.size ≤ k then none else if by_ s k = 34 then some (out, k + 1) else
      if (itemN (s.extract k s.size)).2 = 0 then none else textG s f (k + (itemN (s.extract k s.size)).2.toNat) (out ++ [(itemN (s.extract k s.size)).1.toNat])
/-- The bytes of the text that stands at s's start, and how long its token is. -/
def textN (s : ByteArray) : Option (List Nat × Nat) := if by_ s 0 = 34 then textG s s.size 1 [] else none
/-- What textOf answers of it. -/
def textE (o : Option (List Nat × Nat)) (e : Ending) : Prop := match o with
  | some (l, n) => ∃ t, e = .returned (.tuple #[.string t, .int .i64 n]) ∧ M.bytes t = l
  | none => e = .returned (.tuple #[.string ⟨#[]⟩, .int .i64 0])
theorem OwK.text {w : World} {base : Nat} {A : Option Addr} {n c : Nat} {xs : List Nat} (h : OwK kU8 w base A n c xs) : ∃ u : ByteArray, M.bytes u = xs ∧ (convert 24 9 (.slice A n c)).run Tryd.prog w = .ok (.string u) w := by
  by_cases hn : 0 < n
  · exact h.back hn
  · have h0 : xs = [] := List.eq_nil_of_length_eq_zero (by rw [h.len]; omega)
    subst h0
    rcases h.cases with ⟨rfl, rfl, rfl, _⟩ | ⟨g, cur, rfl, _⟩
    · exact ⟨ByteArray.empty, rfl, run_convert_bytes_nil (P := Tryd.prog) w 24 5 Tryd.underlying24 Tryd.underlying5 0 0 9 Tryd.underlying9⟩
    · have h1 : n = 0 := by omega
      subst h1
      exact ⟨strOfNums [], rfl, run_convert_bytes_arg (P := Tryd.prog) w 24 5 Tryd.underlying24 Tryd.underlying5 g 0 0 c [] rfl (fun i hi => by omega) 9 Tryd.underlying9⟩
theorem textG_more (s : ByteArray) (f k : Nat) (l : List Nat) (hk : k < s.size) (h : by_ s k ≠ 34) (hz : (itemN (s.extract k s.size)).2 ≠ 0) :
    textG s (f + 1) k l = textG s f (k + (itemN (s.extract k s.size)).2.toNat) (l ++ [(itemN (s.extract k s.size)).1.toNat]) := by
  rw [textG, if_neg (by omega), if_neg h, if_neg hz]
set_option maxHeartbeats 4000000 in
theorem textOf_c (s : ByteArray) (w : World) (hs : s.size ≤ 1048576) : Calls Tryd.prog 54 #[.string s] w fun e w' => textE (textN s) e ∧ Below w.heap.size w w' := by
  by_cases hp : 0 < s.size
  · have b0 := by_at hp
    have l0 := byte_lt s 0 hp
    have he : s.toList.isEmpty = false := by rw [toList_empty]; exact decide_eq_false (by omega)
    have hn : ¬ s.toList = [] := fun h => by rw [h] at he; cases he
    cases hq : (((s[0].toNat : Nat) : Int) == 34) with
    | false =>
      have hne : (((s[0].toNat : Nat) : Int) != 34) = true := by simp only [bne, hq]; rfl
      have HZ := Lib.hid (show textN s = none by unfold textN; rw [b0, if_neg (ne_of_beq_false hq)])
      clear b0 hq
      go_enter Tryd.func54, Tryd.ntmps54
      go_wp2
      go_returns
      rw [HZ.out]
      exact ⟨rfl, .refl _ _⟩
    | true =>
      have hne : (((s[0].toNat : Nat) : Int) != 34) = false := by simp only [bne, hq]; rfl
      have hz : textN s = textG s s.size 1 [] := by unfold textN; rw [b0, if_pos (eq_of_beq hq)]
      have HZ := Lib.hid hz
      clear b0 hq hz
      go_enter Tryd.func54, Tryd.ntmps54
      go_wp2
      go_loopw [4, 5, 6, 7] (fun v i b l wr => ∃ (k n c : Nat) (A : Option Addr) (xs : List Nat), 1 ≤ k ∧ k ≤ s.size ∧ n ≤ k ∧ i = .int .i64 k ∧ v = .slice A n c ∧ OwK kU8 wr w.heap.size A n c xs ∧ (∃ f, s.size - k < f ∧ textN s = textG s f k xs) ∧ Below w.heap.size w wr) (fun v i b l _ => s.size - (intOf i).toNat)
      case atStart => exact ⟨1, 0, 0, none, [], by omega, by omega, by omega, rfl, rfl, OwK.nil_ _ _, ⟨s.size, by omega, HZ.out⟩, .refl _ _⟩
      case round =>
        obtain ⟨k, n, c, A, xs, hk1, hk, hnk, rfl, rfl, ho, ⟨f, hf, ht⟩, hbl⟩ := hrel
        obtain ⟨f, rfl⟩ : ∃ f', f = f' + 1 := ⟨f - 1, by omega⟩
        have HO := Lib.hid ho
        have HT := Lib.hid ht
        have HF := Lib.hid hf
        have HB := Lib.hid hbl
        clear ho ht hbl hf HZ
        by_cases hkn : k < s.size
        · have hx := by_at hkn
          have hlt := byte_lt s k hkn
          cases q : (((s[k].toNat : Nat) : Int) == 34) with
          | true =>
            have HR := Lib.hid (show textN s = some (xs, k + 1) by rw [HT.out, textG, if_neg (by omega), if_pos (by rw [hx]; exact eq_of_beq q)])
            obtain ⟨u, hu, hcv⟩ := HO.out.text
            have HU := Lib.hid hu
            clear hx hu
            go_wp2
            go_returns
            rw [HR.out]
            exact ⟨⟨u, by push_cast; rfl, HU.out⟩, HB.out⟩
          | false =>
            have hxs : (s.extract k s.size).size = s.size - k := by rw [ByteArray.size_extract]; omega
            have hxp : 0 < (s.extract k s.size).size := by omega
            obtain ⟨v1, v2, v3, v4⟩ := itemN_val (s.extract k s.size) hxp
            obtain ⟨b, hb⟩ : ∃ b : Nat, (itemN (s.extract k s.size)).1 = b := ⟨_, (Int.toNat_of_nonneg v1).symm⟩
            obtain ⟨l, hl⟩ : ∃ l : Nat, (itemN (s.extract k s.size)).2 = l := ⟨_, (Int.toNat_of_nonneg v3).symm⟩
            have IC : ∀ w, Calls Tryd.prog 61 #[.string (s.extract k s.size)] w fun e w' => e = .returned (.tuple #[.int .u8 b, .int .i64 l]) ∧ Below w.heap.size w w' := by
              intro w
              have := item_c (s.extract k s.size) w (by omega) hxp
              rw [hb, hl] at this
              exact this
            have hb256 : b < 256 := by rw [hb] at v2; omega
            have hl4 : l = 0 ∨ l ≤ s.size - k := by rw [hl, hxs] at v4; omega
            have hstep : textG s (f + 1) k xs = if (l : Int) = 0 then none else textG s f (k + l) (xs ++ [b]) := by
              rw [textG, if_neg (by omega), if_neg (by rw [hx]; exact ne_of_beq_false q), hb, hl, Int.toNat_natCast, Int.toNat_natCast]
            have HS := Lib.hid hstep
            clear v1 v2 v3 v4 hx hb hl hstep hxs hxp
            by_cases e : l = 0
            · have HR := Lib.hid (show textN s = none by rw [HT.out, HS.out, if_pos (by omega)])
              subst e
              go_wp2_with (go_at_call 61; refine (IC _).mono ?_; rintro _ w5 ⟨rfl, hb5⟩; have HB5 := Lib.hid (HB.out.trans (hb5.mono HB.out.size)); clear hb5)
              go_returns
              rw [HR.out]
              exact ⟨rfl, HB5.out⟩
            · have hl0 : ((l : Int) == 0) = false := by simp; omega
              have HR := Lib.hid (show textN s = textG s f (k + l) (xs ++ [b]) by rw [HT.out, HS.out, if_neg (by omega)])
              have hle : k + l ≤ s.size := by omega
              go_wp2_with (first
                | (go_at_call 61; refine (IC _).mono ?_; rintro _ w5 ⟨rfl, hb5⟩; have HB5 := Lib.hid (HB.out.trans (hb5.mono HB.out.size)); have HO5 := Lib.hid (HO.out.below hb5); clear hb5)
                | (at_builtin; refine app_own kU8 _ rfl _ _ rfl w.heap.size A n c _ rfl (HO5.out.alloc _) _ 1 1 [b] rfl (RdK.lits kU8 _ [b] (by intro x hx; simp at hx; subst hx; exact hb256)) (by omega) (by have := HB5.out.size; simp; omega) ?_; intro A3 c3 w3 ho3 hg3; have HO3 := Lib.hid ho3; have HB3 := Lib.hid (below_app HB5.out HB5.out.size HO5.out hg3); clear ho3 hg3))
              exact ⟨⟨k + l, n + 1, c3, A3, _, by omega, hle, by omega, by go_num, rfl, HO3.out, ⟨f, by have := HF.out; omega, HR.out⟩, HB3.out⟩, by simp [intOf]; omega⟩
        · have HR := Lib.hid (show textN s = none by rw [HT.out, textG, if_pos (by omega)])
          go_wp2
          go_returns
          rw [HR.out]
          exact ⟨rfl, HB.out⟩
  · have hz : s.size = 0 := by omega
    have e0 : s = ⟨#[]⟩ := by
      have : s.data = #[] := Array.eq_empty_of_size_eq_zero hz
      cases s; simp_all
    have HZ := Lib.hid (show textN s = none by unfold textN; rw [if_neg (by rw [by_out (by omega)]; decide)])
    subst e0
    clear hz hp
    go_enter Tryd.func54, Tryd.ntmps54
    go_wp2
    go_returns
    rw [HZ.out]
    exact ⟨rfl, .refl _ _⟩
end Go.Proofs.YthhkpoobcnmdgaaDoor
/-
  lex: blanks and comments (blanksEnd), what may stand behind a token (parted).
-/
namespace Go.Proofs.YthhkpoobcnmdgaaDoor
open Go.RowKit
set_option linter.unusedVariables false

/-- Where, from k on, the first byte stands that is neither a blank nor of a comment; c: k is within a comment. -/
def skipE (s : ByteArray) (k : Nat) (c : Bool) : Nat :=
  if h : k < s.size then
    if c = true then (if by_ s k = 10 then skipE s (k + 1) false else skipE s (k + 1) true)
    else if blB (by_ s k) = true then skipE s (k + 1) false
    else if by_ s k = 59 then skipE s (k + 1) true else k
  else k
termination_by s.size - k
theorem skip_end {s : ByteArray} {k : Nat} (c : Bool) (h : ¬ k < s.size) : skipE s k c = k := by rw [skipE, dif_neg h]
theorem skip_blank {s : ByteArray} {k : Nat} (h : k < s.size) (hb : blB (by_ s k) = true) : skipE s k false = skipE s (k + 1) false := by
  rw [skipE, dif_pos h, if_neg (by decide), if_pos hb]
theorem skip_note {s : ByteArray} {k : Nat} (h : k < s.size) (hb : blB (by_ s k) = false) (h9 : by_ s k = 59) : skipE s k false = skipE s (k + 1) true := by
  rw [skipE, dif_pos h, if_neg (by decide), if_neg (by rw [hb]; decide), if_pos h9]
theorem skip_stop {s : ByteArray} {k : Nat} (h : k < s.size) (hb : blB (by_ s k) = false) (h9 : by_ s k ≠ 59) : skipE s k false = k := by
  rw [skipE, dif_pos h, if_neg (by decide), if_neg (by rw [hb]; decide), if_neg h9]
theorem skip_in {s : ByteArray} {k : Nat} (h : k < s.size) (h9 : by_ s k ≠ 10) : skipE s k true = skipE s (k + 1) true := by
  rw [skipE, dif_pos h, if_pos rfl, if_neg h9]
theorem skip_line {s : ByteArray} {k : Nat} (h : k < s.size) (h9 : by_ s k = 10) : skipE s k true = skipE s k false := by
  rw [skipE, dif_pos h, if_pos rfl, if_pos h9, skip_blank h (by rw [h9]; rfl)]
theorem skip_le (s : ByteArray) (k : Nat) (c : Bool) (h : k ≤ s.size) : k ≤ skipE s k c ∧ skipE s k c ≤ s.size := by
  generalize hn : s.size - k = n
  induction n generalizing k c with
  | zero => rw [skip_end c (by omega)]; omega
  | succ n ih =>
    have i1 := ih (k + 1) false (by omega) (by omega)
    have i2 := ih (k + 1) true (by omega) (by omega)
    rw [skipE, dif_pos (by omega)]
    split
    · split <;> omega
    · split
      · omega
      · split <;> omega

set_option maxHeartbeats 4000000 in
theorem blanksEnd_c (s : ByteArray) (k0 : Nat) (w : World) (hs : s.size ≤ 1048576) (hk0 : k0 ≤ s.size) : Calls Tryd.prog 31 #[.string s, .int .i64 k0] w fun e w' => e = .returned (.int .i64 (skipE s k0 false)) ∧ w = w' := by
  go_enter Tryd.func31, Tryd.ntmps31
  go_wp2
  go_loop [1] (fun i => ∃ k : Nat, k ≤ s.size ∧ i = .int .i64 k ∧ skipE s k0 false = skipE s k false) (fun i => s.size - (intOf i).toNat)
  case atStart => exact ⟨k0, hk0, rfl, rfl⟩
  case round =>
    obtain ⟨k, hk, rfl, hd⟩ := hrel
    have HD := Lib.hid hd
    clear hd
    by_cases hkn : k < s.size
    · have hx := by_at hkn
      cases b : blB ((s[k].toNat : Nat) : Int) with
      | true =>
        have HN := Lib.hid (show skipE s k0 false = skipE s (k + 1) false by rw [HD.out, skip_blank hkn (by rw [hx]; exact b)])
        clear hx
        go_wp2_with (go_at_call 56; refine (blank_c _ _).mono ?_; rintro _ _ ⟨rfl, rfl⟩)
        go_round
        case rel => exact ⟨k + 1, by omega, by go_num, HN.out⟩
        case measure => simp [intOf]; omega
      | false =>
        cases q : (((s[k].toNat : Nat) : Int) == 59) with
        | false =>
          have HR := Lib.hid (show skipE s k0 false = k by rw [HD.out, skip_stop hkn (by rw [hx]; exact b) (by rw [hx]; exact ne_of_beq_false q)])
          clear hx
          go_wp2_with (go_at_call 56; refine (blank_c _ _).mono ?_; rintro _ _ ⟨rfl, rfl⟩)
          go_returns
          rw [HR.out]
          exact ⟨rfl, rfl⟩
        | true =>
          have h59 : ((s[k].toNat : Nat) : Int) = 59 := eq_of_beq q
          have H59 := Lib.hid (show by_ s k = 59 by rw [hx]; exact h59)
          have HN := Lib.hid (show skipE s k0 false = skipE s (k + 1) true by rw [HD.out, skip_note hkn (by rw [hx]; exact b) (by rw [hx]; exact h59)])
          have HI := Lib.hid (show skipE s k true = skipE s (k + 1) true from skip_in hkn (by rw [hx, h59]; decide))
          clear hx h59
          go_wp2_with (go_at_call 56; refine (blank_c _ _).mono ?_; rintro _ _ ⟨rfl, rfl⟩)
          go_loop [1] (fun i => ∃ j : Nat, k ≤ j ∧ j ≤ s.size ∧ i = .int .i64 j ∧ skipE s k0 false = skipE s j true) (fun i => s.size - (intOf i).toNat)
          case atStart => exact ⟨k, Nat.le_refl _, hk, rfl, HN.out.trans HI.out.symm⟩
          case round =>
            obtain ⟨j, hkj, hj, rfl, hd⟩ := hrel
            have HE := Lib.hid hd
            clear hd
            by_cases hjn : j < s.size
            · have hx := by_at hjn
              cases c : (((s[j].toNat : Nat) : Int) == 10) with
              | true =>
                have hne : (((s[j].toNat : Nat) : Int) != 10) = false := by simp only [bne, c]; rfl
                have h10 : by_ s j = 10 := by rw [hx]; exact eq_of_beq c
                have HL := Lib.hid (show skipE s k0 false = skipE s j false by rw [HE.out, skip_line hjn h10])
                have hjk : k < j := by
                  rcases Nat.lt_or_eq_of_le hkj with h | h
                  · exact h
                  · rw [← h, H59.out] at h10; cases h10
                clear hx h10
                go_wp2
                go_round
                case rel => exact ⟨j, by omega, by go_num, HL.out⟩
                case measure => simp [intOf]; omega
              | false =>
                have hne : (((s[j].toNat : Nat) : Int) != 10) = true := by simp only [bne, c]; rfl
                have HL := Lib.hid (show skipE s k0 false = skipE s (j + 1) true by rw [HE.out, skip_in hjn (by rw [hx]; exact ne_of_beq_false c)])
                clear hx
                go_wp2
                go_round
                case rel => exact ⟨j + 1, by omega, by omega, by go_num, HL.out⟩
                case measure => simp [intOf]; omega
            · have hje : j = s.size := by omega
              have HL := Lib.hid (show skipE s k0 false = skipE s j false by rw [HE.out, skip_end true hjn, skip_end false hjn])
              go_wp2
              go_round
              case rel => exact ⟨j, by omega, by go_num, HL.out⟩
              case measure => simp [intOf]; omega
    · have HR := Lib.hid (show skipE s k0 false = k by rw [HD.out, skip_end false hkn])
      go_wp2
      go_returns
      rw [HR.out]
      exact ⟨rfl, rfl⟩

/-- Whether a row of bytes may stand behind a token of a kind. -/
def partB (kind : Int) (s : ByteArray) : Bool := kind == 0 || kind == 1 || decide (s.size = 0) || by_ s 0 == 40 || by_ s 0 == 41 || by_ s 0 == 59 || blB (by_ s 0)
set_option maxHeartbeats 4000000 in
theorem parted_c (kind : Int) (s : ByteArray) (w : World) (hs : s.size ≤ 1048576) : Calls Tryd.prog 33 #[.int .i64 kind, .string s] w fun e w' => e = .returned (.bool (partB kind s)) ∧ w = w' := by
  by_cases hp : 0 < s.size
  · have b0 := by_at hp
    have l0 := byte_lt s 0 hp
    have he : s.toList.isEmpty = false := by rw [toList_empty]; exact decide_eq_false (by omega)
    have hn : ¬ s.toList = [] := fun h => by rw [h] at he; cases he
    have hz := Lib.hid (show partB kind s = (kind == 0 || kind == 1 || ((s[0].toNat : Nat) : Int) == 40 || ((s[0].toNat : Nat) : Int) == 41 || ((s[0].toNat : Nat) : Int) == 59 || blB ((s[0].toNat : Nat) : Int)) by
      unfold partB
      rw [b0, decide_eq_false (by omega), Bool.or_false])
    clear b0
    cases k0 : (kind == 0) with
    | true =>
      go_enter Tryd.func33, Tryd.ntmps33
      go_wp2
      go_returns
      rw [hz.out, k0]
      exact ⟨rfl, rfl⟩
    | false =>
      cases k1 : (kind == 1) with
      | true =>
        go_enter Tryd.func33, Tryd.ntmps33
        go_wp2
        go_returns
        rw [hz.out, k0, k1]
        exact ⟨rfl, rfl⟩
      | false =>
        cases c1 : (((s[0].toNat : Nat) : Int) == 40) with
        | true =>
          go_enter Tryd.func33, Tryd.ntmps33
          go_wp2
          go_returns
          rw [hz.out, k0, k1, c1]
          exact ⟨rfl, rfl⟩
        | false =>
          cases c2 : (((s[0].toNat : Nat) : Int) == 41) with
          | true =>
            go_enter Tryd.func33, Tryd.ntmps33
            go_wp2
            go_returns
            rw [hz.out, k0, k1, c1, c2]
            exact ⟨rfl, rfl⟩
          | false =>
            cases c3 : (((s[0].toNat : Nat) : Int) == 59) with
            | true =>
              go_enter Tryd.func33, Tryd.ntmps33
              go_wp2
              go_returns
              rw [hz.out, k0, k1, c1, c2, c3]
              exact ⟨rfl, rfl⟩
            | false =>
              go_enter Tryd.func33, Tryd.ntmps33
              go_wp2_with (go_at_call 56; refine (blank_c _ _).mono ?_; rintro _ _ ⟨rfl, rfl⟩)
              go_returns
              rw [hz.out, k0, k1, c1, c2, c3]
              exact ⟨rfl, rfl⟩
  · have hz : s.size = 0 := by omega
    have e0 : s = ⟨#[]⟩ := by
      have : s.data = #[] := Array.eq_empty_of_size_eq_zero hz
      cases s; simp_all
    subst e0
    have HZ := Lib.hid (show partB kind ⟨#[]⟩ = true by unfold partB; rw [decide_eq_true hz]; simp)
    clear hz hp
    cases k0 : (kind == 0) with
    | true =>
      go_enter Tryd.func33, Tryd.ntmps33
      go_wp2
      go_returns
      rw [HZ.out]
      exact ⟨rfl, rfl⟩
    | false =>
      cases k1 : (kind == 1) with
      | true =>
        go_enter Tryd.func33, Tryd.ntmps33
        go_wp2
        go_returns
        rw [HZ.out]
        exact ⟨rfl, rfl⟩
      | false =>
        go_enter Tryd.func33, Tryd.ntmps33
        go_wp2
        go_returns
        rw [HZ.out]
        exact ⟨rfl, rfl⟩
end Go.Proofs.YthhkpoobcnmdgaaDoor
/-
  lex: the readers' closures.
-/
namespace Go.Proofs.YthhkpoobcnmdgaaDoor
open Go.RowKit
set_option linter.unusedVariables false

/-- How long the bracket b is at k. -/
def markN (s : ByteArray) (k : Nat) (b : Int) : Int := if by_ s k = b then 1 else 0
set_option maxHeartbeats 4000000 in
/-- A bracket's reader. -/
theorem mark1_c (s : ByteArray) (k : Nat) (b : Int) (w : World) (g h : Nat) (hs : s.size ≤ 1048576) (hk : k < s.size) (cs : w.cell? ⟨g, 0, none⟩ = some (.string s)) (cb : w.cell? ⟨h, 0, none⟩ = some (.int .u8 b)) :
    Calls Tryd.prog 52 #[.int .i64 k, .pointer (some ⟨g, 0, none⟩), .pointer (some ⟨h, 0, none⟩)] w fun e w' => e = .returned (.tuple #[.string ⟨#[]⟩, .int .i64 (markN s k b)]) ∧ Below w.heap.size w w' := by
  have hx := by_at hk
  cases q : (((s[k].toNat : Nat) : Int) == b) with
  | true =>
    have HR := Lib.hid (show markN s k b = 1 by rw [markN, hx, if_pos (eq_of_beq q)])
    clear hx
    go_enter Tryd.func52, Tryd.ntmps52
    go_wp2
    go_big_region
    go_wp2
    go_returns
    rw [HR.out]
    exact ⟨rfl, (Below.refl _ _).drew⟩
  | false =>
    have HR := Lib.hid (show markN s k b = 0 by rw [markN, hx, if_neg (ne_of_beq_false q)])
    clear hx
    go_enter Tryd.func52, Tryd.ntmps52
    go_wp2
    go_big_region
    go_wp2
    go_returns
    rw [HR.out]
    exact ⟨rfl, (Below.refl _ _).drew⟩
set_option maxHeartbeats 4000000 in
/-- A text's reader. -/
theorem textR_c (s : ByteArray) (k : Nat) (w : World) (g : Nat) (hs : s.size ≤ 1048576) (hk : k ≤ s.size) (cs : w.cell? ⟨g, 0, none⟩ = some (.string s)) :
    Calls Tryd.prog 53 #[.int .i64 k, .pointer (some ⟨g, 0, none⟩)] w fun e w' => textE (textN (s.extract k s.size)) e ∧ Below w.heap.size w w' := by
  have hxs : (s.extract k s.size).size = s.size - k := by rw [ByteArray.size_extract]; omega
  have TC := Lib.hid (textOf_c (s.extract k s.size) w (by omega))
  cases ht : textN (s.extract k s.size) with
  | none =>
    rw [ht] at TC
    clear hxs ht
    go_enter Tryd.func53, Tryd.ntmps53
    go_wp2_with (go_at_call 54; refine TC.out.mono ?_; rintro _ w5 ⟨rfl, hb5⟩; have HB5 := Lib.hid hb5; clear hb5)
    go_returns
    exact ⟨rfl, HB5.out⟩
  | some p =>
    obtain ⟨l, n⟩ := p
    rw [ht] at TC
    clear hxs ht
    go_enter Tryd.func53, Tryd.ntmps53
    go_wp2_with (go_at_call 54; refine TC.out.mono ?_; rintro _ w5 ⟨⟨t, rfl, htl⟩, hb5⟩; have HB5 := Lib.hid hb5; have HT5 := Lib.hid htl; clear hb5 htl)
    go_returns
    exact ⟨⟨t, rfl, HT5.out⟩, HB5.out⟩
set_option maxHeartbeats 4000000 in
/-- The reader of what a function tells the length of. -/
theorem just_number_c (s : ByteArray) (k n : Nat) (w : World) (g h : Nat) (hs : s.size ≤ 1048576) (hk : k + n ≤ s.size) (cf : w.cell? ⟨g, 0, none⟩ = some (.func (Fn.func 28) #[] #[])) (cs : w.cell? ⟨h, 0, none⟩ = some (.string s))
    (hF : ∀ w, Calls Tryd.prog 28 #[.string (s.extract k s.size)] w fun e w' => e = .returned (.int .i64 n) ∧ w = w') :
    Calls Tryd.prog 50 #[.int .i64 k, .pointer (some ⟨g, 0, none⟩), .pointer (some ⟨h, 0, none⟩)] w fun e w' => e = .returned (.tuple #[.string (s.extract k (k + n)), .int .i64 n]) ∧ Below w.heap.size w w' := by
  have HF := Lib.hid hF
  clear hF
  go_enter Tryd.func50, Tryd.ntmps50
  go_wp2
  go_region_with (go_at_call 28; refine (HF.out _).mono ?_; rintro _ _ ⟨rfl, rfl⟩)
  all_goals go_wp2
  all_goals go_returns
  all_goals exact ⟨rfl, (Below.refl _ _).drew⟩
set_option maxHeartbeats 4000000 in
/-- The reader of what a function tells the length of. -/
theorem just_name_c (s : ByteArray) (k n : Nat) (w : World) (g h : Nat) (hs : s.size ≤ 1048576) (hk : k + n ≤ s.size) (cf : w.cell? ⟨g, 0, none⟩ = some (.func (Fn.func 27) #[] #[])) (cs : w.cell? ⟨h, 0, none⟩ = some (.string s))
    (hF : ∀ w, Calls Tryd.prog 27 #[.string (s.extract k s.size)] w fun e w' => e = .returned (.int .i64 n) ∧ w = w') :
    Calls Tryd.prog 50 #[.int .i64 k, .pointer (some ⟨g, 0, none⟩), .pointer (some ⟨h, 0, none⟩)] w fun e w' => e = .returned (.tuple #[.string (s.extract k (k + n)), .int .i64 n]) ∧ Below w.heap.size w w' := by
  have HF := Lib.hid hF
  clear hF
  go_enter Tryd.func50, Tryd.ntmps50
  go_wp2
  go_region_with (go_at_call 27; refine (HF.out _).mono ?_; rintro _ _ ⟨rfl, rfl⟩)
  all_goals go_wp2
  all_goals go_returns
  all_goals exact ⟨rfl, (Below.refl _ _).drew⟩
set_option maxHeartbeats 4000000 in
/-- The reader of what a function tells the length of. -/
theorem just_sign_c (s : ByteArray) (k n : Nat) (w : World) (g h : Nat) (hs : s.size ≤ 1048576) (hk : k + n ≤ s.size) (cf : w.cell? ⟨g, 0, none⟩ = some (.func (Fn.func 55) #[] #[])) (cs : w.cell? ⟨h, 0, none⟩ = some (.string s))
    (hF : ∀ w, Calls Tryd.prog 55 #[.string (s.extract k s.size)] w fun e w' => e = .returned (.int .i64 n) ∧ w = w') :
    Calls Tryd.prog 50 #[.int .i64 k, .pointer (some ⟨g, 0, none⟩), .pointer (some ⟨h, 0, none⟩)] w fun e w' => e = .returned (.tuple #[.string (s.extract k (k + n)), .int .i64 n]) ∧ Below w.heap.size w w' := by
  have HF := Lib.hid hF
  clear hF
  go_enter Tryd.func50, Tryd.ntmps50
  go_wp2
  go_region_with (go_at_call 55; refine (HF.out _).mono ?_; rintro _ _ ⟨rfl, rfl⟩)
  all_goals go_wp2
  all_goals go_returns
  all_goals exact ⟨rfl, (Below.refl _ _).drew⟩
end Go.Proofs.YthhkpoobcnmdgaaDoor
/-
  lex: the row of the readers.
-/
namespace Go.Proofs.YthhkpoobcnmdgaaDoor
open Go.RowKit
set_option linter.unusedVariables false

/-- A boxed variable. -/
def Bx (w : World) (g : Nat) (v : Value) : Prop := g < w.heap.size ∧ w.cell? ⟨g, 0, none⟩ = some v
theorem Bx.below {w w' : World} {g : Nat} {v : Value} (h : Bx w g v) (hb : Below w.heap.size w w') : Bx w' g v := ⟨Nat.lt_of_lt_of_le h.1 hb.size, (hb.cell (p := ⟨g, 0, none⟩) h.1).trans h.2⟩
theorem Bx.new (w : World) (v : Value) (t : TypeId) : Bx (w.alloc (.cells #[v] t)) w.heap.size v := by
  refine ⟨by simp, ?_⟩
  rw [cell_of_row _ _ _ #[v] t (0, 0) (heap_alloc_new w _)]
  rfl

theorem mark_c (b : Int) (P : Value) (w : World) : Calls Tryd.prog 51 #[.int .u8 b, P] w fun e w' => ∃ g, e = .returned (.func (Fn.func 52) #[] #[P, .pointer (some ⟨g, 0, none⟩)]) ∧ Below w.heap.size w w' ∧ Bx w' g (.int .u8 b) := by
  go_enter Tryd.func51, Tryd.ntmps51
  go_wp2
  go_returns
  exact ⟨_, rfl, (Below.refl _ _).alloc (Nat.le_refl _) _, Bx.new _ _ _⟩
theorem just_c (F : Nat) (P : Value) (w : World) : Calls Tryd.prog 49 #[.func (Fn.func F) #[] #[], P] w fun e w' => ∃ g, e = .returned (.func (Fn.func 50) #[] #[.pointer (some ⟨g, 0, none⟩), P]) ∧ Below w.heap.size w w' ∧ Bx w' g (.func (Fn.func F) #[] #[]) := by
  go_enter Tryd.func49, Tryd.ntmps49
  go_wp2
  go_returns
  exact ⟨_, rfl, (Below.refl _ _).alloc (Nat.le_refl _) _, Bx.new _ _ _⟩

/-- The cells of a row of readers. -/
def rowV (gs g0 g1 g2 g4 g5 : Nat) : Array Value :=
  #[.func (Fn.func 52) #[] #[.pointer (some ⟨gs, 0, none⟩), .pointer (some ⟨g0, 0, none⟩)],
    .func (Fn.func 52) #[] #[.pointer (some ⟨gs, 0, none⟩), .pointer (some ⟨g1, 0, none⟩)],
    .func (Fn.func 50) #[] #[.pointer (some ⟨g2, 0, none⟩), .pointer (some ⟨gs, 0, none⟩)],
    .func (Fn.func 53) #[] #[.pointer (some ⟨gs, 0, none⟩)],
    .func (Fn.func 50) #[] #[.pointer (some ⟨g4, 0, none⟩), .pointer (some ⟨gs, 0, none⟩)],
    .func (Fn.func 50) #[] #[.pointer (some ⟨g5, 0, none⟩), .pointer (some ⟨gs, 0, none⟩)]]
/-- v is a row of s's readers. -/
def IsRow (s : ByteArray) (w : World) (v : Value) : Prop := ∃ r gs g0 g1 g2 g4 g5 : Nat, v = .slice (some ⟨r, 0, none⟩) 6 6 ∧ r < w.heap.size ∧ (∀ i x, (rowV gs g0 g1 g2 g4 g5)[i]? = some x → w.cell? ⟨r, i, none⟩ = some x) ∧
  Bx w gs (.string s) ∧ Bx w g0 (.int .u8 40) ∧ Bx w g1 (.int .u8 41) ∧ Bx w g2 (.func (Fn.func 28) #[] #[]) ∧ Bx w g4 (.func (Fn.func 27) #[] #[]) ∧ Bx w g5 (.func (Fn.func 55) #[] #[])
theorem IsRow.below {s : ByteArray} {w w' : World} {v : Value} (h : IsRow s w v) (hb : Below w.heap.size w w') : IsRow s w' v := by
  obtain ⟨r, gs, g0, g1, g2, g4, g5, hv, hr, hc, bs, b0, b1, b2, b4, b5⟩ := h
  exact ⟨r, gs, g0, g1, g2, g4, g5, hv, Nat.lt_of_lt_of_le hr hb.size, fun i x hx => (hb.cell (p := ⟨r, i, none⟩) hr).trans (hc i x hx), bs.below hb, b0.below hb, b1.below hb, b2.below hb, b4.below hb, b5.below hb⟩
theorem bx_alloc (w : World) (o : Obj) : Below w.heap.size w (w.alloc o) := (Below.refl _ _).alloc (Nat.le_refl _) _

set_option maxHeartbeats 4000000 in
theorem readers_c (s : ByteArray) (w : World) : Calls Tryd.prog 30 #[.string s] w fun e w' => ∃ v, e = .returned v ∧ Below w.heap.size w w' ∧ IsRow s w' v := by
  have BS := Lib.hid (Bx.new w (.string s) 9)
  have BB := Lib.hid (bx_alloc w (.cells #[.string s] 9))
  go_enter Tryd.func30, Tryd.ntmps30
  go_wp2_with fail
  refine (mark_c _ _ _).mono ?_
  rintro e w1 ⟨g0, rfl, hb, h0⟩
  have BS1 := Lib.hid (BS.out.below hb)
  have BB1 := Lib.hid (BB.out.trans (hb.mono BB.out.size))
  have H0 := Lib.hid h0
  clear BS BB hb h0
  go_wp2_with fail
  refine (mark_c _ _ _).mono ?_
  rintro e w2 ⟨g1, rfl, hb, h1⟩
  have BS2 := Lib.hid (BS1.out.below hb)
  have BB2 := Lib.hid (BB1.out.trans (hb.mono BB1.out.size))
  have H0' := Lib.hid (H0.out.below hb)
  have H1 := Lib.hid h1
  clear BS1 BB1 H0 hb h1
  go_wp2_with fail
  refine (just_c _ _ _).mono ?_
  rintro e w3 ⟨g2, rfl, hb, h2⟩
  have BS3 := Lib.hid (BS2.out.below hb)
  have BB3 := Lib.hid (BB2.out.trans (hb.mono BB2.out.size))
  have I0 := Lib.hid (H0'.out.below hb)
  have I1 := Lib.hid (H1.out.below hb)
  have I2 := Lib.hid h2
  clear BS2 BB2 H0' H1 hb h2
  go_wp2_with fail
  refine (just_c _ _ _).mono ?_
  rintro e w4 ⟨g4, rfl, hb, h4⟩
  have BS4 := Lib.hid (BS3.out.below hb)
  have BB4 := Lib.hid (BB3.out.trans (hb.mono BB3.out.size))
  have J0 := Lib.hid (I0.out.below hb)
  have J1 := Lib.hid (I1.out.below hb)
  have J2 := Lib.hid (I2.out.below hb)
  have J4 := Lib.hid h4
  clear BS3 BB3 I0 I1 I2 hb h4
  go_wp2_with fail
  refine (just_c _ _ _).mono ?_
  rintro e w5 ⟨g5, rfl, hb, h5⟩
  have BS5 := Lib.hid (BS4.out.below hb)
  have BB5 := Lib.hid (BB4.out.trans (hb.mono BB4.out.size))
  have K0 := Lib.hid (J0.out.below hb)
  have K1 := Lib.hid (J1.out.below hb)
  have K2 := Lib.hid (J2.out.below hb)
  have K4 := Lib.hid (J4.out.below hb)
  have K5 := Lib.hid h5
  clear BS4 BB4 J0 J1 J2 J4 hb h5
  go_wp2_with fail
  go_returns
  have hb := bx_alloc w5 (.cells (rowV w.heap.size g0 g1 g2 g4 g5) 86)
  refine ⟨_, rfl, BB5.out.trans (hb.mono BB5.out.size), w5.heap.size, w.heap.size, g0, g1, g2, g4, g5, rfl, by simp, ?_, BS5.out.below hb, K0.out.below hb, K1.out.below hb, K2.out.below hb, K4.out.below hb, K5.out.below hb⟩
  exact fun i x hx => (cell_of_row _ _ _ (rowV w.heap.size g0 g1 g2 g4 g5) 86 (0, 0) (heap_alloc_new w5 _)).trans hx
end Go.Proofs.YthhkpoobcnmdgaaDoor
/-
  lex: the first reader that tells a token (first).
-/
namespace Go.Proofs.YthhkpoobcnmdgaaDoor
open Go.RowKit
set_option linter.unusedVariables false

theorem NumR.uniq {s : ByteArray} {r r' : Nat} (h : NumR s r) (h' : NumR s r') : r = r' := by
  obtain ⟨k, h1, h2⟩ := h
  obtain ⟨k', h3, h4⟩ := h'
  have := h1.uniq h3
  subst this
  rw [h2, h4]
theorem NameR.uniq {s : ByteArray} {r r' : Nat} (h : NameR s r) (h' : NameR s r') : r = r' := by
  rcases h with ⟨h1, rfl⟩ | ⟨h1, h2, rfl⟩ | ⟨h1, h2, k, h3, rfl⟩ <;> rcases h' with ⟨g1, rfl⟩ | ⟨g1, g2, rfl⟩ | ⟨g1, g2, k', g3, rfl⟩ <;> first
    | rfl
    | (exfalso; omega)
    | (have := h3.uniq g3; subst this; rfl)
    | (rw [h2] at g2; cases g2; done)
open Classical in
/-- How many bytes at a text's start are a number. -/
noncomputable def numL (s : ByteArray) : Nat := if h : ∃ r, NumR s r then h.choose else 0
open Classical in
/-- How many bytes at a text's start are a name. -/
noncomputable def nameL (s : ByteArray) : Nat := if h : ∃ r, NameR s r then h.choose else 0
theorem numL_eq {s : ByteArray} {r : Nat} (h : NumR s r) : numL s = r := by
  have he : ∃ r, NumR s r := ⟨r, h⟩
  unfold numL
  rw [dif_pos he]
  exact he.choose_spec.uniq h
theorem nameL_eq {s : ByteArray} {r : Nat} (h : NameR s r) : nameL s = r := by
  have he : ∃ r, NameR s r := ⟨r, h⟩
  unfold nameL
  rw [dif_pos he]
  exact he.choose_spec.uniq h
theorem IsEnd.le {p : Int → Bool} {s : ByteArray} {a k : Nat} (h : IsEnd p s a k) : a ≤ k ∧ k ≤ s.size := ⟨h.1, h.2.1⟩
theorem NumR.le {s : ByteArray} {r : Nat} (hp : 0 < s.size) (h : NumR s r) : r ≤ s.size := by
  obtain ⟨k, h1, h2⟩ := h
  have := h1.le
  subst h2
  split
  · omega
  · split
    · split <;> omega
    · omega
theorem NameR.le {s : ByteArray} {r : Nat} (h : NameR s r) : r ≤ s.size := by
  rcases h with ⟨h1, rfl⟩ | ⟨h1, h2, rfl⟩ | ⟨h1, h2, k, h3, rfl⟩
  · omega
  · omega
  · have := h3.le
    split <;> omega
theorem signN_le (s : ByteArray) : signN s ≤ s.size := by
  unfold signN
  split
  · omega
  · split
    · rename_i h
      by_cases e : s.size = 0
      · rw [by_out (by omega)] at h
        omega
      · omega
    · omega
theorem number_ex (s : ByteArray) (hp : 0 < s.size) : ∃ r, NumR s r := by
  obtain ⟨k, hk⟩ := IsEnd.start (p := digB) (s := s) (a := dash s 0) (by have := dash_le (s := s) 0 (by omega); omega)
  exact ⟨_, k, hk, rfl⟩
theorem name_ex (s : ByteArray) : ∃ r, NameR s r := by
  by_cases h0 : s.size = 0
  · exact ⟨0, .inl ⟨h0, rfl⟩⟩
  · cases hl : letB (by_ s 0) with
    | false => exact ⟨0, .inr (.inl ⟨by omega, hl, rfl⟩)⟩
    | true =>
      obtain ⟨k, hk⟩ := IsEnd.start (p := wordB) (s := s) (a := 1) (by omega)
      exact ⟨_, .inr (.inr ⟨by omega, hl, k, hk, rfl⟩)⟩
theorem numF_c (s : ByteArray) (w : World) (hs : s.size ≤ 1048576) (hp : 0 < s.size) : Calls Tryd.prog 28 #[.string s] w fun e w' => e = .returned (.int .i64 (numL s)) ∧ w = w' :=
  (numberLong_c s w hs hp).mono fun _ _ ⟨r, h1, h2, h3⟩ => ⟨by rw [h1, numL_eq h2], h3⟩
theorem nameF_c (s : ByteArray) (w : World) (hs : s.size ≤ 1048576) : Calls Tryd.prog 27 #[.string s] w fun e w' => e = .returned (.int .i64 (nameL s)) ∧ w = w' :=
  (nameLong_c s w hs).mono fun _ _ ⟨r, h1, h2, h3⟩ => ⟨by rw [h1, nameL_eq h2], h3⟩
theorem numL_le (s : ByteArray) (hp : 0 < s.size) : numL s ≤ s.size := by
  obtain ⟨r, h⟩ := number_ex s hp
  rw [numL_eq h]
  exact h.le hp
theorem nameL_le (s : ByteArray) : nameL s ≤ s.size := by
  obtain ⟨r, h⟩ := name_ex s
  rw [nameL_eq h]
  exact h.le

/-- What a length tells. -/
def cutB (s : ByteArray) (k n : Nat) : Option (List Nat × Nat) := if 0 < n then some (M.bytes (s.extract k (k + n)), n) else none
/-- What the reader i tells at k. -/
noncomputable def rdB (s : ByteArray) (k : Nat) : Nat → Option (List Nat × Nat)
  | 0 => if by_ s k = 40 then some ([], 1) else none
  | 1 => if by_ s k = 41 then some ([], 1) else none
  | 2 => cutB s k (numL (s.extract k s.size))
  | 3 => textN (s.extract k s.size)
  | 4 => cutB s k (nameL (s.extract k s.size))
  | 5 => cutB s k (signN (s.extract k s.size))
  | _ => none
/-- What the last m readers tell. -/
noncomputable def firstF (s : ByteArray) (k : Nat) : Nat → Option (Nat × List Nat × Nat)
  | 0 => none
  | m + 1 => match rdB s k (5 - m) with
    | some (l, n) => some (5 - m, l, n)
    | none => firstF s k m
/-- The answer of a reader. -/
def RdE (o : Option (List Nat × Nat)) (e : Ending) : Prop := match o with
  | some (l, n) => 0 < n ∧ n ≤ 1048576 ∧ ∃ t, e = .returned (.tuple #[.string t, .int .i64 n]) ∧ M.bytes t = l
  | none => ∃ t, e = .returned (.tuple #[.string t, .int .i64 0])
theorem textG_pos (s : ByteArray) (f k : Nat) (out l : List Nat) (n : Nat) (h : textG s f k out = some (l, n)) (hk : k ≤ s.size) : 0 < n ∧ n ≤ s.size := by
  induction f generalizing k out with
  | zero => cases h
  | succ f ih =>
    rw [textG] at h
    split at h
    · cases h
    · split at h
      · injection h with h
        injection h with h1 h2
        omega
      · split at h
        · cases h
        · rename_i h1 h2 h3
          refine ih _ _ h ?_
          have hx : (s.extract k s.size).size = s.size - k := by rw [ByteArray.size_extract]; omega
          have := itemN_val (s.extract k s.size) (by omega)
          omega
theorem textN_pos {s : ByteArray} {l : List Nat} {n : Nat} (h : textN s = some (l, n)) : 0 < n ∧ n ≤ s.size := by
  unfold textN at h
  split at h
  · rename_i h1
    have hp : 0 < s.size := by
      by_cases e : 0 < s.size
      · exact e
      · rw [by_out (by omega)] at h1; cases h1
    exact textG_pos s _ _ _ _ _ h hp
  · cases h
theorem RdE.cut (s : ByteArray) (k n : Nat) (hn : n ≤ 1048576) : RdE (cutB s k n) (.returned (.tuple #[.string (s.extract k (k + n)), .int .i64 n])) := by
  unfold cutB
  split
  · rename_i h
    exact ⟨h, hn, _, rfl, rfl⟩
  · have : n = 0 := by omega
    subst this
    exact ⟨_, rfl⟩

/-- Each reader of a row. -/
theorem read_c (s : ByteArray) (k : Nat) (hs : s.size ≤ 1048576) (hk : k < s.size) (w : World) (gs g0 g1 g2 g4 g5 : Nat)
    (bs : Bx w gs (.string s)) (b0 : Bx w g0 (.int .u8 40)) (b1 : Bx w g1 (.int .u8 41)) (b2 : Bx w g2 (.func (Fn.func 28) #[] #[])) (b4 : Bx w g4 (.func (Fn.func 27) #[] #[])) (b5 : Bx w g5 (.func (Fn.func 55) #[] #[])) :
    (Calls Tryd.prog 52 #[.int .i64 k, .pointer (some ⟨gs, 0, none⟩), .pointer (some ⟨g0, 0, none⟩)] w fun e w' => RdE (rdB s k 0) e ∧ Below w.heap.size w w') ∧
    (Calls Tryd.prog 52 #[.int .i64 k, .pointer (some ⟨gs, 0, none⟩), .pointer (some ⟨g1, 0, none⟩)] w fun e w' => RdE (rdB s k 1) e ∧ Below w.heap.size w w') ∧
    (Calls Tryd.prog 50 #[.int .i64 k, .pointer (some ⟨g2, 0, none⟩), .pointer (some ⟨gs, 0, none⟩)] w fun e w' => RdE (rdB s k 2) e ∧ Below w.heap.size w w') ∧
    (Calls Tryd.prog 53 #[.int .i64 k, .pointer (some ⟨gs, 0, none⟩)] w fun e w' => RdE (rdB s k 3) e ∧ Below w.heap.size w w') ∧
    (Calls Tryd.prog 50 #[.int .i64 k, .pointer (some ⟨g4, 0, none⟩), .pointer (some ⟨gs, 0, none⟩)] w fun e w' => RdE (rdB s k 4) e ∧ Below w.heap.size w w') ∧
    (Calls Tryd.prog 50 #[.int .i64 k, .pointer (some ⟨g5, 0, none⟩), .pointer (some ⟨gs, 0, none⟩)] w fun e w' => RdE (rdB s k 5) e ∧ Below w.heap.size w w') := by
  have hx : (s.extract k s.size).size = s.size - k := by rw [ByteArray.size_extract]; omega
  have n1 := numL_le (s.extract k s.size) (by omega)
  have n2 := nameL_le (s.extract k s.size)
  have n3 := signN_le (s.extract k s.size)
  have hm : ∀ b, RdE (if by_ s k = b then some ([], 1) else none) (.returned (.tuple #[.string ⟨#[]⟩, .int .i64 (markN s k b)])) := by
    intro b
    unfold markN
    split
    · exact ⟨by decide, by decide, _, rfl, rfl⟩
    · exact ⟨_, rfl⟩
  refine ⟨?_, ?_, ?_, ?_, ?_, ?_⟩
  · exact (mark1_c s k 40 w gs g0 hs hk bs.2 b0.2).mono fun _ _ ⟨h1, h2⟩ => ⟨by rw [h1]; exact hm 40, h2⟩
  · exact (mark1_c s k 41 w gs g1 hs hk bs.2 b1.2).mono fun _ _ ⟨h1, h2⟩ => ⟨by rw [h1]; exact hm 41, h2⟩
  · exact (just_number_c s k _ w g2 gs hs (by omega) b2.2 bs.2 fun w => numF_c _ w (by omega) (by omega)).mono fun _ _ ⟨h1, h2⟩ => ⟨by rw [h1]; exact RdE.cut s k _ (by omega), h2⟩
  · refine (textR_c s k w gs hs (by omega) bs.2).mono fun e _ ⟨h1, h2⟩ => ⟨?_, h2⟩
    show RdE (textN (s.extract k s.size)) e
    cases ht : textN (s.extract k s.size) with
    | none => rw [ht] at h1; exact ⟨_, h1⟩
    | some p =>
      obtain ⟨l, n⟩ := p
      rw [ht] at h1
      have := textN_pos ht
      exact ⟨this.1, by omega, h1⟩
  · exact (just_name_c s k _ w g4 gs hs (by omega) b4.2 bs.2 fun w => nameF_c _ w (by omega)).mono fun _ _ ⟨h1, h2⟩ => ⟨by rw [h1]; exact RdE.cut s k _ (by omega), h2⟩
  · exact (just_sign_c s k _ w g5 gs hs (by omega) b5.2 bs.2 fun w => signLong_c _ w (by omega)).mono fun _ _ ⟨h1, h2⟩ => ⟨by rw [h1]; exact RdE.cut s k _ (by omega), h2⟩
end Go.Proofs.YthhkpoobcnmdgaaDoor
/-
  lex: the first reader that tells a token (first), walked.
-/
namespace Go.Proofs.YthhkpoobcnmdgaaDoor
open Go.RowKit
set_option linter.unusedVariables false

/-- A block is known whole. -/
structure Ak (w : World) (g : Nat) (cs : Array Value) (t : TypeId) : Prop where
  row : w.heap[g]? = some (.cells cs t (0, 0))
theorem Ak.below {w w' : World} {g : Nat} {cs : Array Value} {t : TypeId} (h : Ak w g cs t) (hb : Below w.heap.size w w') : Ak w' g cs t := ⟨(hb.block g (Array.getElem?_eq_some_iff.1 h.row).1).trans h.row⟩
theorem Ak.at {w : World} {g : Nat} {cs : Array Value} {t : TypeId} (h : Ak w g cs t) (i : Nat) {v : Value} (hv : cs[i]? = some v) : w.cell? ⟨g, i, none⟩ = some v := by rw [cell_of_row _ _ _ _ _ _ h.row, hv]
theorem Ak.f {w : World} {g : Nat} {cs : Array Value} {t : TypeId} (h : Ak w g cs t) (i : Nat) : w.frozen? ⟨g, i, none⟩ = false := by simp [World.frozen?, h.row]
theorem Ak.new (w : World) (cs : Array Value) (t : TypeId) : Ak (w.alloc (.cells cs t)) w.heap.size cs t := ⟨heap_alloc_new w _⟩

theorem Ak.set3 {w : World} {g : Nat} {x0 x1 x2 : Value} {t : TypeId} (h : Ak w g #[x0, x1, x2] t) (y0 y1 y2 : Value) : Ak (((w.setCell ⟨g, 0, none⟩ y0).setCell ⟨g, 1, none⟩ y1).setCell ⟨g, 2, none⟩ y2) g #[y0, y1, y2] t :=
  ⟨heap_setCell_same _ g 2 #[y0, y1, x2] t y2 (heap_setCell_same _ g 1 #[y0, x1, x2] t y1 (heap_setCell_same w g 0 #[x0, x1, x2] t y0 h.row))⟩
theorem firstF_none {s : ByteArray} {k j : Nat} (h : rdB s k (5 - j) = none) : firstF s k (j + 1) = firstF s k j := by rw [firstF, h]
theorem firstF_some {s : ByteArray} {k j : Nat} {l : List Nat} {n : Nat} (h : rdB s k (5 - j) = some (l, n)) : firstF s k (j + 1) = some (5 - j, l, n) := by rw [firstF, h]
/-- What first answers. -/
def FirstE (k : Nat) (o : Option (Nat × List Nat × Nat)) (e : Ending) : Prop := match o with
  | some (d, l, n) => 0 < n ∧ n ≤ 1048576 ∧ ∃ t, e = .returned (.tuple #[.agg #[.int .i64 d, .string t, .int .i64 k], .int .i64 ((k + n : Nat) : Int)]) ∧ M.bytes t = l
  | none => e = .returned (.tuple #[.agg #[.int .i64 0, .string ⟨#[]⟩, .int .i64 0], .int .i64 k])

set_option maxHeartbeats 4000000 in
theorem first_c (s : ByteArray) (k : Nat) (hs : s.size ≤ 1048576) (hk : k < s.size) (w : World) (v : Value) (hv : IsRow s w v) :
    Calls Tryd.prog 32 #[v, .int .i64 k] w fun e w' => FirstE k (firstF s k 6) e ∧ Below w.heap.size w w' := by
  obtain ⟨r, gs, g0, g1, g2, g4, g5, rfl, hr, hc, bs, b0, b1, b2, b4, b5⟩ := hv
  have hb0 := bx_alloc w (.cells #[.int .i64 0, .string ⟨#[]⟩, .int .i64 0] 43)
  have HB0 := Lib.hid hb0
  have ROW := Lib.hid hc
  have RC := Lib.hid fun (W : World) (hW : Below w.heap.size w W) => read_c s k hs hk W gs g0 g1 g2 g4 g5 (bs.below hW) (b0.below hW) (b1.below hW) (b2.below hW) (b4.below hW) (b5.below hW)
  have RR := Lib.hid fun (W : World) (hW : Below w.heap.size w W) (i : Nat) (x : Value) (hx : (rowV gs g0 g1 g2 g4 g5)[i]? = some x) => (show W.cell? ⟨r, i, none⟩ = some x from (hW.cell (p := ⟨r, i, none⟩) hr).trans (hc i x hx))
  have VN := Lib.hid (Ak.new w #[.int .i64 0, .string ⟨#[]⟩, .int .i64 0] 43)
  clear hb0 hc bs b0 b1 b2 b4 b5 ROW
  go_enter Tryd.func32, Tryd.ntmps32
  go_wp2
  go_loopw [12] (fun i wr => ∃ (m : Nat) (j : Int), (m : Int) + j = 6 ∧ 0 ≤ j ∧ i = .int .i64 j ∧ firstF s k 6 = firstF s k m ∧ Below w.heap.size w wr ∧ Ak wr w.heap.size #[.int .i64 0, .string ⟨#[]⟩, .int .i64 0] 43) (fun i _ => 6 - (intOf i).toNat)
  case atStart => exact ⟨6, 0, rfl, Int.le_refl _, rfl, rfl, HB0.out, VN.out⟩
  case round =>
    obtain ⟨m, j, hm, hj, rfl, hf, hbl, hvn⟩ := hrel
    have HF := Lib.hid hf
    have HB := Lib.hid hbl
    have HV := Lib.hid hvn
    clear hf hbl hvn HB0 VN
    have hmm : m = 0 ∨ m = 1 ∨ m = 2 ∨ m = 3 ∨ m = 4 ∨ m = 5 ∨ m = 6 := by omega
    rcases hmm with rfl | rfl | rfl | rfl | rfl | rfl | rfl
    · obtain rfl : j = 6 := by omega
      clear hm hj
      have v0 := HV.out.at 0 (v := .int .i64 0) rfl
      have v1 := HV.out.at 1 (v := .string ⟨#[]⟩) rfl
      have v2 := HV.out.at 2 (v := .int .i64 0) rfl
      have f0 := HV.out.f 0
      have f1 := HV.out.f 1
      have f2 := HV.out.f 2
      have HR := Lib.hid (show firstF s k 6 = none from HF.out)
      go_wp2
      have A3 := HV.out.set3 (.int .i64 0) (.string ⟨#[]⟩) (.int .i64 0)
      have B3 := ((HB.out.setCell (p := ⟨w.heap.size, 0, none⟩) (Nat.le_refl _) (.int .i64 0)).setCell (p := ⟨w.heap.size, 1, none⟩) (Nat.le_refl _) (.string ⟨#[]⟩)).setCell (p := ⟨w.heap.size, 2, none⟩) (Nat.le_refl _) (.int .i64 0)
      generalize (((wr.setCell ⟨w.heap.size, 0, none⟩ (.int .i64 0)).setCell ⟨w.heap.size, 1, none⟩ (.string ⟨#[]⟩)).setCell ⟨w.heap.size, 2, none⟩ (.int .i64 0)) = W at A3 B3 ⊢
      have r0 := A3.at 0 (v := .int .i64 0) rfl
      have r1 := A3.at 1 (v := .string ⟨#[]⟩) rfl
      have r2 := A3.at 2 (v := .int .i64 0) rfl
      try simp only [Exit.inBlock, Exit.then]
      refine bodyPost_ret (by simp [results, Tryd.results32, go_sem, r0, r1, r2]; try rfl) rfl ?_
      rw [HR.out]
      exact ⟨rfl, B3⟩
    · obtain rfl : j = 5 := by omega
      clear hm hj
      have ci : wr.cell? ⟨r, 5, none⟩ = some (.func (Fn.func 50) #[] #[.pointer (some ⟨g5, 0, none⟩), .pointer (some ⟨gs, 0, none⟩)]) := RR.out wr HB.out 5 _ rfl
      go_wp2_with fail
      refine ((RC.out _ HB.out).2.2.2.2.2).mono ?_
      rintro e w5 ⟨he, hb5⟩
      have BB := Lib.hid (HB.out.trans (hb5.mono HB.out.size))
      have VV := HV.out.below hb5
      have VH := Lib.hid VV
      clear hb5 ci
      cases hrd : rdB s k 5 with
      | none =>
        rw [hrd] at he
        obtain ⟨t, rfl⟩ := he
        have HN := Lib.hid (show firstF s k 6 = firstF s k 0 from HF.out.trans (firstF_none (j := 0) hrd))
        clear VV hrd
        go_wp2
        exact ⟨⟨0, 6, by decide, by decide, by go_num, HN.out, BB.out, VH.out⟩, by simp [intOf]⟩
      | some p =>
        obtain ⟨l, n⟩ := p
        rw [hrd] at he
        obtain ⟨hn0, hn1, t, rfl, htl⟩ := he
        have HR := Lib.hid (show firstF s k 6 = some (5, l, n) from HF.out.trans (firstF_some (j := 0) hrd))
        have HT := Lib.hid htl
        have v0 := VV.at 0 (v := .int .i64 0) rfl
        have v1 := VV.at 1 (v := .string ⟨#[]⟩) rfl
        have v2 := VV.at 2 (v := .int .i64 0) rfl
        have f0 := VV.f 0
        have f1 := VV.f 1
        have f2 := VV.f 2
        clear VV hrd htl
        go_wp2
        have A3 := VH.out.set3 (.int .i64 5) (.string t) (.int .i64 k)
        have B3 := ((BB.out.setCell (p := ⟨w.heap.size, 0, none⟩) (Nat.le_refl _) (.int .i64 5)).setCell (p := ⟨w.heap.size, 1, none⟩) (Nat.le_refl _) (.string t)).setCell (p := ⟨w.heap.size, 2, none⟩) (Nat.le_refl _) (.int .i64 k)
        generalize (((w5.setCell ⟨w.heap.size, 0, none⟩ (.int .i64 5)).setCell ⟨w.heap.size, 1, none⟩ (.string t)).setCell ⟨w.heap.size, 2, none⟩ (.int .i64 k)) = W at A3 B3 ⊢
        have r0 := A3.at 0 (v := .int .i64 5) rfl
        have r1 := A3.at 1 (v := .string t) rfl
        have r2 := A3.at 2 (v := .int .i64 k) rfl
        try simp only [Exit.inBlock, Exit.then]
        refine bodyPost_ret (by simp [results, Tryd.results32, go_sem, r0, r1, r2]; try rfl) rfl ?_
        rw [HR.out]
        exact ⟨⟨hn0, hn1, t, by push_cast; rfl, HT.out⟩, B3⟩
    · obtain rfl : j = 4 := by omega
      clear hm hj
      have ci : wr.cell? ⟨r, 4, none⟩ = some (.func (Fn.func 50) #[] #[.pointer (some ⟨g4, 0, none⟩), .pointer (some ⟨gs, 0, none⟩)]) := RR.out wr HB.out 4 _ rfl
      go_wp2_with fail
      refine ((RC.out _ HB.out).2.2.2.2.1).mono ?_
      rintro e w5 ⟨he, hb5⟩
      have BB := Lib.hid (HB.out.trans (hb5.mono HB.out.size))
      have VV := HV.out.below hb5
      have VH := Lib.hid VV
      clear hb5 ci
      cases hrd : rdB s k 4 with
      | none =>
        rw [hrd] at he
        obtain ⟨t, rfl⟩ := he
        have HN := Lib.hid (show firstF s k 6 = firstF s k 1 from HF.out.trans (firstF_none (j := 1) hrd))
        clear VV hrd
        go_wp2
        exact ⟨⟨1, 5, by decide, by decide, by go_num, HN.out, BB.out, VH.out⟩, by simp [intOf]⟩
      | some p =>
        obtain ⟨l, n⟩ := p
        rw [hrd] at he
        obtain ⟨hn0, hn1, t, rfl, htl⟩ := he
        have HR := Lib.hid (show firstF s k 6 = some (4, l, n) from HF.out.trans (firstF_some (j := 1) hrd))
        have HT := Lib.hid htl
        have v0 := VV.at 0 (v := .int .i64 0) rfl
        have v1 := VV.at 1 (v := .string ⟨#[]⟩) rfl
        have v2 := VV.at 2 (v := .int .i64 0) rfl
        have f0 := VV.f 0
        have f1 := VV.f 1
        have f2 := VV.f 2
        clear VV hrd htl
        go_wp2
        have A3 := VH.out.set3 (.int .i64 4) (.string t) (.int .i64 k)
        have B3 := ((BB.out.setCell (p := ⟨w.heap.size, 0, none⟩) (Nat.le_refl _) (.int .i64 4)).setCell (p := ⟨w.heap.size, 1, none⟩) (Nat.le_refl _) (.string t)).setCell (p := ⟨w.heap.size, 2, none⟩) (Nat.le_refl _) (.int .i64 k)
        generalize (((w5.setCell ⟨w.heap.size, 0, none⟩ (.int .i64 4)).setCell ⟨w.heap.size, 1, none⟩ (.string t)).setCell ⟨w.heap.size, 2, none⟩ (.int .i64 k)) = W at A3 B3 ⊢
        have r0 := A3.at 0 (v := .int .i64 4) rfl
        have r1 := A3.at 1 (v := .string t) rfl
        have r2 := A3.at 2 (v := .int .i64 k) rfl
        try simp only [Exit.inBlock, Exit.then]
        refine bodyPost_ret (by simp [results, Tryd.results32, go_sem, r0, r1, r2]; try rfl) rfl ?_
        rw [HR.out]
        exact ⟨⟨hn0, hn1, t, by push_cast; rfl, HT.out⟩, B3⟩
    · obtain rfl : j = 3 := by omega
      clear hm hj
      have ci : wr.cell? ⟨r, 3, none⟩ = some (.func (Fn.func 53) #[] #[.pointer (some ⟨gs, 0, none⟩)]) := RR.out wr HB.out 3 _ rfl
      go_wp2_with fail
      refine ((RC.out _ HB.out).2.2.2.1).mono ?_
      rintro e w5 ⟨he, hb5⟩
      have BB := Lib.hid (HB.out.trans (hb5.mono HB.out.size))
      have VV := HV.out.below hb5
      have VH := Lib.hid VV
      clear hb5 ci
      cases hrd : rdB s k 3 with
      | none =>
        rw [hrd] at he
        obtain ⟨t, rfl⟩ := he
        have HN := Lib.hid (show firstF s k 6 = firstF s k 2 from HF.out.trans (firstF_none (j := 2) hrd))
        clear VV hrd
        go_wp2
        exact ⟨⟨2, 4, by decide, by decide, by go_num, HN.out, BB.out, VH.out⟩, by simp [intOf]⟩
      | some p =>
        obtain ⟨l, n⟩ := p
        rw [hrd] at he
        obtain ⟨hn0, hn1, t, rfl, htl⟩ := he
        have HR := Lib.hid (show firstF s k 6 = some (3, l, n) from HF.out.trans (firstF_some (j := 2) hrd))
        have HT := Lib.hid htl
        have v0 := VV.at 0 (v := .int .i64 0) rfl
        have v1 := VV.at 1 (v := .string ⟨#[]⟩) rfl
        have v2 := VV.at 2 (v := .int .i64 0) rfl
        have f0 := VV.f 0
        have f1 := VV.f 1
        have f2 := VV.f 2
        clear VV hrd htl
        go_wp2
        have A3 := VH.out.set3 (.int .i64 3) (.string t) (.int .i64 k)
        have B3 := ((BB.out.setCell (p := ⟨w.heap.size, 0, none⟩) (Nat.le_refl _) (.int .i64 3)).setCell (p := ⟨w.heap.size, 1, none⟩) (Nat.le_refl _) (.string t)).setCell (p := ⟨w.heap.size, 2, none⟩) (Nat.le_refl _) (.int .i64 k)
        generalize (((w5.setCell ⟨w.heap.size, 0, none⟩ (.int .i64 3)).setCell ⟨w.heap.size, 1, none⟩ (.string t)).setCell ⟨w.heap.size, 2, none⟩ (.int .i64 k)) = W at A3 B3 ⊢
        have r0 := A3.at 0 (v := .int .i64 3) rfl
        have r1 := A3.at 1 (v := .string t) rfl
        have r2 := A3.at 2 (v := .int .i64 k) rfl
        try simp only [Exit.inBlock, Exit.then]
        refine bodyPost_ret (by simp [results, Tryd.results32, go_sem, r0, r1, r2]; try rfl) rfl ?_
        rw [HR.out]
        exact ⟨⟨hn0, hn1, t, by push_cast; rfl, HT.out⟩, B3⟩
    · obtain rfl : j = 2 := by omega
      clear hm hj
      have ci : wr.cell? ⟨r, 2, none⟩ = some (.func (Fn.func 50) #[] #[.pointer (some ⟨g2, 0, none⟩), .pointer (some ⟨gs, 0, none⟩)]) := RR.out wr HB.out 2 _ rfl
      go_wp2_with fail
      refine ((RC.out _ HB.out).2.2.1).mono ?_
      rintro e w5 ⟨he, hb5⟩
      have BB := Lib.hid (HB.out.trans (hb5.mono HB.out.size))
      have VV := HV.out.below hb5
      have VH := Lib.hid VV
      clear hb5 ci
      cases hrd : rdB s k 2 with
      | none =>
        rw [hrd] at he
        obtain ⟨t, rfl⟩ := he
        have HN := Lib.hid (show firstF s k 6 = firstF s k 3 from HF.out.trans (firstF_none (j := 3) hrd))
        clear VV hrd
        go_wp2
        exact ⟨⟨3, 3, by decide, by decide, by go_num, HN.out, BB.out, VH.out⟩, by simp [intOf]⟩
      | some p =>
        obtain ⟨l, n⟩ := p
        rw [hrd] at he
        obtain ⟨hn0, hn1, t, rfl, htl⟩ := he
        have HR := Lib.hid (show firstF s k 6 = some (2, l, n) from HF.out.trans (firstF_some (j := 3) hrd))
        have HT := Lib.hid htl
        have v0 := VV.at 0 (v := .int .i64 0) rfl
        have v1 := VV.at 1 (v := .string ⟨#[]⟩) rfl
        have v2 := VV.at 2 (v := .int .i64 0) rfl
        have f0 := VV.f 0
        have f1 := VV.f 1
        have f2 := VV.f 2
        clear VV hrd htl
        go_wp2
        have A3 := VH.out.set3 (.int .i64 2) (.string t) (.int .i64 k)
        have B3 := ((BB.out.setCell (p := ⟨w.heap.size, 0, none⟩) (Nat.le_refl _) (.int .i64 2)).setCell (p := ⟨w.heap.size, 1, none⟩) (Nat.le_refl _) (.string t)).setCell (p := ⟨w.heap.size, 2, none⟩) (Nat.le_refl _) (.int .i64 k)
        generalize (((w5.setCell ⟨w.heap.size, 0, none⟩ (.int .i64 2)).setCell ⟨w.heap.size, 1, none⟩ (.string t)).setCell ⟨w.heap.size, 2, none⟩ (.int .i64 k)) = W at A3 B3 ⊢
        have r0 := A3.at 0 (v := .int .i64 2) rfl
        have r1 := A3.at 1 (v := .string t) rfl
        have r2 := A3.at 2 (v := .int .i64 k) rfl
        try simp only [Exit.inBlock, Exit.then]
        refine bodyPost_ret (by simp [results, Tryd.results32, go_sem, r0, r1, r2]; try rfl) rfl ?_
        rw [HR.out]
        exact ⟨⟨hn0, hn1, t, by push_cast; rfl, HT.out⟩, B3⟩
    · obtain rfl : j = 1 := by omega
      clear hm hj
      have ci : wr.cell? ⟨r, 1, none⟩ = some (.func (Fn.func 52) #[] #[.pointer (some ⟨gs, 0, none⟩), .pointer (some ⟨g1, 0, none⟩)]) := RR.out wr HB.out 1 _ rfl
      go_wp2_with fail
      refine ((RC.out _ HB.out).2.1).mono ?_
      rintro e w5 ⟨he, hb5⟩
      have BB := Lib.hid (HB.out.trans (hb5.mono HB.out.size))
      have VV := HV.out.below hb5
      have VH := Lib.hid VV
      clear hb5 ci
      cases hrd : rdB s k 1 with
      | none =>
        rw [hrd] at he
        obtain ⟨t, rfl⟩ := he
        have HN := Lib.hid (show firstF s k 6 = firstF s k 4 from HF.out.trans (firstF_none (j := 4) hrd))
        clear VV hrd
        go_wp2
        exact ⟨⟨4, 2, by decide, by decide, by go_num, HN.out, BB.out, VH.out⟩, by simp [intOf]⟩
      | some p =>
        obtain ⟨l, n⟩ := p
        rw [hrd] at he
        obtain ⟨hn0, hn1, t, rfl, htl⟩ := he
        have HR := Lib.hid (show firstF s k 6 = some (1, l, n) from HF.out.trans (firstF_some (j := 4) hrd))
        have HT := Lib.hid htl
        have v0 := VV.at 0 (v := .int .i64 0) rfl
        have v1 := VV.at 1 (v := .string ⟨#[]⟩) rfl
        have v2 := VV.at 2 (v := .int .i64 0) rfl
        have f0 := VV.f 0
        have f1 := VV.f 1
        have f2 := VV.f 2
        clear VV hrd htl
        go_wp2
        have A3 := VH.out.set3 (.int .i64 1) (.string t) (.int .i64 k)
        have B3 := ((BB.out.setCell (p := ⟨w.heap.size, 0, none⟩) (Nat.le_refl _) (.int .i64 1)).setCell (p := ⟨w.heap.size, 1, none⟩) (Nat.le_refl _) (.string t)).setCell (p := ⟨w.heap.size, 2, none⟩) (Nat.le_refl _) (.int .i64 k)
        generalize (((w5.setCell ⟨w.heap.size, 0, none⟩ (.int .i64 1)).setCell ⟨w.heap.size, 1, none⟩ (.string t)).setCell ⟨w.heap.size, 2, none⟩ (.int .i64 k)) = W at A3 B3 ⊢
        have r0 := A3.at 0 (v := .int .i64 1) rfl
        have r1 := A3.at 1 (v := .string t) rfl
        have r2 := A3.at 2 (v := .int .i64 k) rfl
        try simp only [Exit.inBlock, Exit.then]
        refine bodyPost_ret (by simp [results, Tryd.results32, go_sem, r0, r1, r2]; try rfl) rfl ?_
        rw [HR.out]
        exact ⟨⟨hn0, hn1, t, by push_cast; rfl, HT.out⟩, B3⟩
    · obtain rfl : j = 0 := by omega
      clear hm hj
      have ci : wr.cell? ⟨r, 0, none⟩ = some (.func (Fn.func 52) #[] #[.pointer (some ⟨gs, 0, none⟩), .pointer (some ⟨g0, 0, none⟩)]) := RR.out wr HB.out 0 _ rfl
      go_wp2_with fail
      refine ((RC.out _ HB.out).1).mono ?_
      rintro e w5 ⟨he, hb5⟩
      have BB := Lib.hid (HB.out.trans (hb5.mono HB.out.size))
      have VV := HV.out.below hb5
      have VH := Lib.hid VV
      clear hb5 ci
      cases hrd : rdB s k 0 with
      | none =>
        rw [hrd] at he
        obtain ⟨t, rfl⟩ := he
        have HN := Lib.hid (show firstF s k 6 = firstF s k 5 from (firstF_none (j := 5) hrd))
        clear VV hrd
        go_wp2
        exact ⟨⟨5, 1, by decide, by decide, by go_num, HN.out, BB.out, VH.out⟩, by simp [intOf]⟩
      | some p =>
        obtain ⟨l, n⟩ := p
        rw [hrd] at he
        obtain ⟨hn0, hn1, t, rfl, htl⟩ := he
        have HR := Lib.hid (show firstF s k 6 = some (0, l, n) from (firstF_some (j := 5) hrd))
        have HT := Lib.hid htl
        have v0 := VV.at 0 (v := .int .i64 0) rfl
        have v1 := VV.at 1 (v := .string ⟨#[]⟩) rfl
        have v2 := VV.at 2 (v := .int .i64 0) rfl
        have f0 := VV.f 0
        have f1 := VV.f 1
        have f2 := VV.f 2
        clear VV hrd htl
        go_wp2
        have A3 := VH.out.set3 (.int .i64 0) (.string t) (.int .i64 k)
        have B3 := ((BB.out.setCell (p := ⟨w.heap.size, 0, none⟩) (Nat.le_refl _) (.int .i64 0)).setCell (p := ⟨w.heap.size, 1, none⟩) (Nat.le_refl _) (.string t)).setCell (p := ⟨w.heap.size, 2, none⟩) (Nat.le_refl _) (.int .i64 k)
        generalize (((w5.setCell ⟨w.heap.size, 0, none⟩ (.int .i64 0)).setCell ⟨w.heap.size, 1, none⟩ (.string t)).setCell ⟨w.heap.size, 2, none⟩ (.int .i64 k)) = W at A3 B3 ⊢
        have r0 := A3.at 0 (v := .int .i64 0) rfl
        have r1 := A3.at 1 (v := .string t) rfl
        have r2 := A3.at 2 (v := .int .i64 k) rfl
        try simp only [Exit.inBlock, Exit.then]
        refine bodyPost_ret (by simp [results, Tryd.results32, go_sem, r0, r1, r2]; try rfl) rfl ?_
        rw [HR.out]
        exact ⟨⟨hn0, hn1, t, by push_cast; rfl, HT.out⟩, B3⟩
end Go.Proofs.YthhkpoobcnmdgaaDoor
/-
  lex: the error that is told (wrongAt).
-/
namespace Go.Proofs.YthhkpoobcnmdgaaDoor
open Go.RowKit
set_option linter.unusedVariables false

theorem wrongAt_c (k : Int) (w : World) : Calls Tryd.prog 34 #[.int .i64 k] w fun e w' => ∃ c, e = .returned (.iface 90 (.pointer (some ⟨c, 0, none⟩))) ∧ Below w.heap.size w w' ∧ w'.cell? ⟨c, 0, none⟩ = some (.int .i64 4) ∧ w'.cell? ⟨c, 1, none⟩ = some (.int .i64 k) ∧ c < w'.heap.size := by
  go_enter Tryd.func34, Tryd.ntmps34
  go_wp2
  go_returns
  have A := Ak.new w #[.int .i64 4, .int .i64 k] 92
  exact ⟨_, rfl, bx_alloc w _, A.at 0 rfl, A.at 1 rfl, by simp⟩
end Go.Proofs.YthhkpoobcnmdgaaDoor
/-
  lex: the tokens of a text, as numbers: from a place on, in their order, and where the first one is that is none.
-/
namespace Go.Proofs.YthhkpoobcnmdgaaDoor
open Go.RowKit
set_option linter.unusedVariables false

/-- A token: its kind, its text's bytes, its place. -/
structure Tk where
  d : Nat
  l : List Nat
  k : Nat

theorem rdB_pos {s : ByteArray} {k i : Nat} {l : List Nat} {n : Nat} (hk : k < s.size) (h : rdB s k i = some (l, n)) : 0 < n ∧ k + n ≤ s.size := by
  have hx : (s.extract k s.size).size = s.size - k := by rw [ByteArray.size_extract]; omega
  have n1 := numL_le (s.extract k s.size) (by omega)
  have n2 := nameL_le (s.extract k s.size)
  have n3 := signN_le (s.extract k s.size)
  have hc : ∀ m, cutB s k m = some (l, n) → m ≤ s.size - k → 0 < n ∧ k + n ≤ s.size := by
    intro m h hm
    unfold cutB at h
    split at h
    · injection h with h
      injection h with h1 h2
      omega
    · cases h
  have hb : ∀ b : Int, (if by_ s k = b then some (([] : List Nat), 1) else none) = some (l, n) → 0 < n ∧ k + n ≤ s.size := by
    intro b h
    split at h
    · injection h with h
      injection h with h1 h2
      omega
    · cases h
  unfold rdB at h
  split at h
  · exact hb 40 h
  · exact hb 41 h
  · exact hc _ h (by omega)
  · have := textN_pos h
    omega
  · exact hc _ h (by omega)
  · exact hc _ h (by omega)
  · cases h
theorem firstF_pos {s : ByteArray} {k m d : Nat} {l : List Nat} {n : Nat} (hk : k < s.size) (h : firstF s k m = some (d, l, n)) : 0 < n ∧ k + n ≤ s.size := by
  induction m with
  | zero => cases h
  | succ m ih =>
    rw [firstF] at h
    split at h
    · rename_i hr
      injection h with h
      injection h with h1 h2
      injection h2 with h2 h3
      subst h2 h3
      exact rdB_pos hk hr
    · exact ih h
theorem firstF_kind {s : ByteArray} {k m d : Nat} {l : List Nat} {n : Nat} (h : firstF s k m = some (d, l, n)) : d ≤ 5 := by
  induction m with
  | zero => cases h
  | succ m ih =>
    rw [firstF] at h
    split at h
    · injection h with h
      injection h with h1 h2
      omega
    · exact ih h

/-- The tokens of s from k on (no blank stands there), and where the first one is that is none. -/
inductive Toks (s : ByteArray) : Nat → List Tk → Option Nat → Prop
  | done {k : Nat} (h : ¬ k < s.size) : Toks s k [] none
  | none {k : Nat} (h : k < s.size) (h1 : firstF s k 6 = .none) : Toks s k [] (some k)
  | glued {k d : Nat} {l : List Nat} {n : Nat} (h : k < s.size) (h1 : firstF s k 6 = some (d, l, n)) (h2 : partB d (s.extract (k + n) s.size) = false) : Toks s k [] (some k)
  | tok {k d : Nat} {l : List Nat} {n : Nat} {ts : List Tk} {r : Option Nat} (h : k < s.size) (h1 : firstF s k 6 = some (d, l, n)) (h2 : partB d (s.extract (k + n) s.size) = true)
      (h3 : Toks s (skipE s (k + n) false) ts r) : Toks s k (⟨d, l, k⟩ :: ts) r

theorem Toks.uniq {s : ByteArray} {k : Nat} {ts ts' : List Tk} {r r' : Option Nat} (h : Toks s k ts r) (h' : Toks s k ts' r') : ts = ts' ∧ r = r' := by
  induction h generalizing ts' r' with
  | done h => cases h' with
    | done _ => exact ⟨rfl, rfl⟩
    | none g _ => exact absurd g h
    | glued g _ _ => exact absurd g h
    | tok g _ _ _ => exact absurd g h
  | none h h1 => cases h' with
    | done g => exact absurd h g
    | none _ _ => exact ⟨rfl, rfl⟩
    | glued _ g _ => rw [h1] at g; cases g
    | tok _ g _ _ => rw [h1] at g; cases g
  | glued h h1 h2 => cases h' with
    | done g => exact absurd h g
    | none _ g => rw [h1] at g; cases g
    | glued _ _ _ => exact ⟨rfl, rfl⟩
    | tok _ g g2 _ => rw [h1] at g; cases g; rw [h2] at g2; cases g2
  | tok h h1 h2 h3 ih => cases h' with
    | done g => exact absurd h g
    | none _ g => rw [h1] at g; cases g
    | glued _ g g2 => rw [h1] at g; cases g; rw [h2] at g2; cases g2
    | tok _ g _ g3 =>
      rw [h1] at g
      cases g
      obtain ⟨e1, e2⟩ := ih g3
      rw [e1, e2]
      exact ⟨rfl, rfl⟩
theorem Toks.ex (s : ByteArray) (k : Nat) (hk : k ≤ s.size) : ∃ ts r, Toks s k ts r := by
  generalize hm : s.size - k = m
  induction m using Nat.strongRecOn generalizing k with
  | ind m ih =>
    by_cases h : k < s.size
    · cases h1 : firstF s k 6 with
      | none => exact ⟨_, _, .none h h1⟩
      | some p =>
        obtain ⟨d, l, n⟩ := p
        cases h2 : partB d (s.extract (k + n) s.size) with
        | false => exact ⟨_, _, .glued h h1 h2⟩
        | true =>
          have hp := firstF_pos h h1
          have hs := skip_le s (k + n) false (by omega)
          obtain ⟨ts, r, ht⟩ := ih (s.size - skipE s (k + n) false) (by omega) _ (by omega) rfl
          exact ⟨_, _, .tok h h1 h2 ht⟩
    · exact ⟨_, _, .done h⟩
/-- What a text's tokens are. -/
def Lexes (s : ByteArray) (ts : List Tk) (r : Option Nat) : Prop := Toks s (skipE s 0 false) ts r
theorem Lexes.uniq {s : ByteArray} {ts ts' : List Tk} {r r' : Option Nat} (h : Lexes s ts r) (h' : Lexes s ts' r') : ts = ts' ∧ r = r' := Toks.uniq h h'
theorem Lexes.ex (s : ByteArray) : ∃ ts r, Lexes s ts r := Toks.ex s _ (skip_le s 0 false (Nat.zero_le _)).2
end Go.Proofs.YthhkpoobcnmdgaaDoor
/-
  lex: what goes through the tokens of a text (each's closure), for whatever is done with each of them.
-/
namespace Go.Proofs.YthhkpoobcnmdgaaDoor
open Go.RowKit Go.Shelf
set_option linter.unusedVariables false
attribute [local go_sem] Oper.semAt_some

theorem mark_c2 (b : Int) (P : Value) (w : World) : Calls Tryd.prog 51 #[.int .u8 b, P] w fun e w' => ∃ g, e = .returned (.func (Fn.func 52) #[] #[P, .pointer (some ⟨g, 0, none⟩)]) ∧ Below w.heap.size w w' ∧ Bx w' g (.int .u8 b) ∧ w.heap.size ≤ g := by
  go_enter Tryd.func51, Tryd.ntmps51
  go_wp2
  go_returns
  exact ⟨_, rfl, (Below.refl _ _).alloc (Nat.le_refl _) _, Bx.new _ _ _, Nat.le_refl _⟩
theorem just_c2 (F : Nat) (P : Value) (w : World) : Calls Tryd.prog 49 #[.func (Fn.func F) #[] #[], P] w fun e w' => ∃ g, e = .returned (.func (Fn.func 50) #[] #[.pointer (some ⟨g, 0, none⟩), P]) ∧ Below w.heap.size w w' ∧ Bx w' g (.func (Fn.func F) #[] #[]) ∧ w.heap.size ≤ g := by
  go_enter Tryd.func49, Tryd.ntmps49
  go_wp2
  go_returns
  exact ⟨_, rfl, (Below.refl _ _).alloc (Nat.le_refl _) _, Bx.new _ _ _, Nat.le_refl _⟩

/-- v is a row of s's readers, in blocks of S. -/
def RowS (S : Nat → Prop) (s : ByteArray) (w : World) (v : Value) : Prop := ∃ r gs g0 g1 g2 g4 g5 : Nat, (S r ∧ S gs ∧ S g0 ∧ S g1 ∧ S g2 ∧ S g4 ∧ S g5) ∧ v = .slice (some ⟨r, 0, none⟩) 6 6 ∧ r < w.heap.size ∧ (∀ i x, (rowV gs g0 g1 g2 g4 g5)[i]? = some x → w.cell? ⟨r, i, none⟩ = some x) ∧
  Bx w gs (.string s) ∧ Bx w g0 (.int .u8 40) ∧ Bx w g1 (.int .u8 41) ∧ Bx w g2 (.func (Fn.func 28) #[] #[]) ∧ Bx w g4 (.func (Fn.func 27) #[] #[]) ∧ Bx w g5 (.func (Fn.func 55) #[] #[])
theorem RowS.row {S : Nat → Prop} {s : ByteArray} {w : World} {v : Value} (h : RowS S s w v) : IsRow s w v := by
  obtain ⟨r, gs, g0, g1, g2, g4, g5, _, h⟩ := h
  exact ⟨r, gs, g0, g1, g2, g4, g5, h⟩
theorem RowS.mono {S S' : Nat → Prop} {s : ByteArray} {w : World} {v : Value} (h : RowS S s w v) (hs : ∀ j, S j → S' j) : RowS S' s w v := by
  obtain ⟨r, gs, g0, g1, g2, g4, g5, ⟨h1, h2, h3, h4, h5, h6, h7⟩, h⟩ := h
  exact ⟨r, gs, g0, g1, g2, g4, g5, ⟨hs _ h1, hs _ h2, hs _ h3, hs _ h4, hs _ h5, hs _ h6, hs _ h7⟩, h⟩
/-- These blocks lie as they lay. -/
def KeepX (S : Nat → Prop) (W W' : World) : Prop := W.heap.size ≤ W'.heap.size ∧ ∀ k, S k → W'.heap[k]? = W.heap[k]?
theorem KeepX.cell {S : Nat → Prop} {W W' : World} (h : KeepX S W W') {g o : Nat} (hg : S g) : W'.cell? ⟨g, o, none⟩ = W.cell? ⟨g, o, none⟩ := World.cell?_of_block (a := ⟨g, o, none⟩) (h.2 g hg)
theorem KeepX.refl (S : Nat → Prop) (W : World) : KeepX S W W := ⟨Nat.le_refl _, fun _ _ => rfl⟩
theorem KeepX.trans {S : Nat → Prop} {A B C : World} (h : KeepX S A B) (k : KeepX S B C) : KeepX S A C := ⟨Nat.le_trans h.1 k.1, fun j hj => (k.2 j hj).trans (h.2 j hj)⟩
theorem KeepX.below {S : Nat → Prop} {W W' : World} (h : Below W.heap.size W W') (hS : ∀ k, S k → k < W.heap.size) : KeepX S W W' := ⟨h.size, fun k hk => h.block k (hS k hk)⟩
theorem KeepX.bx {S : Nat → Prop} {W W' : World} (h : KeepX S W W') {g : Nat} (hg : S g) {v : Value} (hb : Bx W g v) : Bx W' g v := ⟨Nat.lt_of_lt_of_le hb.1 h.1, (h.cell hg).trans hb.2⟩
theorem RowS.kept {S : Nat → Prop} {s : ByteArray} {w w' : World} {v : Value} (h : RowS S s w v) (k : KeepX S w w') : RowS S s w' v := by
  obtain ⟨r, gs, g0, g1, g2, g4, g5, hS, hv, hr, hc, bs, b0, b1, b2, b4, b5⟩ := h
  exact ⟨r, gs, g0, g1, g2, g4, g5, hS, hv, Nat.lt_of_lt_of_le hr k.1, fun i x hx => (k.cell hS.1).trans (hc i x hx), k.bx hS.2.1 bs, k.bx hS.2.2.1 b0, k.bx hS.2.2.2.1 b1, k.bx hS.2.2.2.2.1 b2, k.bx hS.2.2.2.2.2.1 b4, k.bx hS.2.2.2.2.2.2 b5⟩

set_option maxHeartbeats 4000000 in
theorem readers_c2 (s : ByteArray) (w : World) : Calls Tryd.prog 30 #[.string s] w fun e w' => ∃ v, e = .returned v ∧ Below w.heap.size w w' ∧ RowS (fun j => w.heap.size ≤ j ∧ j < w'.heap.size) s w' v := by
  have BS := Lib.hid (Bx.new w (.string s) 9)
  have BB := Lib.hid (bx_alloc w (.cells #[.string s] 9))
  go_enter Tryd.func30, Tryd.ntmps30
  go_wp2_with fail
  refine (mark_c2 _ _ _).mono ?_
  rintro e w1 ⟨g0, rfl, hb, h0, l0⟩
  have BS1 := Lib.hid (BS.out.below hb)
  have BB1 := Lib.hid (BB.out.trans (hb.mono BB.out.size))
  have H0 := Lib.hid h0
  have L0 := Lib.hid (Nat.le_trans BB.out.size l0)
  clear BS BB hb h0 l0
  go_wp2_with fail
  refine (mark_c2 _ _ _).mono ?_
  rintro e w2 ⟨g1, rfl, hb, h1, l1⟩
  have BS2 := Lib.hid (BS1.out.below hb)
  have BB2 := Lib.hid (BB1.out.trans (hb.mono BB1.out.size))
  have H0' := Lib.hid (H0.out.below hb)
  have H1 := Lib.hid h1
  have L1 := Lib.hid (Nat.le_trans BB1.out.size l1)
  clear BS1 BB1 H0 hb h1 l1
  go_wp2_with fail
  refine (just_c2 _ _ _).mono ?_
  rintro e w3 ⟨g2, rfl, hb, h2, l2⟩
  have BS3 := Lib.hid (BS2.out.below hb)
  have BB3 := Lib.hid (BB2.out.trans (hb.mono BB2.out.size))
  have I0 := Lib.hid (H0'.out.below hb)
  have I1 := Lib.hid (H1.out.below hb)
  have I2 := Lib.hid h2
  have L2 := Lib.hid (Nat.le_trans BB2.out.size l2)
  clear BS2 BB2 H0' H1 hb h2 l2
  go_wp2_with fail
  refine (just_c2 _ _ _).mono ?_
  rintro e w4 ⟨g4, rfl, hb, h4, l4⟩
  have BS4 := Lib.hid (BS3.out.below hb)
  have BB4 := Lib.hid (BB3.out.trans (hb.mono BB3.out.size))
  have J0 := Lib.hid (I0.out.below hb)
  have J1 := Lib.hid (I1.out.below hb)
  have J2 := Lib.hid (I2.out.below hb)
  have J4 := Lib.hid h4
  have L4 := Lib.hid (Nat.le_trans BB3.out.size l4)
  clear BS3 BB3 I0 I1 I2 hb h4 l4
  go_wp2_with fail
  refine (just_c2 _ _ _).mono ?_
  rintro e w5 ⟨g5, rfl, hb, h5, l5⟩
  have BS5 := Lib.hid (BS4.out.below hb)
  have BB5 := Lib.hid (BB4.out.trans (hb.mono BB4.out.size))
  have K0 := Lib.hid (J0.out.below hb)
  have K1 := Lib.hid (J1.out.below hb)
  have K2 := Lib.hid (J2.out.below hb)
  have K4 := Lib.hid (J4.out.below hb)
  have K5 := Lib.hid h5
  have L5 := Lib.hid (Nat.le_trans BB4.out.size l5)
  clear BS4 BB4 J0 J1 J2 J4 hb h5 l5
  go_wp2_with fail
  go_returns
  have hb := bx_alloc w5 (.cells (rowV w.heap.size g0 g1 g2 g4 g5) 86)
  have hz := hb.size
  have q := BB5.out.size
  have b0 := BS5.out.below hb
  have b1 := K0.out.below hb
  have b2 := K1.out.below hb
  have b3 := K2.out.below hb
  have b4 := K4.out.below hb
  have b5 := K5.out.below hb
  have e1 : (w5.alloc (.cells (rowV w.heap.size g0 g1 g2 g4 g5) 86)).heap.size = w5.heap.size + 1 := by simp
  refine ⟨_, rfl, BB5.out.trans (hb.mono BB5.out.size), w5.heap.size, w.heap.size, g0, g1, g2, g4, g5, ⟨⟨q, by rw [show (w5.alloc _).heap.size = w5.heap.size + 1 by simp]; omega⟩, ⟨Nat.le_refl _, b0.1⟩, ⟨L0.out, b1.1⟩, ⟨L1.out, b2.1⟩, ⟨L2.out, b3.1⟩, ⟨L4.out, b4.1⟩, ⟨L5.out, b5.1⟩⟩, rfl, by simp, ?_, b0, b1, b2, b3, b4, b5⟩
  exact fun i x hx => (cell_of_row _ _ _ (rowV w.heap.size g0 g1 g2 g4 g5) 86 (0, 0) (heap_alloc_new w5 _)).trans hx
end Go.Proofs.YthhkpoobcnmdgaaDoor
/-
  lex: what goes through the tokens of a text (each's closure), for whatever is done with each of them.
-/
namespace Go.Proofs.YthhkpoobcnmdgaaDoor
open Go.RowKit Go.Shelf
set_option linter.unusedVariables false
attribute [local go_sem] Oper.semAt_some

/-- The value of a token. -/
def tokV (d : Nat) (t : ByteArray) (k : Nat) : Value := .agg #[.int .i64 d, .string t, .int .i64 k]
/-- What is done with each token, and with the error. J: these have come; m: the blocks ahead of it are not written, but those of C; Jx: the error has come. -/
structure Does (n l : Nat) (C : Nat → Prop) (J : Nat → List Tk → World → Prop) (Jx : Nat → World → Prop) : Prop where
  below : ∀ m pre W W', J m pre W → Below W.heap.size W W' → J m pre W'
  tok : ∀ m pre (t : ByteArray) (d k : Nat) W, d ≤ 5 → pre.length < 1048576 → J m pre W → m ≤ W.heap.size → YieldAt Fence.wide n Tryd.prog l #[.agg #[.int .i64 d, .string t, .int .i64 k], .nilIface] W fun e W' =>
    e = .returned (.bool true) ∧ J m (pre ++ [⟨d, M.bytes t, k⟩]) W' ∧ KeepX (fun j => j < m ∧ ¬ C j) W W'
  wrong : ∀ m pre (c k : Nat) W, J m pre W → m ≤ W.heap.size → c < W.heap.size → W.cell? ⟨c, 0, none⟩ = some (.int .i64 4) → W.cell? ⟨c, 1, none⟩ = some (.int .i64 k) →
    YieldAt Fence.wide n Tryd.prog l #[.agg #[.int .i64 0, .string ⟨#[]⟩, .int .i64 0], .iface 90 (.pointer (some ⟨c, 0, none⟩))] W fun e W' => e = .returned (.bool false) ∧ Jx k W'
/-- What has come when all is over. -/
def Came (s : ByteArray) (z : Nat) (J : Nat → List Tk → World → Prop) (Jx : Nat → World → Prop) (W : World) : Prop := ∃ ts r, Lexes s ts r ∧ ((r = none ∧ ∃ m, z ≤ m ∧ J m ts W) ∨ ∃ k, r = some k ∧ Jx k W)

set_option maxRecDepth 100000 in
set_option maxHeartbeats 4000000 in
theorem each1_in (n : Nat) (hn : 1 ≤ n) (l gs : Nat) (s : ByteArray) (hs : s.size ≤ 1048576) (C : Nat → Prop) (J : Nat → List Tk → World → Prop) (Jx : Nat → World → Prop) (hD : Does (n - 1) l C J Jx) (W : World)
    (hC : ∀ j, C j → j < W.heap.size) (hg : ¬ C gs) (hb : Bx W gs (.string s)) (h0 : ∀ m W', W.heap.size ≤ m → Below W.heap.size W W' → J m [] W') :
    CallsIn Fence.wide n Tryd.prog 29 #[.func (.yield l) #[] #[], .pointer (some ⟨gs, 0, none⟩)] W fun e W' => (∃ v, e = .returned v) ∧ Came s W.heap.size J Jx W' := by
  refine callsIn_of_wp Tryd.func29 rfl trivial ?_ rfl
  simp only [Tryd.ntmps29, List.size_toArray, List.length_cons, List.length_nil, Nat.reduceAdd, Nat.reduceSub, Array.replicate_succ, Array.replicate_zero, List.push_toArray, List.append_toArray, List.nil_append, List.cons_append]
  have HD := Lib.hid hD
  have HC := Lib.hid hC
  have HBX := Lib.hid hb
  have H0 := Lib.hid h0
  have hmo : Tryd.prog.follows .mixedOrders = true := by kernel_rfl
  have hcs := hb.2
  clear hD hC hb h0
  gi_wp2_with (first
    | (refine ⟨trivial, ?_⟩; gi_at_call 30; refine (callsIn_wide.2 (readers_c2 s _)).mono ?_; rintro e w1 ⟨v, rfl, hb1, hv1⟩; have HB1 := Lib.hid hb1; have HV1 := Lib.hid hv1; have BX1 := Lib.hid (HBX.out.below hb1); have hcs1 := BX1.out.2; clear hb1 hv1 hcs)
    | (refine ⟨trivial, ?_⟩; gi_at_call 31; refine (callsIn_wide.2 (blanksEnd_c s 0 _ hs (Nat.zero_le _))).mono ?_; rintro e w2 ⟨rfl, rfl⟩))
  have hle := Lib.hid (skip_le s 0 false (Nat.zero_le _)).2
  gi_loopw [4] (fun i wr => ∃ (k : Nat) (pre : List Tk), i = .int .i64 k ∧ k ≤ s.size ∧ pre.length ≤ k ∧ (∀ ts r, Toks s k ts r → Lexes s (pre ++ ts) r) ∧ J w1.heap.size pre wr ∧ KeepX (fun j => j < w1.heap.size ∧ ¬ C j) w1 wr) (fun i _ => s.size - (intOf i).toNat)
  case atStart => exact ⟨_, [], rfl, hle.out, Nat.zero_le _, fun ts r h => h, H0.out _ _ HB1.out.size HB1.out, KeepX.refl _ _⟩
  case round =>
    obtain ⟨k, pre, rfl, hk, hpre, hts, hj, hkx⟩ := hrel
    have HT := Lib.hid hts
    have HJ := Lib.hid hj
    have HK := Lib.hid hkx
    have hcr : wr.cell? ⟨gs, 0, none⟩ = some (.string s) := (hkx.cell ⟨BX1.out.1, hg⟩).trans hcs1
    clear hts hj hkx
    by_cases hkn : k < s.size
    · have HR := Lib.hid ((HV1.out.mono (S' := fun j => j < w1.heap.size ∧ ¬ C j) fun j hj => ⟨hj.2, fun hc => by have := HC.out j hc; omega⟩).kept HK.out).row
      cases hf : firstF s k 6 with
      | none =>
        have HF := Lib.hid hf
        clear hf
        gi_wp2_with (refine ⟨trivial, ?_⟩; gi_at_call 32; refine (callsIn_wide.2 (first_c s k hs hkn _ v HR.out)).mono ?_; rw [HF.out]; rintro e w5 ⟨he, hb5⟩; obtain rfl := (show e = .returned (.tuple #[.agg #[.int .i64 0, .string ⟨#[]⟩, .int .i64 0], .int .i64 k]) from he); have HB5 := Lib.hid hb5; have hc5 := (hb5.cell (p := ⟨gs, 0, none⟩) (Nat.lt_of_lt_of_le BX1.out.1 HK.out.1)).trans hcr; clear hb5 hcr he)
        have hgl : gs < w5.heap.size := Nat.lt_of_lt_of_le BX1.out.1 (Nat.le_trans HK.out.1 HB5.out.size)
        have A6 := Lib.hid (Ak.new w5 #[.int .i64 0, .string ⟨#[]⟩, .int .i64 0] 43)
        have B6 := Lib.hid (HB5.out.trans ((bx_alloc w5 (.cells #[.int .i64 0, .string ⟨#[]⟩, .int .i64 0] 43)).mono HB5.out.size))
        have hc6 := ((bx_alloc w5 (.cells #[.int .i64 0, .string ⟨#[]⟩, .int .i64 0] 43)).cell (p := ⟨gs, 0, none⟩) hgl).trans hc5
        clear hgl hc5
        generalize w5.alloc (.cells #[.int .i64 0, .string ⟨#[]⟩, .int .i64 0] 43) = W6 at A6 B6 hc6 ⊢
        refine wpIn_wide.2 ?_
        go_quiet (fail)
        gi_wp2_with (first
          | (refine ⟨trivial, ?_⟩; gi_at_call 34; refine (callsIn_wide.2 (wrongAt_c k _)).mono ?_; rintro e w7 ⟨c, rfl, hb7, hx7, hy7, hl7⟩; have hb67 := (below_drewN B6.out _).trans (hb7.mono (below_drewN B6.out _).size); obtain ⟨fn, tmps, assign, body, hyy, hR⟩ := HD.out.wrong w1.heap.size pre c k w7 (HD.out.below _ _ _ _ HJ.out hb67) (Nat.le_trans HK.out.1 hb67.size) hl7 hx7 hy7; have HRR := Lib.hid hR; clear hb7 hx7 hy7 hl7 hb67 hR)
          | (refine HRR.out.mono ?_; rintro e W3 ⟨rfl, hJx3⟩; have HX := Lib.hid hJx3; clear hJx3))
        refine bodyPost_ret (results_none rfl _ _ _) rfl ?_
        exact ⟨⟨_, rfl⟩, pre ++ [], some k, HT.out [] (some k) (.none hkn HF.out), .inr ⟨k, rfl, HX.out⟩⟩
      | some p =>
        obtain ⟨d, l1, n1⟩ := p
        obtain ⟨hn0, hn1⟩ := firstF_pos hkn hf
        have hd5 := firstF_kind hf
        obtain ⟨q, hq⟩ : ∃ q, q = k + n1 := ⟨_, rfl⟩
        have hkq : k < q := by omega
        have hqs : q ≤ s.size := by omega
        have HF := Lib.hid hf
        have HQ := Lib.hid hq
        clear hf hq hn0 hn1
        have hne : (((q : Nat) : Int) == (k : Int)) = false := by simp; omega
        have hpl : (s.extract q s.size).size ≤ 1048576 := by rw [ByteArray.size_extract]; omega
        gi_wp2_with (refine ⟨trivial, ?_⟩; gi_at_call 32; refine (callsIn_wide.2 (first_c s k hs hkn _ v HR.out)).mono ?_; rw [HF.out]; rintro e w5 ⟨he, hb5⟩; obtain ⟨_, _, t, he2, htl⟩ := he; rw [← HQ.out] at he2; subst he2; have HTL := Lib.hid htl; have HB5 := Lib.hid hb5; have hc5 := (hb5.cell (p := ⟨gs, 0, none⟩) (Nat.lt_of_lt_of_le BX1.out.1 HK.out.1)).trans hcr; clear hb5 hcr htl)
        have hgl : gs < w5.heap.size := Nat.lt_of_lt_of_le BX1.out.1 (Nat.le_trans HK.out.1 HB5.out.size)
        have A6 := Lib.hid (Ak.new w5 #[.int .i64 d, .string t, .int .i64 k] 43)
        have B6 := Lib.hid (HB5.out.trans ((bx_alloc w5 (.cells #[.int .i64 d, .string t, .int .i64 k] 43)).mono HB5.out.size))
        have hc6 := ((bx_alloc w5 (.cells #[.int .i64 d, .string t, .int .i64 k] 43)).cell (p := ⟨gs, 0, none⟩) hgl).trans hc5
        clear hgl hc5
        generalize w5.alloc (.cells #[.int .i64 d, .string t, .int .i64 k] 43) = W6 at A6 B6 hc6 ⊢
        have hk0 := A6.out.at 0 (v := .int .i64 d) rfl
        have hk1 := A6.out.at 1 (v := .string t) rfl
        have hk2 := A6.out.at 2 (v := .int .i64 k) rfl
        cases hp : partB d (s.extract q s.size) with
        | false =>
          have HP := Lib.hid hp
          have PC := Lib.hid (fun w0 => (parted_c (d : Int) (s.extract q s.size) w0 hpl).mono (R' := fun e w' => e = .returned (.bool false) ∧ w' = w0) fun _ _ h => ⟨by rw [h.1, HP.out], h.2.symm⟩)
          clear hp
          refine wpIn_wide.2 ?_
          go_quiet ((go_at_call 33; exact Calls.quiet_of_same (PC.out _)))
          gi_wp2_with (first
            | (refine ⟨trivial, ?_⟩; gi_at_call 34; refine (callsIn_wide.2 (wrongAt_c k _)).mono ?_; rintro e w7 ⟨c, rfl, hb7, hx7, hy7, hl7⟩; have hb67 := (below_drewN B6.out _).trans (hb7.mono (below_drewN B6.out _).size); obtain ⟨fn, tmps, assign, body, hyy, hR⟩ := HD.out.wrong w1.heap.size pre c k w7 (HD.out.below _ _ _ _ HJ.out hb67) (Nat.le_trans HK.out.1 hb67.size) hl7 hx7 hy7; have HRR := Lib.hid hR; clear hb7 hx7 hy7 hl7 hb67 hR)
            | (refine HRR.out.mono ?_; rintro e W3 ⟨rfl, hJx3⟩; have HX := Lib.hid hJx3; clear hJx3))
          refine bodyPost_ret (results_none rfl _ _ _) rfl ?_
          exact ⟨⟨_, rfl⟩, pre ++ [], some k, HT.out [] (some k) (.glued hkn (by rw [HF.out]) (by rw [← HQ.out]; exact HP.out)), .inr ⟨k, rfl, HX.out⟩⟩
        | true =>
          have HP := Lib.hid hp
          have PC := Lib.hid (fun w0 => (parted_c (d : Int) (s.extract q s.size) w0 hpl).mono (R' := fun e w' => e = .returned (.bool true) ∧ w' = w0) fun _ _ h => ⟨by rw [h.1, HP.out], h.2.symm⟩)
          clear hp
          refine wpIn_wide.2 ?_
          go_quiet ((go_at_call 33; exact Calls.quiet_of_same (PC.out _)))
          have hb6 := below_drewN B6.out nq
          obtain ⟨fn, tmps, assign, body, hyy, hR⟩ := HD.out.tok w1.heap.size pre t d k (W6.drewN nq) hd5 (by omega) (HD.out.below _ _ _ _ HJ.out hb6) (Nat.le_trans HK.out.1 hb6.size)
          have HRR := Lib.hid hR
          have HKP := Lib.hid (HK.out.trans (KeepX.below (hb6.mono (Nat.le_refl _)) fun j hj => Nat.lt_of_lt_of_le hj.1 HK.out.1))
          clear hR hb6
          gi_wp2_with (first
            | (refine HRR.out.mono ?_; rintro e W3 ⟨rfl, hJ3, hK3⟩; have HJ3 := Lib.hid hJ3; have HK3 := Lib.hid hK3; have hc3 := (hK3.cell (g := gs) (o := 0) ⟨BX1.out.1, hg⟩).trans hc6; clear hJ3 hK3)
            | (refine ⟨trivial, ?_⟩; gi_at_call 31; refine (callsIn_wide.2 (blanksEnd_c s q _ hs hqs)).mono ?_; rintro e w9 ⟨rfl, rfl⟩))
          have hsk := skip_le s q false hqs
          go_roundw
          case rel => exact ⟨skipE s q false, pre ++ [⟨d, l1, k⟩], rfl, hsk.2, by rw [List.length_append]; show pre.length + 1 ≤ _; omega, fun ts r h => by rw [List.append_assoc]; exact HT.out _ _ (.tok hkn HF.out (by rw [← HQ.out]; exact HP.out) (by rw [← HQ.out]; exact h)), by rw [← HTL.out]; exact HJ3.out, HKP.out.trans HK3.out⟩
          case measure => simp [intOf]; omega
    · gi_wp2
      go_end0
      exact ⟨⟨_, rfl⟩, pre ++ [], none, HT.out [] none (.done hkn), .inl ⟨rfl, w1.heap.size, HB1.out.size, by rw [List.append_nil]; exact HJ.out⟩⟩
end Go.Proofs.YthhkpoobcnmdgaaDoor
/-
  lex: a range over a text's tokens, for whatever is done in it.
-/
namespace Go.Proofs.YthhkpoobcnmdgaaDoor
open Go.RowKit Go.Shelf
set_option linter.unusedVariables false

/-- All but these two blocks lies as it lay. -/
structure Same2 (L D : Nat) (W W' : World) : Prop where
  os : W'.os = W.os
  tape : W'.tape = W.tape
  output : W'.output = W.output
  size : W.heap.size ≤ W'.heap.size
  block : ∀ j, j < W.heap.size → j ≠ L → j ≠ D → W'.heap[j]? = W.heap[j]?
theorem Same2.of_below {L D : Nat} {W W' : World} (h : Below W.heap.size W W') : Same2 L D W W' := ⟨h.os, h.tape, h.output, h.size, fun j hj _ _ => h.block j hj⟩
theorem Same2.trans {L D : Nat} {A B C : World} (h : Same2 L D A B) (k : Same2 L D B C) : Same2 L D A C :=
  ⟨k.os.trans h.os, k.tape.trans h.tape, k.output.trans h.output, Nat.le_trans h.size k.size, fun j hj h1 h2 => (k.block j (Nat.lt_of_lt_of_le hj h.size) h1 h2).trans (h.block j hj h1 h2)⟩
theorem Same2.putL (L D : Nat) (W : World) (o : Obj) : Same2 L D W (W.putObj L o) := ⟨rfl, rfl, rfl, by simp, fun j _ h _ => World.putObj_heap_other h⟩
theorem Same2.cell {L D : Nat} {W W' : World} (h : Same2 L D W W') {g o : Nat} (hg : g < W.heap.size) (h1 : g ≠ L) (h2 : g ≠ D) : W'.cell? ⟨g, o, none⟩ = W.cell? ⟨g, o, none⟩ := World.cell?_of_block (a := ⟨g, o, none⟩) (h.block g hg h1 h2)
theorem Same2.below {L D B : Nat} {w W W' : World} (h : Same2 L D W W') (hb : Below B w W) (hB : B ≤ w.heap.size) (h1 : B ≤ L) (h2 : B ≤ D) : Below B w W' :=
  ⟨h.os.trans hb.os, h.tape.trans hb.tape, h.output.trans hb.output, Nat.le_trans hb.size h.size, fun j hj => (h.block j (Nat.lt_of_lt_of_le hj (Nat.le_trans hB hb.size)) (by omega) (by omega)).trans (hb.block j hj)⟩

/-- How a body is left that goes on. -/
def GoesOn (m : Nat) (C : Nat → Prop) (W₂ : World) (R : World → Prop) : Exit → Act → World → Prop
  | .normal, _, W₃ => R W₃ ∧ W₂.heap.size ≤ W₃.heap.size ∧ ∀ j, j < m → ¬ C j → W₃.heap[j]? = W₂.heap[j]?
  | _, _, _ => False
/-- How a body is left that returns. -/
def Returns (m : Nat) (C : Nat → Prop) (W₂ : World) (R : World → Prop) : Exit → Act → World → Prop
  | .ret, _, W₃ => R W₃ ∧ W₂.heap.size ≤ W₃.heap.size ∧ ∀ j, j < m → ¬ C j → W₃.heap[j]? = W₂.heap[j]?
  | _, _, _ => False
/-- A round, up to its end. -/
def RoundB (L D n : Nat) (assign body : Code) (tmps : Array Value) (W : World) (E : World → Exit → Act → World → Prop) : Prop :=
  assign.wpIn (Fence.wide.inRound L) n Tryd.prog (Exit.then (fun a₁ W₁ => Below W.heap.size W W₁ ∧ ∀ W₂, Same2 L D W₁ W₂ → W₂.heap.size = W₁.heap.size → body.wpIn (Fence.wide.inRound L) n Tryd.prog (E W₂) a₁ W₂) (fun _ _ _ => False)) { tmps := tmps, defers := [] } W

theorem wpIn_each {n : Nat} (hn : 2 ≤ n) {g : Operand} {ps : Array Tmp} {assign body : Code} {Q : Exit → Act → World → Prop} {a : Act} {w : World} (gs : Nat) (s : ByteArray) (hs : s.size ≤ 1048576)
    (hg : a.eval g = .func (.func 29) #[] #[.pointer (some ⟨gs, 0, none⟩)]) (hps : ps.size = 2) (hb : Bx w gs (.string s)) (C : Nat → Prop) (hC : ∀ j, C j → j < w.heap.size) (hgC : ¬ C gs)
    (I : Nat → List Tk → World → Prop) (Ix : Nat → World → Prop)
    (hI : ∀ m pre W W', I m pre W → Same2 (w.heap.size + 1) w.heap.size W W' → I m pre W') (hIx : ∀ k W W', Ix k W → Same2 (w.heap.size + 1) w.heap.size W W' → Ix k W') (h0 : ∀ m, w.heap.size + 2 ≤ m → I m [] w)
    (htok : ∀ m pre (t : ByteArray) (d k : Nat) W, d ≤ 5 → pre.length < 1048576 → w.heap.size + 2 ≤ m → m ≤ W.heap.size → I m pre W →
      RoundB (w.heap.size + 1) w.heap.size (n - 2) assign body ((ps.zip #[.agg #[.int .i64 d, .string t, .int .i64 k], .nilIface]).foldl (fun t (p, v) => t.setIfInBounds p v) a.tmps) W
        fun W₂ => GoesOn m C W₂ (I m (pre ++ [⟨d, M.bytes t, k⟩])))
    (hwrong : ∀ m pre (c k : Nat) W, w.heap.size + 2 ≤ m → m ≤ W.heap.size → c < W.heap.size → W.cell? ⟨c, 0, none⟩ = some (.int .i64 4) → W.cell? ⟨c, 1, none⟩ = some (.int .i64 k) → c ≠ w.heap.size + 1 → c ≠ w.heap.size → I m pre W →
      RoundB (w.heap.size + 1) w.heap.size (n - 2) assign body ((ps.zip #[.agg #[.int .i64 0, .string ⟨#[]⟩, .int .i64 0], .iface 90 (.pointer (some ⟨c, 0, none⟩))]).foldl (fun t (p, v) => t.setIfInBounds p v) a.tmps) W
        fun W₂ => Returns m C W₂ (Ix k))
    (hdone : ∀ m ts W, Lexes s ts none → w.heap.size ≤ m → I m ts W → W.heap[w.heap.size]? = some (.deferred (some [])) → Q .normal { a with defers := { target := .collected w.heap.size, args := #[] } :: a.defers } W)
    (hstop : ∀ ts k W, Lexes s ts (some k) → Ix k W → W.heap[w.heap.size]? = some (.deferred (some [])) → Q .ret { a with defers := { target := .collected w.heap.size, args := #[] } :: a.defers } W) :
    (Code.rangeFunc g ps assign body).wpIn Fence.wide n Tryd.prog Q a w := by
  refine wpIn_rangeFunc ?_
  intro fn hfn
  obtain ⟨rec, hrec⟩ : ∃ rec : LoopState → Option Code → Loop, rec = fun st pe => { state := st, pending := pe, fn, tmps := a.tmps, params := ps, assign, body, defers := w.heap.size } := ⟨_, rfl⟩
  obtain ⟨W1, hW1⟩ : ∃ W1, (w.alloc (.deferred (some []))).alloc (.loop (rec .ready none)) = W1 := ⟨_, rfl⟩
  have hsz : W1.heap.size = w.heap.size + 2 := by rw [← hW1]; simp
  have hL1 : W1.heap[w.heap.size + 1]? = some (.loop (rec .ready none)) := by
    rw [← hW1]; have := World.alloc_heap_new (w.alloc (.deferred (some []))) (.loop (rec .ready none)); rwa [World.size_alloc] at this
  have hK1 : W1.heap[w.heap.size]? = some (.deferred (some [])) := by
    rw [← hW1]; exact (Below.heap_alloc _ _ _ (by simp)).trans (World.alloc_heap_new w _)
  have hb1 : Below w.heap.size w W1 := by
    rw [← hW1]; exact ((Below.refl _ w).alloc (Nat.le_refl _) _).alloc (by simp) _
  refine ⟨w.heap.size + 1, [{ target := .collected w.heap.size, args := #[] }], W1, { target := .fn (.func 29) #[.pointer (some ⟨gs, 0, none⟩)], args := #[.func (.yield (w.heap.size + 1)) #[] #[]] }, W1, 29,
    #[.func (.yield (w.heap.size + 1)) #[] #[]] ++ #[.pointer (some ⟨gs, 0, none⟩)], W1, ?_, ?_, fun _ _ => trivial, ?_, fun _ => by omega, ?_⟩
  · rw [← hW1, hrec]; exact run_enterLoop_outer _ _ _ _ _
  · simp only [resolve, hg]
    simp [go_sem]
  · simp [invoke, go_sem]
  · -- the loop's records
    have yields : ∀ (x y : Value) (W : World), W.heap[w.heap.size + 1]? = some (.loop (rec .ready none)) → (Instr.yield (w.heap.size + 1) #[x, y]).run Tryd.prog W = .ok (.round (w.heap.size + 1) fn ((ps.zip #[x, y]).foldl (fun t (p, v) => t.setIfInBounds p v) a.tmps) assign body) W := by
      intro x y W h
      have := run_yield (P := Tryd.prog) (args := #[x, y]) h (by rw [hrec]; exact hps.symm)
      rw [hrec] at this
      exact this
    have round : ∀ (m : Nat) (W : World) (tmps : Array Value) (E : World → Exit → Act → World → Prop) (R : Ending → World → Prop), W.heap[w.heap.size + 1]? = some (.loop (rec .ready none)) → W.heap[w.heap.size]? = some (.deferred (some [])) → m ≤ W.heap.size → w.heap.size + 2 ≤ m →
        RoundB (w.heap.size + 1) w.heap.size (n - 2) assign body tmps W E →
        (∀ W₂, W₂.heap[w.heap.size + 1]? = some (.loop (rec .busy none)) → (∀ j, j < m → j ≠ w.heap.size + 1 → W₂.heap[j]? = W.heap[j]?) → W.heap.size ≤ W₂.heap.size → ∀ ex a₂ W₃, E W₂ ex a₂ W₃ → roundPost Tryd.prog (w.heap.size + 1) R ex a₂ W₃) →
        RoundIn Fence.wide (n - 2) Tryd.prog (w.heap.size + 1) fn tmps assign body W R := by
      intro m W tmps E R hl hd hm hm2 hr hE
      refine roundIn_of_wpIn trivial (Code.wpIn_mono ?_ hr)
      intro ex a₁ W₁ h
      cases ex with
      | normal =>
        obtain ⟨hbl, hbody⟩ := h
        have hl1 : W₁.heap[w.heap.size + 1]? = some (.loop (rec .ready none)) := (hbl.block _ (by omega)).trans hl
        refine ⟨W₁.putObj (w.heap.size + 1) (.loop (rec .busy none)), by have := run_beginRound (P := Tryd.prog) hl1 (by rw [hrec]); rw [this, hrec], Code.wpIn_mono ?_ (hbody _ (Same2.putL _ _ _ _) (by simp))⟩
        intro ex a₂ W₃ h3
        have hlt : w.heap.size + 1 < W₁.heap.size := by have := hbl.size; omega
        exact hE _ (World.putObj_heap_same hlt) (fun j hj h1 => (World.putObj_heap_other h1).trans (hbl.block j (by omega))) (by simpa using hbl.size) ex a₂ W₃ h3
      | _ => exact h
    refine (each1_in (n - 1) (by omega) (w.heap.size + 1) gs s hs (fun j => C j ∨ j = w.heap.size + 1)
      (fun m pre W => I m pre W ∧ W.heap[w.heap.size + 1]? = some (.loop (rec .ready none)) ∧ W.heap[w.heap.size]? = some (.deferred (some [])) ∧ w.heap.size + 2 ≤ m)
      (fun k W => Ix k W ∧ W.heap[w.heap.size + 1]? = some (.loop (rec .done (some .ret))) ∧ W.heap[w.heap.size]? = some (.deferred (some []))) ⟨?_, ?_, ?_⟩ W1 ?_ ?_ (hb.below hb1) ?_).mono ?_
    · rintro m pre W W' ⟨h1, h2, h3, h4⟩ hbl
      exact ⟨hI m pre W W' h1 (.of_below hbl), (hbl.block _ (Array.getElem?_eq_some_iff.1 h2).1).trans h2, (hbl.block _ (Array.getElem?_eq_some_iff.1 h3).1).trans h3, h4⟩
    · rintro m pre t d k W hd hp ⟨h1, h2, h3, h4⟩ hm
      refine ⟨fn, _, assign, body, yields _ _ W h2, round m W _ _ _ h2 h3 hm h4 (htok m pre t d k W hd hp h4 hm h1) ?_⟩
      intro W₂ g1 g2 g3 ex a₂ W₃ hE
      cases ex with
      | normal =>
        obtain ⟨hi, hz, hk⟩ := hE
        have hl3 : W₃.heap[w.heap.size + 1]? = some (.loop (rec .busy none)) := (hk _ (by omega) (fun h => by have := hC _ h; omega)).trans g1
        have hlt := (Array.getElem?_eq_some_iff.1 hl3).1
        refine ⟨_, _, run_endRound none hl3, rfl, ⟨hI _ _ _ _ hi (.putL _ _ _ _), ?_, ?_, h4⟩, ?_⟩
        · rw [World.putObj_heap_same hlt, hrec]; rfl
        · rw [World.putObj_heap_other (by omega), hk _ (by omega) (fun h => by have := hC _ h; omega), g2 _ (by omega) (by omega), h3]
        · refine ⟨by rw [World.putObj_size]; omega, fun j hj => ?_⟩
          rw [World.putObj_heap_other (fun h => hj.2 (.inr h)), hk j hj.1 (fun h => hj.2 (.inl h)), g2 j hj.1 (fun h => hj.2 (.inr h))]
      | _ => exact hE.elim
    · rintro m pre c k W ⟨h1, h2, h3, h4⟩ hm hc hx hy
      refine ⟨fn, _, assign, body, yields _ _ W h2, round m W _ _ _ h2 h3 hm h4 (hwrong m pre c k W h4 hm hc hx hy (by rintro rfl; simp [World.cell?, h2] at hx) (by rintro rfl; simp [World.cell?, h3] at hx) h1) ?_⟩
      intro W₂ g1 g2 g3 ex a₂ W₃ hE
      cases ex with
      | ret =>
        obtain ⟨hi, hz, hk⟩ := hE
        have hl3 : W₃.heap[w.heap.size + 1]? = some (.loop (rec .busy none)) := (hk _ (by omega) (fun h => by have := hC _ h; omega)).trans g1
        have hlt := (Array.getElem?_eq_some_iff.1 hl3).1
        refine ⟨_, _, run_endRound (some .ret) hl3, rfl, hIx _ _ _ hi (.putL _ _ _ _), ?_, ?_⟩
        · rw [World.putObj_heap_same hlt, hrec]; rfl
        · rw [World.putObj_heap_other (by omega), hk _ (by omega) (fun h => by have := hC _ h; omega), g2 _ (by omega) (by omega), h3]
      | _ => exact hE.elim
    · rintro j (h | rfl)
      · have := hC j h; omega
      · omega
    · rintro (h | h)
      · exact hgC h
      · have := hb.1; omega
    · intro m W' hm hbl
      refine ⟨hI m [] w W' (h0 m (by omega)) (.of_below (hb1.trans (hbl.mono hb1.size))), (hbl.block _ (by omega)).trans hL1, (hbl.block _ (by omega)).trans hK1, by omega⟩
    · rintro e W' ⟨⟨v, rfl⟩, ts, r, hl, (⟨rfl, m, hm, hi, hL, hD, _⟩ | ⟨k, rfl, hi, hL, hD⟩)⟩
      · refine ⟨_, _, run_endLoop hL (by rw [hrec]; exact fun h => by cases h), ?_⟩
        rw [show (rec .ready none).pending = none by rw [hrec]]
        exact hdone m ts _ hl (by omega) (hI _ _ _ _ hi (.putL _ _ _ _)) (by rw [World.putObj_heap_other (by omega)]; exact hD)
      · refine ⟨_, _, run_endLoop hL (by rw [hrec]; exact fun h => by cases h), ?_⟩
        rw [show (rec .done (some .ret)).pending = some .ret by rw [hrec]]
        exact wpIn_ret (hstop ts k _ hl (hIx _ _ _ hi (.putL _ _ _ _)) (by rw [World.putObj_heap_other (by omega)]; exact hD))
end Go.Proofs.YthhkpoobcnmdgaaDoor
/-
  Rows of tokens.
-/
namespace Go.Proofs.YthhkpoobcnmdgaaDoor
open Go.RowKit
set_option linter.unusedVariables false
set_option maxRecDepth 100000

/-- A token as it lies in memory. -/
structure TE where
  d : Nat
  t : ByteArray
  k : Nat
def TE.tk (e : TE) : Tk := ⟨e.d, M.bytes e.t, e.k⟩
def TE.v (e : TE) : Value := .agg #[.int .i64 e.d, .string e.t, .int .i64 e.k]
/-- The cells of a row. -/
def tcells : List TE → List Value
  | [] => []
  | e :: l => .int .i64 e.d :: .string e.t :: .int .i64 e.k :: tcells l
theorem tcells_app (l l' : List TE) : tcells (l ++ l') = tcells l ++ tcells l' := by
  induction l with
  | nil => rfl
  | cons e l ih => simp [tcells, ih]
theorem tcells_len (l : List TE) : (tcells l).length = l.length * 3 := by
  induction l with
  | nil => rfl
  | cons e l ih => simp only [tcells, List.length_cons, ih]; omega
theorem tcells_at {l : List TE} {i : Nat} {e : TE} (h : l[i]? = some e) : (tcells l)[3 * i]? = some (.int .i64 e.d) ∧ (tcells l)[3 * i + 1]? = some (.string e.t) ∧ (tcells l)[3 * i + 2]? = some (.int .i64 e.k) := by
  induction l generalizing i with
  | nil => simp at h
  | cons f l ih =>
    cases i with
    | zero => simp at h; subst h; exact ⟨rfl, rfl, rfl⟩
    | succ i =>
      have := ih (i := i) (by simpa using h)
      rw [show 3 * (i + 1) = 3 * i + 1 + 1 + 1 by omega]
      exact this
theorem tcells_one (l : List TE) : ∀ u ∈ tcells l, u.oneCell' = true := by
  induction l with
  | nil => intro u hu; cases hu
  | cons e l ih =>
    intro u hu
    rcases List.mem_cons.1 hu with rfl | hu
    · rfl
    · rcases List.mem_cons.1 hu with rfl | hu
      · rfl
      · rcases List.mem_cons.1 hu with rfl | hu
        · rfl
        · exact ih u hu

/-- A slice of tokens that can be read. -/
structure RdT (w : World) (A : Option Addr) (n c : Nat) (es : List TE) : Prop where
  len : es.length = n
  cell : ∀ i e, es[i]? = some e → ∃ g o, A = some ⟨g, o, none⟩ ∧ g < w.heap.size ∧ w.cell? ⟨g, o + i * 3, none⟩ = some (.int .i64 e.d) ∧ w.cell? ⟨g, o + i * 3 + 1, none⟩ = some (.string e.t) ∧ w.cell? ⟨g, o + i * 3 + 2, none⟩ = some (.int .i64 e.k)
theorem RdT.below {w w' : World} {A : Option Addr} {n c : Nat} {es : List TE} (h : RdT w A n c es) (hb : Below w.heap.size w w') : RdT w' A n c es := by
  refine ⟨h.len, fun i e hi => ?_⟩
  obtain ⟨g, o, hL, hg, h1, h2, h3⟩ := h.cell i e hi
  exact ⟨g, o, hL, Nat.lt_of_lt_of_le hg hb.size, (hb.cell (p := ⟨g, _, none⟩) hg).trans h1, (hb.cell (p := ⟨g, _, none⟩) hg).trans h2, (hb.cell (p := ⟨g, _, none⟩) hg).trans h3⟩
theorem RdT.drew {w : World} {A : Option Addr} {n c : Nat} {es : List TE} (h : RdT w A n c es) : RdT w.drew A n c es := ⟨h.len, h.cell⟩
theorem RdT.drewN {w : World} {A : Option Addr} {n c : Nat} {es : List TE} (h : RdT w A n c es) (m : Nat) : RdT (w.drewN m) A n c es := ⟨h.len, h.cell⟩

/-- A row of the call's own. -/
abbrev OwT (w : World) (base : Nat) (A : Option Addr) (n c : Nat) (es : List TE) : Prop := w.ownsRow base 43 3 (.slice A n c) n (tcells es)
theorem OwT.len {w : World} {base : Nat} {A : Option Addr} {n c : Nat} {es : List TE} (h : OwT w base A n c es) : es.length = n := by
  have := h.1
  rw [tcells_len] at this
  omega
theorem OwT.rd {w : World} {base : Nat} {A : Option Addr} {n c : Nat} {es : List TE} (h : OwT w base A n c es) : RdT w A n c es := by
  refine ⟨h.len, fun i e hi => ?_⟩
  have hl := h.len
  have hin : i < es.length := (List.getElem?_eq_some_iff.1 hi).1
  rcases h.2 with ⟨hv, hn⟩ | ⟨g, cap, cur, hv, hb, hh, hnc, hcm, hcs, ht⟩
  · omega
  · injection hv with h1 h2 h3
    subst h1 h3
    obtain ⟨h1, h2, h3⟩ := tcells_at hi
    have g1 := h.cells (g := g) rfl (3 * i) _ h1
    have g2 := h.cells (g := g) rfl (3 * i + 1) _ h2
    have g3 := h.cells (g := g) rfl (3 * i + 2) _ h3
    rw [Addr.add_lit] at g1 g2 g3
    refine ⟨g, 0, rfl, (Array.getElem?_eq_some_iff.1 hh).1, ?_, ?_, ?_⟩
    · rw [show 0 + i * 3 = 0 + 3 * i by omega]; exact g1
    · rw [show 0 + i * 3 + 1 = 0 + (3 * i + 1) by omega]; exact g2
    · rw [show 0 + i * 3 + 2 = 0 + (3 * i + 2) by omega]; exact g3
theorem OwT.cap {w : World} {base : Nat} {A : Option Addr} {n c : Nat} {es : List TE} (h : OwT w base A n c es) : n ≤ c := by
  rcases h.2 with ⟨hv, hn⟩ | ⟨g, cap, cur, hv, hb, hh, hnc, hcm, hcs, ht⟩
  · omega
  · injection hv with h1 h2 h3
    omega

/-- append of one token. -/
theorem app_tokIn (w : World) {F : Fence} {n0 : Nat} {ops : Array Oper} {rest : List Oper} {o : Oper} {a : Act} {Q : Exit → Act → World → Prop} (hgd : o.guard = none) (s x : Operand)
    (ho : o.op = .call { callee := .builtin .append, args := #[s, x], argTypes := #[26, 26] })
    (base n c : Nat) (A : Option Addr) (es : List TE) (hs : a.eval s = .slice A n c) (hown : OwT w base A n c es)
    (g : Nat) (e : TE) (hx : a.eval x = .slice (some ⟨g, 0, none⟩) 1 1) (hr : w.heap[g]? = some (.cells #[.int .i64 e.d, .string e.t, .int .i64 e.k] 43 (0, 0))) (hbd : n + 1 ≤ 8388608) (hbase : base ≤ w.heap.size)
    (h : ∀ A' c' w', OwT w' base A' (n + 1) c' (es ++ [e]) → w.grownBy w' (Value.slice A n c).ownBlock → wpListIn F n0 Tryd.prog ops Q rest (a.put o.dst (.slice A' (n + 1) c')) w') :
    wpListIn F n0 Tryd.prog ops Q (o :: rest) a w := by
  have hinf : (Tryd.prog.info? 43).map (fun i => (i.zero, i.size, i.bytes)) = some (some (.agg #[.int .i64 0, .string ⟨#[]⟩, .int .i64 0]), 3, 32) := by kernel_rfl
  obtain ⟨i0, hi, hz0, hz1, hz2⟩ := info_parts hinf
  refine wpListIn_append_own w hgd s x 26 ho base 43 i0 (.agg #[.int .i64 0, .string ⟨#[]⟩, .int .i64 0]) 3 32 Tryd.underlying26 hi hz0 hz1 hz2 rfl (by decide) _ n (tcells es) hs hown ⟨g, 0, none⟩ 1 1 (tcells [e]) hx rfl ?_ (tcells_one _) ?_ ?_ hbase ?_
  · intro j u hj
    rw [Addr.add_lit, cell_of_row _ _ _ _ _ _ hr]
    match j, hj with
    | 0, hj => simp [tcells] at hj; subst hj; rfl
    | 1, hj => simp [tcells] at hj; subst hj; rfl
    | 2, hj => simp [tcells] at hj; subst hj; rfl
  · unfold maxLen; omega
  · omega
  · intro v' w' h1 h2 h3
    rw [← tcells_app] at h1
    rcases h1.2 with ⟨rfl, h0⟩ | ⟨g', cap, cur, rfl, r⟩
    · omega
    · exact h _ _ w' h1 h2
end Go.Proofs.YthhkpoobcnmdgaaDoor
