/-
  Numbers: lex.Number, litmusref05.Number.
-/
import Derived.Test.YtgglmmipdfcbpaaDoorXNumR
namespace Go.Proofs.YtgglmmipdfcbpaaDoor
open Go.RowKit
set_option linter.unusedVariables false

theorem NumR.only {s : ByteArray} {r r' : Nat} (h : NumR s r) (h' : NumR s r') : r = r' := by
  obtain ⟨k, h1, h2⟩ := h
  obtain ⟨k', h3, h4⟩ := h'
  have := h1.uniq h3
  subst this
  rw [h2, h4]
theorem NumAt.only {s : ByteArray} {a r r' : Nat} (h : NumAt s a r) (h' : NumAt s a r') : r = r' := by
  obtain ⟨k, h1, h2⟩ := h
  obtain ⟨k', h3, h4⟩ := h'
  have := h1.uniq h3
  subst this
  rw [h2, h4]
theorem dash_cases (s : ByteArray) (a : Nat) : (by_ s a = 45 ∧ dash s a = 1) ∨ (by_ s a ≠ 45 ∧ dash s a = 0) := by
  unfold dash
  by_cases h : by_ s a = 45
  · exact .inl ⟨h, if_pos h⟩
  · exact .inr ⟨h, if_neg h⟩
/-- Is a text a number? -/
def isNum (s : ByteArray) : Prop := 0 < s.size ∧ NumR s s.size
/-- The same, as the document's answer tells it. -/
theorem isNum_iff {s : ByteArray} : isNum s ↔ 0 < s.size ∧ NumAt s 0 s.size ∧ (if by_ s 0 = 45 then by_ s 1 ≠ 48 else s.size = 1 ∨ by_ s 0 ≠ 48) := by
  unfold isNum NumR NumAt
  rw [Nat.zero_add]
  rcases dash_cases s 0 with ⟨ha, hd⟩ | ⟨ha, hd⟩
  · rw [hd, if_pos ha]
    constructor
    · rintro ⟨h0, k, h1, h2⟩
      by_cases e : k = 1
      · rw [if_pos e] at h2; omega
      · rw [if_neg e] at h2
        by_cases e2 : by_ s 1 = 48
        · rw [if_pos e2, if_neg (by decide)] at h2; omega
        · rw [if_neg e2] at h2
          exact ⟨h0, ⟨k, h1, by rw [if_neg e]; omega⟩, e2⟩
    · rintro ⟨h0, ⟨k, h1, h2⟩, h3⟩
      refine ⟨h0, k, h1, ?_⟩
      by_cases e : k = 1
      · rw [if_pos e] at h2; omega
      · rw [if_neg e] at h2
        rw [if_neg e, if_neg h3]; omega
  · rw [hd, if_neg ha]
    constructor
    · rintro ⟨h0, k, h1, h2⟩
      have hk := h1.2.1
      by_cases e : k = 0
      · rw [if_pos e] at h2; omega
      · rw [if_neg e] at h2
        by_cases e2 : by_ s 0 = 48
        · rw [if_pos e2, if_pos rfl] at h2
          exact ⟨h0, ⟨k, h1, by rw [if_neg e]; omega⟩, .inl h2⟩
        · rw [if_neg e2] at h2
          exact ⟨h0, ⟨k, h1, by rw [if_neg e]; omega⟩, .inr e2⟩
    · rintro ⟨h0, ⟨k, h1, h2⟩, h3⟩
      refine ⟨h0, k, h1, ?_⟩
      by_cases e : k = 0
      · rw [if_pos e] at h2; omega
      · rw [if_neg e] at h2
        rw [if_neg e]
        by_cases e2 : by_ s 0 = 48
        · rw [if_pos e2, if_pos rfl]
          rcases h3 with h3 | h3
          · exact h3
          · exact absurd e2 h3
        · rw [if_neg e2]; omega
theorem numberLong_c (s : ByteArray) (w : World) (hs : s.size ≤ 1048576) (hpos : 0 < s.size) : Calls Tryd.prog 31 #[.string s] w fun e w' => ∃ r : Nat, e = .returned (.int .i64 r) ∧ NumR s r ∧ w = w' := by
  cases q : (((s[0].toNat : Nat) : Int) == 45) with
  | true => exact numberLong_1 s w hs hpos q (by unfold dash; rw [by_at hpos, if_pos (eq_of_beq q)]; exact rfl)
  | false => exact numberLong_0 s w hs hpos q (by unfold dash; rw [by_at hpos, if_neg (fun e => by rw [e] at q; simp at q)]; exact rfl)
theorem numL_c (s : ByteArray) (w : World) (hs : s.size ≤ 1048576) : Calls Tryd.prog 18 #[.string s] w fun e w' => (∃ b : Bool, e = .returned (.bool b) ∧ (b = true ↔ isNum s)) ∧ w = w' := by
  by_cases h0 : s.size = 0
  · have he : s.toList.isEmpty = true := by rw [toList_empty]; simp [h0]
    go_enter Tryd.func18, Tryd.ntmps18
    go_wp2
    go_ret
    exact ⟨⟨_, rfl, by simp [isNum, h0]⟩, rfl⟩
  · have he : s.toList.isEmpty = false := by rw [toList_empty]; simp [h0]
    go_enter Tryd.func18, Tryd.ntmps18
    go_wp2_with (go_at_call 31; refine (numberLong_c s _ hs (by omega)).mono ?_; rintro _ _ ⟨r, rfl, hr, rfl⟩; have HR := Lib.hid hr; clear hr)
    go_ret
    refine ⟨⟨_, rfl, ?_⟩, rfl⟩
    rw [beq_iff_eq]
    constructor
    · intro e
      exact ⟨by omega, (show r = s.size by omega) ▸ HR.out⟩
    · intro e
      rw [e.2.only HR.out]
theorem of_bne {r n : Nat} (h : ((r : Int) != (n : Int)) = true) : r ≠ n := fun e => by subst e; simp at h
theorem of_beqf {r n : Nat} (h : ((r : Int) != (n : Int)) = false) : r = n := by
  have h1 : (r : Int) = (n : Int) := by simpa using h
  omega
theorem numN_c (s : ByteArray) (w : World) (hs : s.size ≤ 1048576) : Calls Tryd.prog 19 #[.string s] w fun e w' => (∃ b : Bool, e = .returned (.bool b) ∧ (b = true ↔ isNum s)) ∧ w = w' := by
  by_cases h0 : s.size = 0
  · have he : s.toList.isEmpty = true := by rw [toList_empty]; simp [h0]
    go_enter Tryd.func19, Tryd.ntmps19
    go_wp2
    go_ret
    exact ⟨⟨_, rfl, by simp [isNum, h0]⟩, rfl⟩
  · have he : s.toList.isEmpty = false := by rw [toList_empty]; simp [h0]
    have hpos : 0 < s.size := by omega
    have hb := by_at hpos
    have HB := Lib.hid hb
    clear hb
    cases q : (((s[0].toNat : Nat) : Int) == 45) with
    | true =>
      have hq := eq_of_beq q
      have HQ := Lib.hid (show by_ s 0 = 45 by rw [HB.out]; exact hq)
      clear hq
      by_cases h2 : 1 < s.size
      · have hc := by_at h2
        have HC := Lib.hid hc
        clear hc
        go_enter Tryd.func19, Tryd.ntmps19
        go_wp2_with (go_at_call 32; refine (numR_c s 0 _ hs (by omega)).mono ?_; rintro _ _ ⟨r, rfl, hr, rfl⟩; have HR := Lib.hid hr; clear hr)
        all_goals
          go_ret
          refine ⟨⟨_, rfl, ?_⟩, rfl⟩
          rw [isNum_iff, if_pos HQ.out, HC.out]
        · constructor
          · intro h; cases h
          · rintro ⟨_, h1, _⟩
            first | exact absurd (HR.out.only h1) (of_bne (by assumption)) | (have := h1.only HR.out; omega)
        · have hrs : r = s.size := of_beqf (by assumption)
          have HN : NumAt s 0 s.size := hrs ▸ HR.out
          constructor
          · intro h
            exact ⟨hpos, HN, by simpa using h⟩
          · rintro ⟨_, _, h⟩
            simpa using h
      · have hz : ∀ r, NumAt s 0 r → r = 0 := by
          rintro r ⟨k, h3, h4⟩
          have hd : dash s 0 = 1 := by unfold dash; rw [HQ.out, if_pos rfl]
          rw [hd] at h3 h4
          have := h3.1
          have := h3.2.1
          rw [h4, if_pos (by omega)]
        have HZ := Lib.hid hz
        clear hz
        go_enter Tryd.func19, Tryd.ntmps19
        go_wp2_with (go_at_call 32; refine (numR_c s 0 _ hs (by omega)).mono ?_; rintro _ _ ⟨r, rfl, hr, rfl⟩; obtain rfl := HZ.out r hr; have HR := Lib.hid hr; clear hr)
        all_goals
          go_ret
          refine ⟨⟨_, rfl, ?_⟩, rfl⟩
          rw [isNum_iff]
          constructor
          · intro h; cases h
          · rintro ⟨_, h1, _⟩
            first | exact absurd (HR.out.only h1) (of_bne (by assumption)) | (have := h1.only HR.out; omega)
    | false =>
      have HQ := Lib.hid (show by_ s 0 ≠ 45 by rw [HB.out]; intro h; rw [h] at q; simp at q)
      cases tl : (s.toList == [48]) with
      | true =>
        have h1 : s.size = 1 := by
          have := eq_of_beq tl
          rw [ByteArray.toList_eq] at this
          show s.data.toList.length = 1
          rw [this]; rfl
        have H1 := Lib.hid h1
        clear h1
        go_enter Tryd.func19, Tryd.ntmps19
        go_wp2_with (go_at_call 32; refine (numR_c s 0 _ hs (by omega)).mono ?_; rintro _ _ ⟨r, rfl, hr, rfl⟩; have HR := Lib.hid hr; clear hr)
        all_goals
          go_ret
          refine ⟨⟨_, rfl, ?_⟩, rfl⟩
          rw [isNum_iff, if_neg HQ.out]
        · constructor
          · intro h; cases h
          · rintro ⟨_, h1, _⟩
            first | exact absurd (HR.out.only h1) (of_bne (by assumption)) | (have := h1.only HR.out; omega)
        · have hrs : r = s.size := of_beqf (by assumption)
          have HN : NumAt s 0 s.size := hrs ▸ HR.out
          exact ⟨fun _ => ⟨hpos, HN, .inl H1.out⟩, fun _ => rfl⟩
      | false =>
        have h1 : by_ s 0 = 48 → s.size ≠ 1 := by
          intro h e
          rw [HB.out] at h
          obtain ⟨⟨l⟩⟩ := s
          match l, e with
          | [x], _ =>
            have hx : x.toNat = 48 := by
              have : (((⟨⟨[x]⟩⟩ : ByteArray)[0]).toNat : Int) = 48 := h
              exact Int.ofNat.inj this
            have : x = 48 := by apply UInt8.toNat_inj.1; rw [hx]; rfl
            subst this
            rw [ByteArray.toList_eq] at tl
            cases tl
        have H1 := Lib.hid h1
        clear h1
        go_enter Tryd.func19, Tryd.ntmps19
        go_wp2_with (go_at_call 32; refine (numR_c s 0 _ hs (by omega)).mono ?_; rintro _ _ ⟨r, rfl, hr, rfl⟩; have HR := Lib.hid hr; clear hr)
        all_goals
          go_ret
          refine ⟨⟨_, rfl, ?_⟩, rfl⟩
          rw [isNum_iff, if_neg HQ.out]
        · constructor
          · intro h; cases h
          · rintro ⟨_, h1, _⟩
            first | exact absurd (HR.out.only h1) (of_bne (by assumption)) | (have := h1.only HR.out; omega)
        · have hrs : r = s.size := of_beqf (by assumption)
          have HN : NumAt s 0 s.size := hrs ▸ HR.out
          have h1 := H1.out
          rw [HB.out] at h1 ⊢
          constructor
          · intro h
            exact ⟨hpos, HN, .inr (by simpa using h)⟩
          · rintro ⟨_, _, h⟩
            rcases h with h | h
            · simp only [bne_iff_ne, ne_eq]
              exact fun e => h1 e h
            · simpa using h
end Go.Proofs.YtgglmmipdfcbpaaDoor
