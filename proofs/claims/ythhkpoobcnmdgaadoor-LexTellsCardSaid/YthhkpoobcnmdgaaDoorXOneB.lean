import Derived.Test.YthhkpoobcnmdgaaDoorBZ1
import Derived.Test.YthhkpoobcnmdgaaDoorXTextR2B
/-
  litmusref05.One: the token that begins at a place, if what stands behind it ends it.
-/
namespace Go.Proofs.YthhkpoobcnmdgaaDoor
open Go.RowKit
set_option linter.unusedVariables false

/-- The token at the start, if what stands behind it ends it. -/
def okT (l : List Nat) : Option (Nat × List Nat × Nat) := match oneL l with
  | some (d, b, n) => if partL d (l.drop n) = true then some (d, b, n) else none
  | none => none
theorem ok_one {l : List Nat} {d : Nat} {b : List Nat} {n : Nat} (h : One l d b n) : okT l = if partL d (l.drop n) = true then some (d, b, n) else none := by
  unfold okT; rw [h.eq]
theorem ok_none {l : List Nat} (h : oneL l = none) : okT l = none := by unfold okT; rw [h]
theorem part_dig {d : Nat} {l : List Nat} (h0 : d ≠ 0) (h1 : d ≠ 1) (h : digB (hd l) = true) : partL d l = false := by
  cases e : partL d l with
  | false => rfl
  | true =>
    have := (stop_part e h0 h1).cases.1
    rw [h] at this; cases this
/-- How many bytes a number's digits are, with a - maybe. -/
def numB (l : List Nat) : Nat := dashL l + run digB (l.drop (dashL l))
theorem hd_run {p : Int → Bool} {l : List Nat} (h : 1 < run p l) : p (hd (l.drop 1)) = true := by
  cases l with
  | nil => simp [run] at h
  | cons b l =>
    rw [run] at h
    split at h
    · show p (hd l) = true
      cases l with
      | nil => simp [run] at h
      | cons c l =>
        rw [run] at h
        split at h
        · assumption
        · omega
    · omega
theorem ok_num {l : List Nat} (h : digB (hd (l.drop (dashL l))) = true) : okT l = if nuB (l.take (numB l)) = true ∧ partL 2 (l.drop (numB l)) = true then some (2, l.take (numB l), numB l) else none := by
  have hl : l ≠ [] := by intro e; rw [e] at h; exact absurd h (by decide)
  have hp := len_pos hl
  have hd1 := dash_len hl
  have hrun := run_pos h (by decide)
  have hrl := run_le digB (l.drop (dashL l))
  rw [List.length_drop] at hrl
  have hnl : numB l ≤ l.length := by unfold numB; omega
  have hnp : 0 < numB l := by unfold numB; omega
  have hlen : (l.take (numB l)).length = numB l := by rw [List.length_take]; omega
  have hdt : dashL (l.take (numB l)) = dashL l := by unfold dashL; rw [hd_take hnp]
  have hrt : run digB ((l.take (numB l)).drop (dashL l)) = run digB (l.drop (dashL l)) := by
    rw [drop_take', run_take]; unfold numB; omega
  have hht : hd ((l.take (numB l)).drop (dashL l)) = hd (l.drop (dashL l)) := by
    rw [drop_take', hd_take (by unfold numB; omega)]
  have hne : l.take (numB l) ≠ [] := by intro e; rw [e] at hlen; simp at hlen; omega
  have a0 : ¬ run digB (l.drop (dashL l)) = 0 := Nat.ne_of_gt hrun
  by_cases c : hd (l.drop (dashL l)) = 48
  · by_cases hd0 : dashL l = 0
    · have hn1 : numLen l = 1 := by rw [numLen_def, if_neg a0, if_pos c, if_pos hd0]
      have hn2 : numLen (l.take (numB l)) = 1 := by rw [numLen_def, hdt, hrt, if_neg a0, hht, if_pos c, if_pos hd0]
      have ho := One.num (l := l) (by omega)
      rw [hn1] at ho
      rw [ok_one ho]
      by_cases h1 : numB l = 1
      · have : nuB (l.take (numB l)) = true := nu_iff.2 ⟨hne, by rw [hn2, hlen, h1]⟩
        rw [this, h1]
        by_cases k : partL 2 (l.drop 1) = true
        · rw [if_pos k, if_pos ⟨rfl, k⟩]
        · rw [if_neg k, if_neg (fun g => k g.2)]
      · have h3 : 1 < run digB l := by
          unfold numB at h1 hnp
          rw [hd0, List.drop_zero] at h1 hnp
          omega
        have hb : partL 2 (l.drop 1) = false := part_dig (by decide) (by decide) (hd_run h3)
        have : nuB (l.take (numB l)) = false := by
          cases e : nuB (l.take (numB l)) with
          | false => rfl
          | true => have := (nu_iff.1 e).2; omega
        rw [hb, this]; rfl
    · have hd1' : dashL l = 1 := by have := dash_le1 l; omega
      have hn1 : numLen l = 0 := by rw [numLen_def, if_neg a0, if_pos c, if_neg hd0]
      have hn2 : numLen (l.take (numB l)) = 0 := by rw [numLen_def, hdt, hrt, if_neg a0, hht, if_pos c, if_neg hd0]
      have h45 : hd l = 45 := by
        by_cases e : hd l = 45
        · exact e
        · unfold dashL at hd1'; rw [if_neg e] at hd1'; cases hd1'
      rw [hd1'] at c
      have hs : signLen l = 1 := by
        rw [signLen_def, if_neg (by omega), if_pos (by omega)]
      have ho := One.sign (l := l) (by omega) hn1
      rw [hs] at ho
      rw [ok_one ho]
      have hb : partL 5 (l.drop 1) = false := part_dig (by decide) (by decide) (by rw [c]; rfl)
      have : nuB (l.take (numB l)) = false := by
        cases e : nuB (l.take (numB l)) with
        | false => rfl
        | true => have := (nu_iff.1 e).2; omega
      rw [hb, this]; rfl
  · have hn1 : numLen l = numB l := by rw [numLen_def, if_neg a0, if_neg c]; rfl
    have hn2 : numLen (l.take (numB l)) = numB l := by rw [numLen_def, hdt, hrt, if_neg a0, hht, if_neg c]; rfl
    have ho := One.num (l := l) (by omega)
    rw [hn1] at ho
    rw [ok_one ho]
    have : nuB (l.take (numB l)) = true := nu_iff.2 ⟨hne, by rw [hn2, hlen]⟩
    rw [this]
    by_cases k : partL 2 (l.drop (numB l)) = true
    · rw [if_pos k, if_pos ⟨rfl, k⟩]
    · rw [if_neg k, if_neg (fun g => k g.2)]
theorem numAt_list {s : ByteArray} {a r : Nat} (h : NumAt s a r) (hd0 : digB (hd (((M.bytes s).drop a).drop (dashL ((M.bytes s).drop a)))) = true) : r = numB ((M.bytes s).drop a) := by
  obtain ⟨k, h1, h2⟩ := h
  have hk := isEnd_run h1
  have hdd : dash s a = dashL ((M.bytes s).drop a) := by unfold dash dashL; rw [by_hd]
  rw [hdd] at hk h2
  have e : (M.bytes s).drop (a + dashL ((M.bytes s).drop a)) = ((M.bytes s).drop a).drop (dashL ((M.bytes s).drop a)) := by rw [List.drop_drop]
  rw [e] at hk
  have hrun := run_pos hd0 (by decide)
  rw [if_neg (by omega)] at h2
  unfold numB
  omega
theorem nameAt_list {s : ByteArray} {a r : Nat} (h : NameAt s a r) : r = nameLen ((M.bytes s).drop a) := by
  have b0 := by_hd s a
  rw [nameLen_def, ← b0]
  rcases h with ⟨h1, rfl⟩ | ⟨h1, h2, rfl⟩ | ⟨h1, h2, k, h3, h4⟩
  · rw [by_out h1]; rfl
  · rw [h2]; rfl
  · have hk := isEnd_run h3
    have e : (M.bytes s).drop (a + 1) = ((M.bytes s).drop a).drop 1 := by rw [List.drop_drop]
    rw [e] at hk
    have e2 : hd (((M.bytes s).drop a).drop (1 + run wordB (((M.bytes s).drop a).drop 1))) = by_ s k := by
      rw [List.drop_drop, by_hd]; congr 2; omega
    rw [if_pos h2, e2]
    by_cases h6 : by_ s k = 63
    · have : k < s.size := by
        by_cases h : k < s.size
        · exact h
        · rw [by_out (by omega)] at h6; cases h6
      rw [if_pos ⟨this, h6⟩] at h4
      rw [if_pos h6]; omega
    · rw [if_neg (fun h => h6 h.2)] at h4
      rw [if_neg h6]; omega
theorem ok_name {l : List Nat} (h : letB (hd l) = true) : okT l = if partL 4 (l.drop (nameLen l)) = true then some (4, l.take (nameLen l), nameLen l) else none := by
  have : 0 < nameLen l := by rw [nameLen_def, if_pos h]; split <;> omega
  exact ok_one (.name this)
theorem ok_sign {l : List Nat} (h0 : hd l ≠ 40) (h1 : hd l ≠ 41) (h2 : hd l ≠ 34) (h3 : digB (hd (l.drop (dashL l))) = false) (h4 : letB (hd l) = false) :
    okT l = if signLen l = 0 then none else if partL 5 (l.drop (signLen l)) = true then some (5, l.take (signLen l), signLen l) else none := by
  have hn := numLen_zero h3
  by_cases e : signLen l = 0
  · rw [if_pos e]; exact ok_none (one_none.2 ⟨h0, h1, hn, textL_not h2, nameLen_not h4, e⟩)
  · rw [if_neg e]; exact ok_one (.sign (by omega) hn)
theorem ok_text {l : List Nat} (h : hd l = 34) : okT l = match textL l with
    | some (b, n) => if partL 3 (l.drop n) = true then some (3, b, n) else none
    | none => none := by
  cases e : textL l with
  | some p => obtain ⟨b, n⟩ := p; exact ok_one (.text e)
  | none =>
    have hn := numLen_none (l := l) (by omega) (not_dig (by omega))
    refine ok_none (one_none.2 ⟨by omega, by omega, hn, e, nameLen_not (not_let (by omega)), ?_⟩)
    rw [signLen_def, if_neg (by omega), if_neg (by omega)]
theorem part_ref (s : ByteArray) (d k : Nat) (h0 : d ≠ 0) (h1 : d ≠ 1) (hk : k ≤ s.size) : partL d ((M.bytes s).drop k) = partR s k := by
  have h := part_eq (d : Int) s k hk
  rw [partB_list, M.bytes_tail] at h
  have e0 : ((d : Int) == 0) = false := by simpa using h0
  have e1 : ((d : Int) == 1) = false := by simp; omega
  rw [e0, e1, Bool.false_or, Bool.false_or] at h
  exact h
/-- What One answers. -/
def OneP (o : Option (Nat × List Nat × Nat)) (a : Nat) (e : Ending) : Prop := match o with
  | some (d, b, n) => 0 < n ∧ ∃ t, e = .returned (.tuple #[.agg #[.int .i64 d, .string t, .int .i64 a], .int .i64 n]) ∧ M.bytes t = b
  | none => ∃ v, e = .returned (.tuple #[v, .int .i64 0]) ∧ ∃ (d : Int) (t : ByteArray), v = .agg #[.int .i64 d, .string t, .int .i64 a]
end Go.Proofs.YthhkpoobcnmdgaaDoor
