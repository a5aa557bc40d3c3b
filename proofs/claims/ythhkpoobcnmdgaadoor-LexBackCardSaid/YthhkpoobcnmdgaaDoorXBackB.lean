import Derived.Test.YthhkpoobcnmdgaaDoorBZ1
import Derived.Test.YthhkpoobcnmdgaaDoorXRowsB
/-
  What stands between tokens; how long a token's bytes are.
-/
namespace Go.Proofs.YthhkpoobcnmdgaaDoor
open Go.RowKit
set_option linter.unusedVariables false

/-- What is laid ahead of a token. -/
def gapS : Nat → ByteArray
  | 0 => ⟨#[32]⟩
  | 1 => ⟨#[9, 9]⟩
  | 2 => ⟨#[13, 10, 32]⟩
  | 3 => ⟨#[32, 59, 32, 40, 110, 111, 32, 34, 32, 10]⟩
  | _ => ⟨#[59, 59, 10]⟩
theorem gap_ok (j : Nat) : Gap (M.bytes (gapS j)) ∧ (∀ d y, partL d (M.bytes (gapS j) ++ y) = true) ∧ (gapS j).size ≤ 10 := by
  unfold gapS
  split
  · refine ⟨fun y => ?_, fun d y => part_stop (.inr (.inr (.inr (.inr rfl)))), by decide⟩
    show skipL (32 :: y) false = 1 + skipL y false
    simp [skipL_f, blB]; omega
  · refine ⟨fun y => ?_, fun d y => part_stop (.inr (.inr (.inr (.inr rfl)))), by decide⟩
    show skipL (9 :: 9 :: y) false = 2 + skipL y false
    simp [skipL_f, blB]; omega
  · refine ⟨fun y => ?_, fun d y => part_stop (.inr (.inr (.inr (.inr rfl)))), by decide⟩
    show skipL (13 :: 10 :: 32 :: y) false = 3 + skipL y false
    simp [skipL_f, blB]; omega
  · refine ⟨fun y => ?_, fun d y => part_stop (.inr (.inr (.inr (.inr rfl)))), by decide⟩
    show skipL (32 :: 59 :: 32 :: 40 :: 110 :: 111 :: 32 :: 34 :: 32 :: 10 :: y) false = 10 + skipL y false
    simp [skipL_f, skipL_t, blB]; omega
  · refine ⟨fun y => ?_, fun d y => part_stop (.inr (.inr (.inr (.inl rfl)))), by decide⟩
    show skipL (59 :: 59 :: 10 :: y) false = 3 + skipL y false
    simp [skipL_f, skipL_t, blB]; omega

theorem textGL_len {f : Nat} {l : List Nat} {k : Nat} {out b : List Nat} {n : Nat} (h : textGL f l k out = some (b, n)) : b.length ≤ out.length + l.length := by
  induction f generalizing l k out with
  | zero => cases h
  | succ f ih =>
    rw [textGL] at h
    split at h
    · cases h
    · split at h
      · injection h with h; injection h with h1 h2; subst h1; omega
      · split at h
        · cases h
        · rename_i c
          obtain ⟨e1, e2, e3⟩ := item_app (r := []) c
          have := ih h
          simp only [List.length_append, List.length_drop, List.length_cons, List.length_nil] at this
          omega
theorem One.blen {l : List Nat} {d : Nat} {b : List Nat} {n : Nat} (h : One l d b n) : b.length ≤ l.length := by
  cases h with
  | opens h => simp
  | closes h => simp
  | num h => simp; omega
  | text h =>
    unfold textL at h
    split at h
    · have := textGL_len h
      simp at this
      omega
    · cases h
  | name h => simp; omega
  | sign h h0 => simp; omega
theorem TokL.blen {l : List Nat} {k : Nat} {ts : List Tk} {r : Option Nat} (h : TokL l k ts r) : ∀ t ∈ ts, t.l.length ≤ l.length := by
  induction h with
  | done => simp
  | none _ _ => simp
  | glued _ _ _ => simp
  | tok hl h1 _ _ ih =>
    intro t ht
    rcases List.mem_cons.1 ht with rfl | ht
    · exact h1.blen
    · have := ih t ht
      simp only [List.length_drop] at this
      omega
theorem laid_len (t : Tk) : (laid t).length ≤ 4 * t.l.length + 2 := by
  unfold laid
  split
  · simp
  · split
    · simp
    · split
      · have := q2_len t.l
        simp [quoB]; omega
      · omega
/-- What is known of a text's tokens. -/
theorem Lexes.all {s : ByteArray} {ts : List Tk} {r : Option Nat} (h : Lexes s ts r) : (∀ t ∈ ts, Good t ∧ t.l.length ≤ s.size ∧ t.k < s.size) ∧ ∀ i t u, ts[i]? = some t → ts[i + 1]? = some u → t.k < u.k := by
  have h1 : TokL _ _ ts r := h.list
  have hb : ∀ b ∈ (M.bytes s).drop (skipL (M.bytes s) false), b < 256 := fun b hb => by
    have hb := List.mem_of_mem_drop hb
    unfold M.bytes at hb
    obtain ⟨c, _, rfl⟩ := List.mem_map.1 hb
    exact c.toNat_lt
  have hs := skipL_le (M.bytes s) false
  rw [M.bytes_len] at hs
  refine ⟨fun t ht => ⟨(h1.good hb t ht).1, ?_, ?_⟩, h1.place.2.1⟩
  · have := h1.blen t ht
    rw [List.length_drop, M.bytes_len] at this
    omega
  · have := (h1.place.1 t ht).2
    rw [List.length_drop, M.bytes_len] at this
    omega
end Go.Proofs.YthhkpoobcnmdgaaDoor
