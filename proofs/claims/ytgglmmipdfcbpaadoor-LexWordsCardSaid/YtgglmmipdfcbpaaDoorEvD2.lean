/- What a region's bits say: an operation whose bit is set has been listed before. -/
import Derived.Test.YtgglmmipdfcbpaaDoorEvD1
import Derived.OrdersIn
namespace Go.Ev
variable {ops : Array Oper}

/-- The bits that an operation adds up. -/
def edgeBits (acc : Array Nat) (o : Oper) : Nat := o.after.foldl (fun s e => if Region.binds .any e then s ||| 2 ^ e.on ||| acc.getD e.on 0 else s) 0
theorem bits_fold (acc : Array Nat) (j : Nat) : ∀ (l : List Edge) (s : Nat), (l.foldl (fun s e => if Region.binds .any e then s ||| 2 ^ e.on ||| acc.getD e.on 0 else s) s).testBit j = true →
    s.testBit j = true ∨ ∃ e ∈ l, Region.binds .any e = true ∧ (j = e.on ∨ (acc.getD e.on 0).testBit j = true) := by
  intro l
  induction l with
  | nil => intro s h; exact .inl h
  | cons e l ih =>
    intro s h
    rcases ih _ h with h | ⟨e', h1, h2⟩
    · dsimp only at h
      by_cases hb : Region.binds .any e = true
      · rw [if_pos hb, Nat.testBit_or, Nat.testBit_or, Nat.testBit_two_pow] at h
        simp only [Bool.or_eq_true, decide_eq_true_eq] at h
        rcases h with (h | h) | h
        · exact .inl h
        · exact .inr ⟨e, List.mem_cons_self, hb, .inl h.symm⟩
        · exact .inr ⟨e, List.mem_cons_self, hb, .inr h⟩
      · rw [if_neg hb] at h
        exact .inl h
    · exact .inr ⟨e', List.mem_cons_of_mem _ h1, h2⟩
theorem edgeBits_some {acc : Array Nat} {o : Oper} {j : Nat} (h : (edgeBits acc o).testBit j = true) : ∃ e ∈ o.after, Region.binds .any e = true ∧ (j = e.on ∨ (acc.getD e.on 0).testBit j = true) := by
  unfold edgeBits at h
  rw [← Array.foldl_toList] at h
  rcases bits_fold acc j _ _ h with h | ⟨e, h1, h2⟩
  · simp at h
  · exact ⟨e, Array.mem_toList_iff.1 h1, h2⟩
theorem push_fold : ∀ (l : List Oper) (acc : Array Nat), let res := l.foldl (fun acc o => acc.push (edgeBits acc o)) acc
    (∀ k, k < acc.size → res[k]? = acc[k]?) ∧ res.size = acc.size + l.length ∧
      ∀ (i : Nat) o, l[i]? = some o → ∃ acc' : Array Nat, acc'.size = acc.size + i ∧ (∀ k, k < acc'.size → res[k]? = acc'[k]?) ∧ res[acc.size + i]? = some (edgeBits acc' o) := by
  intro l
  induction l with
  | nil => intro acc; exact ⟨fun _ _ => rfl, rfl, fun i o h => by simp at h⟩
  | cons o l ih =>
    intro acc
    obtain ⟨h1, h2, h3⟩ := ih (acc.push (edgeBits acc o))
    have hs : (acc.push (edgeBits acc o)).size = acc.size + 1 := by simp
    refine ⟨fun k hk => ?_, ?_, fun i o' hi => ?_⟩
    · show (l.foldl _ (acc.push (edgeBits acc o)))[k]? = _
      rw [h1 k (by omega), Array.getElem?_push, if_neg (by omega)]
    · show (l.foldl _ (acc.push (edgeBits acc o))).size = _
      rw [h2, hs, List.length_cons]; omega
    · cases i with
      | zero =>
        cases hi
        refine ⟨acc, by simp, fun k hk => ?_, ?_⟩
        · show (l.foldl _ (acc.push (edgeBits acc o)))[k]? = _
          rw [h1 k (by omega), Array.getElem?_push, if_neg (by omega)]
        · show (l.foldl _ (acc.push (edgeBits acc o)))[acc.size + 0]? = _
          rw [h1 _ (by omega)]
          simp
      | succ i =>
        obtain ⟨acc', h4, h5, h6⟩ := h3 i o' hi
        refine ⟨acc', by omega, h5, ?_⟩
        show (l.foldl _ (acc.push (edgeBits acc o)))[acc.size + (i + 1)]? = _
        rw [show acc.size + (i + 1) = (acc.push (edgeBits acc o)).size + i from by omega]
        exact h6
theorem before_eq : Region.before ops = ops.toList.foldl (fun acc o => acc.push (edgeBits acc o)) #[] := by
  unfold Region.before
  rw [← Array.foldl_toList]
  rfl
theorem before_size : (Region.before ops).size = ops.size := by
  rw [before_eq, (push_fold ops.toList #[]).2.1]; simp
theorem before_bits {i j : Nat} (h : ((Region.before ops).getD i 0).testBit j = true) :
    ∃ o, ops[i]? = some o ∧ ∃ e ∈ o.after, Region.binds .any e = true ∧ (j = e.on ∨ (e.on < i ∧ ((Region.before ops).getD e.on 0).testBit j = true)) := by
  by_cases hi : i < ops.size
  · obtain ⟨o, ho⟩ : ∃ o, ops[i]? = some o := ⟨ops[i], by simp [hi]⟩
    obtain ⟨acc', h1, h2, h3⟩ := (push_fold ops.toList #[]).2.2 i o (by simpa using ho)
    rw [← before_eq] at h2 h3
    have h1 : acc'.size = i := by simpa using h1
    have h3 : (Region.before ops)[i]? = some (edgeBits acc' o) := by simpa using h3
    rw [Array.getD_eq_getD_getElem?, h3] at h
    obtain ⟨e, h4, h5, h6⟩ := edgeBits_some h
    refine ⟨o, ho, e, h4, h5, ?_⟩
    rcases h6 with h6 | h6
    · exact .inl h6
    · by_cases he : e.on < acc'.size
      · refine .inr ⟨h1 ▸ he, ?_⟩
        rw [Array.getD_eq_getD_getElem?, h2 _ he, ← Array.getD_eq_getD_getElem?]
        exact h6
      · rw [Array.getD_eq_getD_getElem?, Array.getElem?_eq_none (by omega)] at h6
        simp at h6
  · rw [Array.getD_eq_getD_getElem?, Array.getElem?_eq_none (by rw [before_size]; omega)] at h
    simp at h
/-- What is listed is listed with all that must come before. -/
def Closed (ops : Array Oper) (L : Nat → Prop) : Prop := ∀ i o, L i → ops[i]? = some o → ∀ e ∈ o.after, Region.binds .any e = true → L e.on
theorem Closed.bits {L : Nat → Prop} (hc : Closed ops L) {j : Nat} : ∀ (i : Nat), L i → ((Region.before ops).getD i 0).testBit j = true → L j := by
  intro i
  induction i using Nat.strongRecOn with
  | ind i ih =>
    intro hL hb
    obtain ⟨o, ho, e, h1, h2, h3⟩ := before_bits hb
    have he := hc i o hL ho e h1 h2
    rcases h3 with rfl | ⟨h3, h4⟩
    · exact he
    · exact ih _ h3 he h4
/-- What is ready has all its bits listed. -/
theorem ready_bits {listed : Array Bool} (hc : Closed ops fun i => listed.getD i false = true) {i j : Nat} (hi : i ∈ Region.ready .any ops listed) (hb : ((Region.before ops).getD i 0).testBit j = true) : listed.getD j false = true := by
  obtain ⟨_, o, ho, h1⟩ := mem_ready.1 hi
  obtain ⟨o', ho', e, h2, h3, h4⟩ := before_bits hb
  rw [ho] at ho'; cases ho'
  have he := h1 e h2 h3
  rcases h4 with rfl | ⟨h4, h5⟩
  · exact he
  · exact hc.bits e.on he h5
theorem ready_closed {listed : Array Bool} (hs : listed.size = ops.size) (hc : Closed ops fun i => listed.getD i false = true) {i : Nat} (hi : i ∈ Region.ready .any ops listed) :
    Closed ops fun j => (listed.setIfInBounds i true).getD j false = true := by
  obtain ⟨h0, o, ho, h1⟩ := mem_ready.1 hi
  have hget : ∀ j, (listed.setIfInBounds i true).getD j false = true ↔ (j = i ∨ listed.getD j false = true) := by
    intro j
    have hil : i < listed.size := by
      rw [hs]
      by_cases h : i < ops.size
      · exact h
      · rw [Array.getElem?_eq_none (by omega)] at ho; cases ho
    simp only [Array.getD_eq_getD_getElem?, Array.getElem?_setIfInBounds]
    by_cases e : i = j
    · subst e; simp [hil]
    · rw [if_neg e]
      constructor
      · intro h; exact .inr h
      · rintro (h | h)
        · exact absurd h.symm e
        · exact h
  intro j o' hj ho' e he hb
  rw [hget] at hj ⊢
  rcases hj with rfl | hj
  · rw [ho] at ho'; cases ho'
    exact .inr (h1 e he hb)
  · exact .inr (hc j o' hj ho' e he hb)
end Go.Ev
