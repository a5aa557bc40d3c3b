/- Memory: what the evaluator does to its own goes with what the machine does to its own. -/
import Derived.Test.YtgglmmipdfcbpaaDoorEvR
namespace Go.Ev
variable {E : Env} {β β' : Bond} {s s' : AS} {w w' : World}

def upd (β : Bond) (i : Nat) (x : Nat × Nat × Gr) : Bond := fun j => if j = i then some x else β j
theorem upd_eq (β : Bond) (i : Nat) (x : Nat × Nat × Gr) : upd β i x i = some x := by simp [upd]
theorem upd_ne (β : Bond) {i j : Nat} (x : Nat × Nat × Gr) (h : j ≠ i) : upd β i x j = β j := by simp [upd, h]
theorem Ext.upd {i : Nat} {x : Nat × Nat × Gr} (h : β i = none) : Ext β (upd β i x) := fun j y e => by
  by_cases hj : j = i
  · subst hj; rw [h] at e; cases e
  · rw [upd_ne β x hj]; exact e
theorem Sim.unset (h : Sim E β s w) {i : Nat} (hi : s.next ≤ i) : β i = none := by
  cases e : β i with
  | none => rfl
  | some x => obtain ⟨c, sh, g⟩ := x; have := (h.lt i c sh g e).1; omega

/-- The same world with one block more. -/
def push (w : World) (o : Obj) : World := { w with heap := w.heap.push o }
theorem push_old (w : World) (o : Obj) {c : Nat} (h : c < w.heap.size) : (push w o).heap[c]? = w.heap[c]? := by
  simp [push, Array.getElem?_push, Nat.ne_of_lt h]
theorem push_new (w : World) (o : Obj) : (push w o).heap[w.heap.size]? = some o := by simp [push]
theorem push_size (w : World) (o : Obj) : (push w o).heap.size = w.heap.size + 1 := by simp [push]
/-- The same world with another block at a place. -/
def at' (w : World) (c : Nat) (o : Obj) : World := { w with heap := w.heap.setIfInBounds c o }
theorem at_eq {w : World} {c : Nat} (o : Obj) (h : c < w.heap.size) : (at' w c o).heap[c]? = some o := by simp [at', h]
theorem at_ne (w : World) {c d : Nat} (o : Obj) (h : c ≠ d) : (at' w c o).heap[d]? = w.heap[d]? := by simp [at', h]
theorem at_size (w : World) (c : Nat) (o : Obj) : (at' w c o).heap.size = w.heap.size := by simp [at']

/-- A block that has no fellow in the program's memory. -/
theorem Post.hidden (h : Sim E β s w) (b : Blk) : Post E β s w β (s.alloc b) w := by
  have hh : ∀ i, i < s.next → (s.alloc b).heap.get i = s.heap.get i := fun i hi => Tr.get_set_ne _ _ (by omega)
  refine ⟨.refl β, fun i x e n => (by rw [n] at e; cases e), ⟨?_, ?_, ?_, ?_, ?_, h.glob, h.laid⟩, Nat.le_refl _, fun _ _ _ => rfl, fun i c sh g e n => (by rw [n] at e; cases e), .refl _⟩
  · intro i c sh g e
    have := h.lt i c sh g e
    exact ⟨Nat.lt_succ_of_lt this.1, this.2⟩
  · intro i c sh g b' e hb'
    rw [hh i (h.lt i c sh g e).1] at hb'
    exact h.blk i c sh g b' e hb'
  · intro i j c sh g sh' g' e e' hne ai aj
    have hi := (h.lt i c sh g e).1
    have hj := (h.lt j c sh' g' e').1
    rw [hh i hi, hh j hj] at *
    exact h.inj i j c sh g sh' g' e e' hne ai aj
  · intro i x f rel n e hf
    obtain ⟨c, sh, g⟩ := x
    rw [hh i (h.lt i c sh g e).1] at hf
    obtain ⟨h1, h2, ids, h3, h4, h5⟩ := h.fam i _ f rel n e hf
    exact ⟨h1, h2, ids, by rw [hh f (Nat.lt_trans h1 (h.lt i c sh g e).1)]; exact h3, h4, h5⟩
  · exact Nat.le_succ_of_le h.ng

/-- A block that stands for one that the machine has just made. -/
theorem Post.made (h : Sim E β s w) {b : Blk} {o : Obj} {g : Gr} (ho : BR E (upd β s.next (w.heap.size, 0, g)) 0 g b o)
    (hb : ∀ f rel n, famOf (some b) = some (f, rel, n) → f < s.next ∧ β f = none ∧ ∃ ids, s.heap.get f = some (.fam ids) ∧ (s.next, rel + n) ∈ ids ∧ Sorted ids) :
    Post E β s w (upd β s.next (w.heap.size, 0, g)) (s.alloc b) (push w o) := by
  have hn := h.unset (Nat.le_refl s.next)
  have he : Ext β (upd β s.next (w.heap.size, 0, g)) := .upd hn
  have hh : ∀ i, i < s.next → (s.alloc b).heap.get i = s.heap.get i := fun i hi => Tr.get_set_ne _ _ (by omega)
  have h0 : (s.alloc b).heap.get s.next = some b := Tr.get_set_eq _ _ _
  have old : ∀ i c sh g', upd β s.next (w.heap.size, 0, g) i = some (c, sh, g') → (i = s.next ∧ c = w.heap.size ∧ sh = 0 ∧ g' = g) ∨ (β i = some (c, sh, g') ∧ i < s.next ∧ c < w.heap.size) := by
    intro i c sh g' e
    by_cases hi : i = s.next
    · subst hi; rw [upd_eq] at e; cases e; exact .inl ⟨rfl, rfl, rfl, rfl⟩
    · rw [upd_ne β _ hi] at e; exact .inr ⟨e, h.lt i c sh g' e⟩
  refine ⟨he, fun i x e n => ?_, ⟨?_, ?_, ?_, ?_, ?_, ?_, ?_⟩, by rw [push_size]; omega, fun c hc _ => push_old w o hc, fun i c sh g' e n => ?_, ⟨rfl, rfl, rfl⟩⟩
  · obtain ⟨c, sh, g'⟩ := x
    rcases old i c sh g' e with ⟨rfl, _⟩ | ⟨e', _⟩
    · exact Nat.le_refl _
    · rw [n] at e'; cases e'
  · intro i c sh g' e
    rw [push_size]
    show i < s.next + 1 ∧ _
    rcases old i c sh g' e with ⟨rfl, rfl, _⟩ | ⟨_, h1, h2⟩ <;> omega
  · intro i c sh g' b' e hb'
    rcases old i c sh g' e with ⟨rfl, rfl, rfl, rfl⟩ | ⟨e', h1, h2⟩
    · rw [h0] at hb'; cases hb'
      exact ⟨o, push_new w o, ho⟩
    · rw [hh i h1] at hb'
      obtain ⟨o', ho', r⟩ := h.blk i c sh g' b' e' hb'
      exact ⟨o', by rw [push_old w o h2]; exact ho', r.ext he⟩
  · intro i j c sh g1 sh' g2 e e' hne ai aj
    rcases old i c sh g1 e with ⟨rfl, hc1, _⟩ | ⟨e1, h1, h2⟩ <;> rcases old j c sh' g2 e' with ⟨rfl, hc, _⟩ | ⟨e2, h3, h4⟩
    · exact absurd rfl hne
    · omega
    · omega
    · rw [hh i h1] at *; rw [hh j h3] at *
      exact h.inj i j c sh g1 sh' g2 e1 e2 hne ai aj
  · intro i x f rel n e hf
    obtain ⟨c, sh, g'⟩ := x
    rcases old i c sh g' e with ⟨rfl, rfl, _⟩ | ⟨e', h1, h2⟩
    · rw [h0] at hf
      obtain ⟨h1, h2, ids, h3, h4, h5⟩ := hb f rel n hf
      exact ⟨h1, by rw [upd_ne β _ (by omega)]; exact h2, ids, by rw [hh f h1]; exact h3, h4, h5⟩
    · rw [hh i h1] at hf
      obtain ⟨h1', h2', ids, h3, h4, h5⟩ := h.fam i _ f rel n e' hf
      exact ⟨h1', by rw [upd_ne β _ (by omega)]; exact h2', ids, by rw [hh f (Nat.lt_trans h1' h1)]; exact h3, h4, h5⟩
  · exact Nat.le_succ_of_le h.ng
  · intro g' hg' hl
    have := h.ng
    rw [upd_ne β _ (by omega)]
    exact h.glob g' hg' hl
  · intro d hd
    obtain ⟨⟨o', h1, h2⟩, h3⟩ := h.laid d hd
    have hl : d < w.heap.size := (Array.getElem?_eq_some_iff.1 h1).1
    refine ⟨⟨o', by rw [push_old w o hl]; exact h1, h2⟩, fun i x e => ?_⟩
    obtain ⟨c, sh, g'⟩ := x
    rcases old i c sh g' e with ⟨_, rfl, _⟩ | ⟨e', _⟩
    · show w.heap.size ≠ d
      omega
    · exact h3 i _ e'
  · rcases old i c sh g' e with ⟨rfl, rfl, _⟩ | ⟨e', _⟩
    · exact .inl (Nat.le_refl _)
    · rw [n] at e'; cases e'

/-- A block is written on both sides; no other one that is alive lies at that place. -/
theorem Post.wrote (h : Sim E β s w) {i c sh : Nat} {g : Gr} {b : Blk} {o : Obj} (hi : β i = some (c, sh, g)) (ho : BR E β sh g b o)
    (hu : ∀ j sh' g', j ≠ i → β j = some (c, sh', g') → alive (s.heap.get j) = false)
    (hb : famOf (some b) = famOf (s.heap.get i)) (ha : ∀ ids, s.heap.get i ≠ some (.fam ids)) : Post E β s w β (s.put i b) (at' w c o) := by
  have hl := h.lt i c sh g hi
  have hh : ∀ j, j ≠ i → (s.put i b).heap.get j = s.heap.get j := fun j hj => Tr.get_set_ne _ _ (Ne.symm hj)
  have h0 : (s.put i b).heap.get i = some b := Tr.get_set_eq _ _ _
  have hfam : ∀ j, famOf ((s.put i b).heap.get j) = famOf (s.heap.get j) := fun j => by
    by_cases hj : j = i
    · subst hj; rw [h0, hb]
    · rw [hh j hj]
  refine ⟨.refl β, fun i x e n => (by rw [n] at e; cases e), ⟨?_, ?_, ?_, ?_, h.ng, h.glob, ?_⟩, by rw [at_size]; exact Nat.le_refl _, ?_, fun i c sh g e n => (by rw [n] at e; cases e), ⟨rfl, rfl, rfl⟩⟩
  · intro j d sh' g' e
    rw [at_size]
    exact h.lt j d sh' g' e
  · intro j d sh' g' b' e hb'
    by_cases hj : j = i
    · subst hj
      rw [hi] at e; cases e
      rw [h0] at hb'; cases hb'
      exact ⟨o, at_eq o hl.2, ho⟩
    · rw [hh j hj] at hb'
      obtain ⟨o', ho', r⟩ := h.blk j d sh' g' b' e hb'
      by_cases hd : c = d
      · subst hd
        have := hu j sh' g' hj e
        rw [hb'] at this
        cases b' <;> first | exact ⟨o, at_eq o hl.2, .dead o⟩ | exact absurd this (by simp [alive])
      · exact ⟨o', by rw [at_ne w o hd]; exact ho', r⟩
  · intro j k d sh1 g1 sh2 g2 e e' hne aj ak
    have key : ∀ j k d sh1 g1 sh2 g2, β j = some (d, sh1, g1) → β k = some (d, sh2, g2) → j ≠ k → alive ((s.put i b).heap.get j) = true → alive ((s.put i b).heap.get k) = true → j = i → False := by
      intro j k d sh1 g1 sh2 g2 e e' hne aj ak hj
      subst hj
      rw [hi] at e; cases e
      rw [hh k (Ne.symm hne), hu k _ _ (Ne.symm hne) e'] at ak
      cases ak
    by_cases hj : j = i
    · exact (key j k d sh1 g1 sh2 g2 e e' hne aj ak hj).elim
    · by_cases hk : k = i
      · exact (key k j d sh2 g2 sh1 g1 e' e (Ne.symm hne) ak aj hk).elim
      · rw [hfam, hfam]
        rw [hh j hj] at aj; rw [hh k hk] at ak
        exact h.inj j k d sh1 g1 sh2 g2 e e' hne aj ak
  · intro j x f rel n e hf
    rw [hfam] at hf
    obtain ⟨h1, h2, ids, h3, h4, h5⟩ := h.fam j x f rel n e hf
    refine ⟨h1, h2, ids, ?_, h4, h5⟩
    rw [hh f fun e => ?_]
    · exact h3
    · subst e; exact ha ids h3
  · intro d hd
    obtain ⟨⟨o', h1, h2⟩, h3⟩ := h.laid d hd
    exact ⟨⟨o', by rw [at_ne w o (h3 i _ hi)]; exact h1, h2⟩, h3⟩
  · intro d hd hn
    exact at_ne w o fun e => hn i _ hi e

/-- A block is given up. -/
theorem Post.kill (h : Sim E β s w) (j : Nat) : Post E β s w β (Ev.kill s j) w := by
  unfold Ev.kill
  split
  · rename_i n t e fro fam hj
    have hh : ∀ k, k ≠ j → (s.put j .dead).heap.get k = s.heap.get k := fun k hk => Tr.get_set_ne _ _ (Ne.symm hk)
    have h0 : (s.put j .dead).heap.get j = some .dead := Tr.get_set_eq _ _ _
    refine ⟨.refl β, fun i x e n => (by rw [n] at e; cases e), ⟨h.lt, ?_, ?_, ?_, h.ng, h.glob, h.laid⟩, Nat.le_refl _, fun _ _ _ => rfl, fun i c sh g e n => (by rw [n] at e; cases e), .refl _⟩
    · intro i c sh g b hi hb
      by_cases hij : i = j
      · subst hij
        rw [h0] at hb; cases hb
        exact ⟨_, Array.getElem?_eq_getElem (h.lt i c sh g hi).2, .dead _⟩
      · rw [hh i hij] at hb
        exact h.blk i c sh g b hi hb
    · intro i k c sh g sh' g' hi hk hne ai ak
      by_cases hij : i = j
      · subst hij; rw [h0] at ai; cases ai
      · by_cases hkj : k = j
        · subst hkj; rw [h0] at ak; cases ak
        · rw [hh i hij] at *; rw [hh k hkj] at *
          exact h.inj i k c sh g sh' g' hi hk hne ai ak
    · intro i x f rel m hi hf
      by_cases hij : i = j
      · subst hij; rw [h0] at hf; cases hf
      · rw [hh i hij] at hf
        obtain ⟨h1, h2, ids, h3, h4, h5⟩ := h.fam i x f rel m hi hf
        refine ⟨h1, h2, ids, ?_, h4, h5⟩
        rw [hh f fun e => ?_]
        · exact h3
        · subst e; rw [hj] at h3; cases h3
  · exact .refl h
theorem Kept.kill (s : AS) (j : Nat) : Kept s (Ev.kill s j) := by
  unfold Ev.kill
  split
  · exact .put _ _ _
  · exact .refl _
theorem kill_get (s : AS) (j k : Nat) : (Ev.kill s j).heap.get k = s.heap.get k ∨ ((Ev.kill s j).heap.get k = some .dead ∧ k = j) := by
  unfold Ev.kill
  split
  · by_cases h : k = j
    · subst h; exact .inr ⟨Tr.get_set_eq _ _ _, rfl⟩
    · exact .inl (Tr.get_set_ne _ _ (Ne.symm h))
  · exact .inl rfl
theorem kill_self (s : AS) (j : Nat) : famOf ((Ev.kill s j).heap.get j) = none := by
  unfold Ev.kill
  split
  · rw [show (s.put j .dead).heap.get j = some .dead from Tr.get_set_eq _ _ _]; rfl
  · rename_i h
    unfold famOf
    split
    · rename_i heq; exact (h _ _ _ _ _ heq).elim
    · rfl
theorem kill_next (s : AS) (j : Nat) : (Ev.kill s j).next = s.next := by unfold Ev.kill; split <;> rfl

theorem Post.killAll (id : Nat) (l : List (Nat × Nat)) : ∀ {s : AS}, Sim E β s w → Post E β s w β (Ev.killAll id l s) w := by
  induction l with
  | nil => exact fun h => .refl h
  | cons x l ih =>
    intro s h
    unfold Ev.killAll
    cases Nat.beq x.1 id with
    | true => exact ih h
    | false => exact (Post.kill h x.1).trans (ih (Post.kill h x.1).sim) (.kill _ _) (by
        clear ih h
        show Kept (Ev.kill s x.1) (Ev.killAll id l (Ev.kill s x.1))
        generalize Ev.kill s x.1 = s
        induction l generalizing s with
        | nil => exact .refl _
        | cons y l ih2 =>
          unfold Ev.killAll
          cases Nat.beq y.1 id with
          | true => exact ih2 s
          | false => exact (Kept.kill s y.1).trans (ih2 _))
theorem Kept.killAll (id : Nat) (l : List (Nat × Nat)) (s : AS) : Kept s (Ev.killAll id l s) := by
  induction l generalizing s with
  | nil => exact .refl _
  | cons y l ih =>
    unfold Ev.killAll
    cases Nat.beq y.1 id with
    | true => exact ih s
    | false => exact (Kept.kill s y.1).trans (ih _)
theorem killAll_get (id : Nat) (l : List (Nat × Nat)) (s : AS) (k : Nat) : (Ev.killAll id l s).heap.get k = s.heap.get k ∨ ((Ev.killAll id l s).heap.get k = some .dead ∧ k ≠ id) := by
  induction l generalizing s with
  | nil => exact .inl rfl
  | cons y l ih =>
    unfold Ev.killAll
    cases hy : Nat.beq y.1 id with
    | true => exact ih s
    | false =>
      have hne : y.1 ≠ id := fun e => by rw [e, Nat.beq_refl] at hy; cases hy
      rcases ih (Ev.kill s y.1) with h | ⟨h, hk⟩
      · rcases kill_get s y.1 k with h2 | ⟨h2, rfl⟩
        · exact .inl (h.trans h2)
        · exact .inr ⟨h.trans h2, hne⟩
      · exact .inr ⟨h, hk⟩
theorem killAll_fam (id : Nat) (l : List (Nat × Nat)) (s : AS) {k t : Nat} (hk : (k, t) ∈ l) (hne : k ≠ id) : famOf ((Ev.killAll id l s).heap.get k) = none := by
  induction l generalizing s with
  | nil => cases hk
  | cons y l ih =>
    unfold Ev.killAll
    cases hk with
    | head =>
      rw [show Nat.beq k id = false from Bool.eq_false_iff.2 fun e => hne (Nat.eq_of_beq_eq_true e)]
      show famOf ((Ev.killAll id l (Ev.kill s k)).heap.get k) = none
      rcases killAll_get id l (Ev.kill s k) k with h | ⟨h, _⟩
      · rw [h]; exact kill_self s k
      · rw [h]; rfl
    | tail _ hk =>
      cases Nat.beq y.1 id with
      | true => exact ih s hk
      | false => exact ih _ hk
theorem killAll_next (id : Nat) (l : List (Nat × Nat)) (s : AS) : (Ev.killAll id l s).next = s.next := by
  induction l generalizing s with
  | nil => rfl
  | cons y l ih =>
    unfold Ev.killAll
    cases Nat.beq y.1 id with
    | true => exact ih s
    | false => exact (ih _).trans (kill_next s y.1)

/-- A family's record is turned: whoever is of it stands in the new one. -/
theorem Post.turned (h : Sim E β s w) {f : Nat} {ids ids' : List (Nat × Nat)} (hf : s.heap.get f = some (.fam ids)) (hs : Sorted ids')
    (hm : ∀ i x rel n, β i = some x → famOf (s.heap.get i) = some (f, rel, n) → (i, rel + n) ∈ ids') (hn : β f = none) : Post E β s w β (s.put f (.fam ids')) w := by
  have hh : ∀ k, k ≠ f → (s.put f (.fam ids')).heap.get k = s.heap.get k := fun k hk => Tr.get_set_ne _ _ (Ne.symm hk)
  have h0 : (s.put f (.fam ids')).heap.get f = some (.fam ids') := Tr.get_set_eq _ _ _
  have ne : ∀ i x, β i = some x → i ≠ f := fun i x e e' => by subst e'; rw [hn] at e; cases e
  refine ⟨.refl β, fun i x e n => (by rw [n] at e; cases e), ⟨h.lt, ?_, ?_, ?_, h.ng, h.glob, h.laid⟩, Nat.le_refl _, fun _ _ _ => rfl, fun i c sh g e n => (by rw [n] at e; cases e), .refl _⟩
  · intro i c sh g b hi hb
    rw [hh i (ne i _ hi)] at hb
    exact h.blk i c sh g b hi hb
  · intro i k c sh g sh' g' hi hk hne ai ak
    rw [hh i (ne i _ hi)] at *; rw [hh k (ne k _ hk)] at *
    exact h.inj i k c sh g sh' g' hi hk hne ai ak
  · intro i x f' rel m hi hfm
    rw [hh i (ne i _ hi)] at hfm
    obtain ⟨h1, h2, ids0, h3, h4, h5⟩ := h.fam i x f' rel m hi hfm
    by_cases e : f' = f
    · subst e
      exact ⟨h1, h2, ids', h0, hm i x rel m hi hfm, hs⟩
    · exact ⟨h1, h2, ids0, by rw [hh f' e]; exact h3, h4, h5⟩
end Go.Ev
