import Derived.OrdersIn
import Derived.Test.YthhkpoobcnmdgaaDoorBE5
/- What a region's bits say: an operation whose bit is set has been listed before. -/
namespace Go.Ev
variable {ops : Array Oper}

/-- The bits that an operation adds up. -/
def edgeBits (acc : Array Nat) (o : Oper) : Nat := o.after.foldl (fun s e => if Region.binds .any e then s ||| 2 ^ e.on ||| acc.getD e.on 0 else s) 0
theorem bits_fold (acc : Array Nat) (j : Nat) : ∀ (l : List Edge) (s : Nat), (l.foldl (fun s e => if Region.binds .any e then s ||| 2 ^ e.on ||| acc.getD e.on 0 else s) s).testBit j = true →
    s.testBit j = true ∨ ∃ e ∈ l, Region.binds .any e = true ∧ (j = e.on ∨ (acc.getD e.on 0).testBit j = true) := by
  intro l
  induction l with
  | nil => intro s h; exact .inl h
  | cons e l ih =>
    intro s h
    rcases ih _ h with h | ⟨e', h1, h2⟩
    · dsimp only at h
      by_cases hb : Region.binds .any e = true
      · rw [if_pos hb, Nat.testBit_or, Nat.testBit_or, Nat.testBit_two_pow] at h
        simp only [Bool.or_eq_true, decide_eq_true_eq] at h
        rcases h with (h | h) | h
        · exact .inl h
        · exact .inr ⟨e, List.mem_cons_self, hb, .inl h.symm⟩
        · exact .inr ⟨e, List.mem_cons_self, hb, .inr h⟩
      · rw [if_neg hb] at h
        exact .inl h
    · exact .inr ⟨e', List.mem_cons_of_mem _ h1, h2⟩
theorem edgeBits_some {acc : Array Nat} {o : Oper} {j : Nat} (h : (edgeBits acc o).testBit j = true) : ∃ e ∈ o.after, Region.binds .any e = true ∧ (j = e.on ∨ (acc.getD e.on 0).testBit j = true) := by
  unfold edgeBits at h
  rw [← Array.foldl_toList] at h
  rcases bits_fold acc j _ _ h with h | ⟨e, h1, h2⟩
  · simp at h
  · exact ⟨e, Array.mem_toList_iff.1 h1, h2⟩
theorem push_fold : ∀ (l : List Oper) (acc : Array Nat), let res := l.foldl (fun acc o => acc.push (edgeBits acc o)) acc
    (∀ k, k < acc.size → res[k]? = acc[k]?) ∧ res.size = acc.size + l.length ∧
      ∀ (i : Nat) o, l[i]? = some o → ∃ acc' : Array Nat, acc'.size = acc.size + i ∧ (∀ k, k < acc'.size → res[k]? = acc'[k]?) ∧ res[acc.size + i]? = some (edgeBits acc' o) := by
  intro l
  induction l with
  | nil => intro acc; exact ⟨fun _ _ => rfl, rfl, fun i o h => by simp at h⟩
  | cons o l ih =>
    intro acc
    obtain ⟨h1, h2, h3⟩ := ih (acc.push (edgeBits acc o))
    have hs : (acc.push (edgeBits acc o)).size = acc.size + 1 := by simp
    refine ⟨fun k hk => ?_, ?_, fun i o' hi => ?_⟩
    · show (l.foldl _ (acc.push (edgeBits acc o)))[k]? = _
      rw [h1 k (by omega), Array.getElem?_push, if_neg (by omega)]
    · show (l.foldl _ (acc.push (edgeBits acc o))).size = _
      rw [h2, hs, List.length_cons]; omega
    · cases i with
      | zero =>
        cases hi
        refine ⟨acc, by simp, fun k hk => ?_, ?_⟩
        · show (l.foldl _ (acc.push (edgeBits acc o)))[k]? = _
          rw [h1 k (by omega), Array.getElem?_push, if_neg (by omega)]
        · show (l.foldl _ (acc.push (edgeBits acc o)))[acc.size + 0]? = _
          rw [h1 _ (by omega)]
          simp
      | succ i =>
        obtain ⟨acc', h4, h5, h6⟩ := h3 i o' hi
        refine ⟨acc', by omega, h5, ?_⟩
        show (l.foldl _ (acc.push (edgeBits acc o)))[acc.size + (i + 1)]? = _
        rw [show acc.size + (i + 1) = (acc.push (edgeBits acc o)).size + i from by omega]
        exact h6
theorem before_eq : Region.before ops = ops.toList.foldl (fun acc o => acc.push (edgeBits acc o)) #[] := by
  unfold Region.before
  rw [← Array.foldl_toList]
  rfl
theorem before_size : (Region.before ops).size = ops.size := by
  rw [before_eq, (push_fold ops.toList #[]).2.1]; simp
theorem before_bits {i j : Nat} (h : ((Region.before ops).getD i 0).testBit j = true) :
    ∃ o, ops[i]? = some o ∧ ∃ e ∈ o.after, Region.binds .any e = true ∧ (j = e.on ∨ (e.on < i ∧ ((Region.before ops).getD e.on 0).testBit j = true)) := by
  by_cases hi : i < ops.size
  · obtain ⟨o, ho⟩ : ∃ o, ops[i]? = some o := ⟨ops[i], by simp [hi]⟩
    obtain ⟨acc', h1, h2, h3⟩ := (push_fold ops.toList #[]).2.2 i o (by simpa using ho)
    rw [← before_eq] at h2 h3
    have h1 : acc'.size = i := by simpa using h1
    have h3 : (Region.before ops)[i]? = some (edgeBits acc' o) := by simpa using h3
    rw [Array.getD_eq_getD_getElem?, h3] at h
    obtain ⟨e, h4, h5, h6⟩ := edgeBits_some h
    refine ⟨o, ho, e, h4, h5, ?_⟩
    rcases h6 with h6 | h6
    · exact .inl h6
    · by_cases he : e.on < acc'.size
      · refine .inr ⟨h1 ▸ he, ?_⟩
        rw [Array.getD_eq_getD_getElem?, h2 _ he, ← Array.getD_eq_getD_getElem?]
        exact h6
      · rw [Array.getD_eq_getD_getElem?, Array.getElem?_eq_none (by omega)] at h6
        simp at h6
  · rw [Array.getD_eq_getD_getElem?, Array.getElem?_eq_none (by rw [before_size]; omega)] at h
    simp at h
/-- What is listed is listed with all that must come before. -/
def Closed (ops : Array Oper) (L : Nat → Prop) : Prop := ∀ i o, L i → ops[i]? = some o → ∀ e ∈ o.after, Region.binds .any e = true → L e.on
theorem Closed.bits {L : Nat → Prop} (hc : Closed ops L) {j : Nat} : ∀ (i : Nat), L i → ((Region.before ops).getD i 0).testBit j = true → L j := by
  intro i
  induction i using Nat.strongRecOn with
  | ind i ih =>
    intro hL hb
    obtain ⟨o, ho, e, h1, h2, h3⟩ := before_bits hb
    have he := hc i o hL ho e h1 h2
    rcases h3 with rfl | ⟨h3, h4⟩
    · exact he
    · exact ih _ h3 he h4
/-- What is ready has all its bits listed. -/
theorem ready_bits {listed : Array Bool} (hc : Closed ops fun i => listed.getD i false = true) {i j : Nat} (hi : i ∈ Region.ready .any ops listed) (hb : ((Region.before ops).getD i 0).testBit j = true) : listed.getD j false = true := by
  obtain ⟨_, o, ho, h1⟩ := mem_ready.1 hi
  obtain ⟨o', ho', e, h2, h3, h4⟩ := before_bits hb
  rw [ho] at ho'; cases ho'
  have he := h1 e h2 h3
  rcases h4 with rfl | ⟨h4, h5⟩
  · exact he
  · exact hc.bits e.on he h5
theorem ready_closed {listed : Array Bool} (hs : listed.size = ops.size) (hc : Closed ops fun i => listed.getD i false = true) {i : Nat} (hi : i ∈ Region.ready .any ops listed) :
    Closed ops fun j => (listed.setIfInBounds i true).getD j false = true := by
  obtain ⟨h0, o, ho, h1⟩ := mem_ready.1 hi
  have hget : ∀ j, (listed.setIfInBounds i true).getD j false = true ↔ (j = i ∨ listed.getD j false = true) := by
    intro j
    have hil : i < listed.size := by
      rw [hs]
      by_cases h : i < ops.size
      · exact h
      · rw [Array.getElem?_eq_none (by omega)] at ho; cases ho
    simp only [Array.getD_eq_getD_getElem?, Array.getElem?_setIfInBounds]
    by_cases e : i = j
    · subst e; simp [hil]
    · rw [if_neg e]
      constructor
      · intro h; exact .inr h
      · rintro (h | h)
        · exact absurd h.symm e
        · exact h
  intro j o' hj ho' e he hb
  rw [hget] at hj ⊢
  rcases hj with rfl | hj
  · rw [ho] at ho'; cases ho'
    exact .inr (h1 e he hb)
  · exact .inr (hc j o' hj ho' e he hb)
end Go.Ev
/- Parts for regions that draw their order: memories told by what they hold, bonds cut off, what an operation reads. -/
namespace Go.Ev

/-- A map that holds what a function says, below a number. -/
noncomputable def mkT {α : Type} (f : Nat → Option α) : Nat → Tr α
  | 0 => .nil
  | n + 1 => match f n with
    | some x => (mkT f n).set n x
    | none => mkT f n
theorem get_mkT {α : Type} (f : Nat → Option α) (n i : Nat) : (mkT f n).get i = if i < n then f i else none := by
  induction n with
  | zero => rw [if_neg (by omega)]; rfl
  | succ n ih =>
    unfold mkT
    by_cases h : i = n
    · subst h
      rw [if_pos (by omega)]
      cases hf : f i with
      | some x => exact Tr.get_set_eq _ _ _
      | none => dsimp only; rw [ih, if_neg (by omega)]
    · have : (i < n + 1) ↔ i < n := by omega
      simp only [this]
      cases hf : f n with
      | some x => dsimp only; rw [Tr.get_set_ne _ _ (Ne.symm h), ih]
      | none => exact ih

/-- A bond of what stands below a number. -/
def cut (β : Bond) (n : Nat) : Bond := fun i => if i < n then β i else none
variable {E : Env} {β β' γ : Bond}
theorem cut_some {n i : Nat} {x : Nat × Nat × Gr} : cut β n i = some x ↔ i < n ∧ β i = some x := by
  unfold cut
  by_cases h : i < n
  · simp [h]
  · simp [h]
theorem cut_of {n i : Nat} (h : i < n) : cut β n i = β i := if_pos h
theorem cut_le {n m : Nat} (h : n ≤ m) : Ext (cut β n) (cut β m) := fun _ _ e => by
  rw [cut_some] at e ⊢
  exact ⟨by omega, e.2⟩
theorem cut_sub {n : Nat} : Ext (cut β n) β := fun _ _ e => (cut_some.1 e).2
theorem Ext.cut {n : Nat} (h : Ext β β') : Ext (Ev.cut β n) (Ev.cut β' n) := fun _ _ e => by
  rw [cut_some] at e ⊢
  exact ⟨e.1, h _ _ e.2⟩

theorem VR.restrict (he : Ext γ β) {v u : Value} (h : VR γ v u) : ∀ {v' : Value}, VR β v v' → VR γ v v' := by
  induction h with
  | bool b => intro v' h; cases h; exact .bool _
  | int k n => intro v' h; cases h; exact .int _ _
  | string s => intro v' h; cases h; exact .string _
  | nilPtr => intro v' h; cases h; exact .nilPtr
  | ptr o hb =>
    intro v' h
    cases h with
    | ptr _ hb' => have e := he _ _ hb; rw [hb'] at e; cases e; exact .ptr _ hb
  | nilSlice n m => intro v' h; cases h; exact .nilSlice _ _
  | slice o n hb hm hg hN =>
    intro v' h
    cases h with
    | slice _ _ hb' hm' hg' hN' => have e := he _ _ hb; rw [hb'] at e; cases e; exact .slice _ _ hb hm' hg' hN'
    | tail _ hb' => have e := he _ _ hb; rw [hb'] at e; cases e; exact .tail _ hb
  | tail o hb =>
    intro v' h
    cases h with
    | slice _ _ hb' hm' hg' hN' => have e := he _ _ hb; rw [hb'] at e; cases e; exact .slice _ _ hb hm' hg' hN'
    | tail _ hb' => have e := he _ _ hb; rw [hb'] at e; cases e; exact .tail _ hb
  | nilMap => intro v' h; cases h; exact .nilMap
  | map hb =>
    intro v' h
    cases h with
    | map hb' => have e := he _ _ hb; rw [hb'] at e; cases e; exact .map hb
  | func f ha hb _ _ iA iB =>
    intro v' h
    cases h with
    | func _ ha' hb' hA' hB' =>
      refine .func _ ha' hb' (fun i x x' e e' => ?_) (fun i x x' e e' => ?_)
      · have hy := Array.getElem?_eq_getElem (ha ▸ (Array.getElem?_eq_some_iff.1 e).1)
        exact iA i x _ e hy (hA' i x x' e e')
      · have hy := Array.getElem?_eq_getElem (hb ▸ (Array.getElem?_eq_some_iff.1 e).1)
        exact iB i x _ e hy (hB' i x x' e e')
  | yield hb =>
    intro v' h
    cases h with
    | yield hb' => have e := he _ _ hb; rw [hb'] at e; cases e; exact .yield hb
  | nilFunc => intro v' h; cases h; exact .nilFunc
  | iface t _ ih =>
    intro v' h
    cases h with
    | iface _ h => exact .iface _ (ih h)
  | nilIface => intro v' h; cases h; exact .nilIface
  | agg ha _ iA =>
    intro v' h
    cases h with
    | agg ha' hA' =>
      refine .agg ha' (fun i x x' e e' => ?_)
      have hy := Array.getElem?_eq_getElem (ha ▸ (Array.getElem?_eq_some_iff.1 e).1)
      exact iA i x _ e hy (hA' i x x' e e')
  | tuple ha _ iA =>
    intro v' h
    cases h with
    | tuple ha' hA' =>
      refine .tuple ha' (fun i x x' e e' => ?_)
      have hy := Array.getElem?_eq_getElem (ha ▸ (Array.getElem?_eq_some_iff.1 e).1)
      exact iA i x _ e hy (hA' i x x' e e')
theorem TR.restrict (he : Ext γ β) {nt : Nat} {t : Fr} {a a' : Array Value} (h : TR γ nt t a) (h' : TR β nt t a') : TR γ nt t a' :=
  ⟨h'.size, fun i v e => let ⟨_, _, r⟩ := h.get i v e; let ⟨v', x, r'⟩ := h'.get i v e; ⟨v', x, r.restrict he r'⟩⟩
theorem All2.both {α α' α'' : Type} {R : α → α' → Prop} {S : α → α'' → Prop} {T : α → α'' → Prop} (hi : ∀ a b c, R a b → S a c → T a c) : ∀ {l : List α} {m : List α'} {k : List α''}, All2 R l m → All2 S l k → All2 T l k := by
  intro l
  induction l with
  | nil => intro m k h h'; cases h'; exact .nil
  | cons a l ih =>
    intro m k h h'
    cases h with
    | cons h1 h2 => cases h' with
      | cons h3 h4 => exact .cons (hi _ _ _ h1 h3) (ih h2 h4)
theorem BR.restrict (he : Ext γ β) {sh sh' : Nat} {g g' : Gr} {b : Blk} {o o' : Obj} (h : BR E γ sh g b o) (h' : BR E β sh' g' b o') : BR E γ sh' g' b o' := by
  cases h with
  | cells hg hN hz hn hc hf =>
    cases h' with
    | cells hg' hN' hz' hn' hc' hf' =>
      exact .cells hg' hN' hz' hn' (fun i v hi hv => let ⟨_, _, r, _⟩ := hc i v hi hv; let ⟨v', x, r', y⟩ := hc' i v hi hv; ⟨v', x, r.restrict he r', y⟩) hf'
  | map clock h =>
    cases h' with
    | map clock h' => exact .map _ (h.both (fun a b c r r' => ⟨r.1.restrict he r'.1, r.2.1.restrict he r'.2.1, r'.2.2⟩) h')
  | strIter h0 s pos =>
    cases h' with
    | strIter h0' s pos => exact .strIter h0' s pos
  | loop ht hp ha hb hs hq hd hdd hf =>
    cases h' with
    | loop ht' hp' ha' hb' hs' hq' hd' hdd' hf' =>
      have e := he _ _ hd
      rw [hd'] at e
      cases e
      exact .loop (ht.restrict he ht') hp' ha' hb' hs' hq' hd hdd' hf'
  | defs => cases h'; exact .defs
  | dead o => cases h'; exact .dead _

/-- All blocks that a value, a block names are bound. -/
def InV (β : Bond) (v : Value) : Prop := ∃ v', VR β v v'
def InB (E : Env) (β : Bond) (b : Blk) : Prop := ∃ sh g o, BR E β sh g b o
theorem InV.ext (he : Ext β β') {v : Value} (h : InV β v) : InV β' v := let ⟨v', r⟩ := h; ⟨v', r.ext he⟩
theorem InB.ext (he : Ext β β') {b : Blk} (h : InB E β b) : InB E β' b := let ⟨sh, g, o, r⟩ := h; ⟨sh, g, o, r.ext he⟩

/-- The last number below n of which a thing is so, and one; 0: there is none. -/
def lst (f : Nat → Bool) : Nat → Nat
  | 0 => 0
  | n + 1 => bif f n then n + 1 else lst f n
theorem lst_le (f : Nat → Bool) (n : Nat) : lst f n ≤ n := by
  induction n with
  | zero => exact Nat.le_refl _
  | succ n ih => unfold lst; cases f n <;> simp <;> omega
theorem lst_not {f : Nat → Bool} {n k : Nat} (h : lst f n ≤ k) (hk : k < n) : f k = false := by
  induction n with
  | zero => omega
  | succ n ih =>
    unfold lst at h
    cases hf : f n with
    | true => rw [hf] at h; simp at h; omega
    | false =>
      rw [hf] at h
      by_cases e : k = n
      · subst e; exact hf
      · exact ih (by simpa using h) (by omega)
theorem lst_lt {f : Nat → Bool} {n k : Nat} (h : f k = true) (hk : k < n) : k + 1 ≤ lst f n := by
  apply Classical.byContradiction
  intro hn
  have := lst_not (f := f) (n := n) (k := k) (by omega) hk
  rw [h] at this
  cases this
theorem lst_up {f : Nat → Bool} {n i : Nat} (hi : i ≤ n) (h : ∀ k, i ≤ k → k < n → f k = false) : lst f n ≤ i := by
  induction n with
  | zero => exact Nat.zero_le _
  | succ n ih =>
    unfold lst
    by_cases e : i = n + 1
    · subst e
      cases f n
      · exact Nat.le_succ_of_le (lst_le f n)
      · exact Nat.le_refl _
    · rw [h n (by omega) (by omega)]
      exact ih (by omega) fun k h1 h2 => h k h1 (by omega)
theorem lst_congr {f g : Nat → Bool} {n : Nat} (h : ∀ k, k < n → f k = g k) : lst f n = lst g n := by
  induction n with
  | zero => rfl
  | succ n ih => unfold lst; rw [h n (by omega), ih fun k hk => h k (by omega)]
end Go.Ev
/- What a region's run in the text's order tells: its steps, and which of them are ordered. -/
namespace Go.Ev
variable {E : Env} {ops : Array Oper}

/-! What an operation reads. -/
theorem aval_congr {t t' : Fr} {x : Operand} (h : ∀ d, x = .tmp d → t'.get d = t.get d) : aval E t' x = aval E t x := by
  cases x with
  | tmp d => exact h d rfl
  | _ => rfl
theorem avals_congr {t t' : Fr} : ∀ {l : List Operand}, (∀ x ∈ l, aval E t' x = aval E t x) → avals E t' l = avals E t l := by
  intro l
  induction l with
  | nil => intro _; rfl
  | cons x l ih =>
    intro h
    show obind (aval E t' x) (fun v => obind (avals E t' l) _) = obind (aval E t x) (fun v => obind (avals E t l) _)
    rw [h x List.mem_cons_self, ih fun y hy => h y (List.mem_cons_of_mem _ hy)]
theorem pairsOf_congr {t t' : Fr} : ∀ {l : List (Nat × Operand)}, (∀ x ∈ l, aval E t' x.2 = aval E t x.2) → pairsOf E t' l = pairsOf E t l := by
  intro l
  induction l with
  | nil => intro _; rfl
  | cons x l ih =>
    intro h
    unfold pairsOf
    rw [h x List.mem_cons_self, ih fun y hy => h y (List.mem_cons_of_mem _ hy)]
theorem opt_congr {t t' : Fr} {x : Option Operand} (h : ∀ y, x = some y → aval E t' y = aval E t y) : opt E t' x = opt E t x := by
  cases x with
  | none => rfl
  | some y => unfold opt; dsimp only; rw [h y rfl]
theorem aop_congr {H : Hand} {o : Op} {t t' : Fr} {s : AS} (h : ∀ d, Operand.tmp d ∈ o.operands → t'.get d = t.get d) : aop o E H t' s = aop o E H t s := by
  have av : ∀ x, x ∈ o.operands → aval E t' x = aval E t x := fun x hx => aval_congr fun d e => h d (e ▸ hx)
  clear h
  cases o with
  | move x => show oMove x E H t' s = oMove x E H t s; unfold oMove; rw [av x (by simp [Op.operands])]
  | assign x => show oMove x E H t' s = oMove x E H t s; unfold oMove; rw [av x (by simp [Op.operands])]
  | pick c a b => show oPick c a b E H t' s = oPick c a b E H t s; unfold oPick; rw [av c (by simp [Op.operands]), av a (by simp [Op.operands]), av b (by simp [Op.operands])]
  | alloc e => rfl
  | box e x => show oBox e x E H t' s = oBox e x E H t s; unfold oBox; rw [av x (by simp [Op.operands])]
  | build ty ps => show oBuild ty ps E H t' s = oBuild ty ps E H t s; unfold oBuild; rw [pairsOf_congr fun x hx => av x.2 (by simp [Op.operands]; exact ⟨x.1, Array.mem_toList_iff.1 hx⟩)]
  | buildSlice ty len ps => show oBuildSlice ty len ps E H t' s = oBuildSlice ty len ps E H t s; unfold oBuildSlice; rw [pairsOf_congr fun x hx => av x.2 (by simp [Op.operands]; exact ⟨x.1, Array.mem_toList_iff.1 hx⟩)]
  | insert ty m k x => show oMapUpdate ty m k x E H t' s = oMapUpdate ty m k x E H t s; unfold oMapUpdate; rw [av m (by simp [Op.operands]), av k (by simp [Op.operands]), av x (by simp [Op.operands])]
  | mapUpdate ty m k x => show oMapUpdate ty m k x E H t' s = oMapUpdate ty m k x E H t s; unfold oMapUpdate; rw [av m (by simp [Op.operands]), av k (by simp [Op.operands]), av x (by simp [Op.operands])]
  | load ty x => show oLoad ty x E H t' s = oLoad ty x E H t s; unfold oLoad; rw [av x (by simp [Op.operands])]
  | store ty x y => show oStore ty x y E H t' s = oStore ty x y E H t s; unfold oStore; rw [av x (by simp [Op.operands]), av y (by simp [Op.operands])]
  | nilCheck x => show oNilCheck x E H t' s = oNilCheck x E H t s; unfold oNilCheck; rw [av x (by simp [Op.operands])]
  | binOp op ty x y p => show oBin op ty x y E H t' s = oBin op ty x y E H t s; unfold oBin; rw [av x (by simp [Op.operands]), av y (by simp [Op.operands])]
  | unOp op ty x => show oUn op x E H t' s = oUn op x E H t s; unfold oUn; rw [av x (by simp [Op.operands])]
  | convert src dst x => show oConvert src dst x E H t' s = oConvert src dst x E H t s; unfold oConvert; rw [av x (by simp [Op.operands])]
  | makeInterface ty x => show oIface ty x E H t' s = oIface ty x E H t s; unfold oIface; rw [av x (by simp [Op.operands])]
  | makeFunc fn first captured =>
    show oFunc fn first captured E H t' s = oFunc fn first captured E H t s
    unfold oFunc
    rw [avals_congr (l := first.toList) fun x hx => av x (by simp only [Op.operands]; exact Array.mem_append.2 (.inl (Array.mem_toList_iff.1 hx))), avals_congr (l := captured.toList) fun x hx => av x (by simp only [Op.operands]; exact Array.mem_append.2 (.inr (Array.mem_toList_iff.1 hx)))]
  | makeMap ty rs => rfl
  | makeSlice ty l c => show oMakeSlice ty l c E H t' s = oMakeSlice ty l c E H t s; unfold oMakeSlice; rw [av l (by simp [Op.operands]), av c (by simp [Op.operands])]
  | slice ty x lo hi mx =>
    show oSlice ty x lo hi mx E H t' s = oSlice ty x lo hi mx E H t s
    unfold oSlice
    rw [av x (by simp [Op.operands]), opt_congr (x := lo) fun y e => av y (by subst e; simp [Op.operands]), opt_congr (x := hi) fun y e => av y (by subst e; simp [Op.operands]), opt_congr (x := mx) fun y e => av y (by subst e; simp [Op.operands])]
  | fieldAddr ty x f => show oFieldAddr ty x f E H t' s = oFieldAddr ty x f E H t s; unfold oFieldAddr; rw [av x (by simp [Op.operands])]
  | field ty x f => show oField ty x f E H t' s = oField ty x f E H t s; unfold oField; rw [av x (by simp [Op.operands])]
  | indexAddr ty x i => show oIndexAddr ty x i E H t' s = oIndexAddr ty x i E H t s; unfold oIndexAddr; rw [av x (by simp [Op.operands]), av i (by simp [Op.operands])]
  | index ty x i => show oIndex ty x i E H t' s = oIndex ty x i E H t s; unfold oIndex; rw [av x (by simp [Op.operands]), av i (by simp [Op.operands])]
  | lookup ty x k ok => show oLookup ty x k ok E H t' s = oLookup ty x k ok E H t s; unfold oLookup; rw [av x (by simp [Op.operands]), av k (by simp [Op.operands])]
  | range ty x => show oRange ty x E H t' s = oRange ty x E H t s; unfold oRange; rw [av x (by simp [Op.operands])]
  | next it str => show oNext it str E H t' s = oNext it str E H t s; unfold oNext; rw [av it (by simp [Op.operands])]
  | typeAssert x y u ok => show oAssert x u ok E H t' s = oAssert x u ok E H t s; unfold oAssert; rw [av x (by simp [Op.operands])]
  | extract x i => show oExtract x i E H t' s = oExtract x i E H t s; unfold oExtract; rw [av x (by simp [Op.operands])]
  | call c =>
    show oCall c E H t' s = oCall c E H t s
    unfold oCall
    rw [avals_congr (l := c.args.toList) fun x hx => av x (by simp only [Op.operands, Call.operands]; exact Array.mem_append.2 (.inr (Array.mem_toList_iff.1 hx)))]
    congr 1
    funext args
    unfold callOf
    split
    · rename_i f hc
      rw [av f (by simp only [Op.operands, Call.operands, hc]; exact Array.mem_append.2 (.inl (by simp)))]
    · rfl
    · rfl
  | _ => rfl
theorem foot_congr {o : Op} {t t' : Fr} (h : ∀ d, Operand.tmp d ∈ o.operands → t'.get d = t.get d) : foot E t' o = foot E t o := by
  have av : ∀ x, x ∈ o.operands → aval E t' x = aval E t x := fun x hx => aval_congr fun d e => h d (e ▸ hx)
  clear h
  cases o with
  | load ty x => show footOf _ = footOf _; rw [av x (by simp [Op.operands])]
  | lookup ty x k ok => show footOf _ = footOf _; rw [av x (by simp [Op.operands])]
  | slice ty x lo hi mx => show footOf _ = footOf _; rw [av x (by simp [Op.operands])]
  | call c =>
    show footCall E t' c = footCall E t c
    unfold footCall
    split
    · rename_i x hc hx
      rw [av x (by simp only [Op.operands, Call.operands]; exact Array.mem_append.2 (.inr (Array.mem_toList_iff.1 (by rw [hx]; simp))))]
    · rfl
  | _ => rfl

/-! Slots. -/
theorem writers_mem {n : Nat} (f : Array (List (Tmp × Nat)) → Oper × Nat → Array (List (Tmp × Nat)))
    (hf : ∀ w x, f w x = match x.1.dst with | some d => w.modify (d % n) ((d, x.2) :: ·) | none => w) : ∀ (l : List (Oper × Nat)) (w : Array (List (Tmp × Nat))), w.size = n →
      (∀ k x, x ∈ w.getD k [] → x ∈ (l.foldl f w).getD k []) ∧ ∀ o i d, (o, i) ∈ l → o.dst = some d → 0 < n → (d, i) ∈ (l.foldl f w).getD (d % n) [] := by
  intro l
  induction l with
  | nil => intro w hw; exact ⟨fun _ _ h => h, fun o i d h => by cases h⟩
  | cons x l ih =>
    intro w hw
    have hs : (f w x).size = n := by
      rw [hf]
      cases x.1.dst with
      | none => exact hw
      | some d => simpa using hw
    have hk : ∀ k y, y ∈ w.getD k [] → y ∈ (f w x).getD k [] := by
      intro k y hy
      rw [hf]
      cases x.1.dst with
      | none => exact hy
      | some d =>
        simp only [Array.getD_eq_getD_getElem?, Array.getElem?_modify] at hy ⊢
        by_cases e : d % n = k
        · rw [if_pos e]
          cases hg : w[k]? with
          | none => rw [hg] at hy; simp at hy
          | some q => rw [hg] at hy; simp at hy ⊢; exact .inr hy
        · rw [if_neg e]; exact hy
    obtain ⟨h1, h2⟩ := ih (f w x) hs
    refine ⟨fun k y hy => h1 k y (hk k y hy), fun o i d ho hd hn => ?_⟩
    rcases List.mem_cons.1 ho with rfl | ho
    · refine h1 _ _ ?_
      rw [hf]
      dsimp only
      rw [hd]
      have hlt : d % n < w.size := by rw [hw]; exact Nat.mod_lt _ hn
      simp only [Array.getD_eq_getD_getElem?, Array.getElem?_modify, if_pos]
      rw [Array.getElem?_eq_getElem hlt]
      simp
    · exact h2 o i d ho hd hn
theorem mem_zipIdx {i : Nat} {o : Oper} (h : ops[i]? = some o) : (o, i) ∈ ops.toList.zipIdx := by
  rw [List.mem_zipIdx_iff_getElem?]
  simpa using h
theorem temporaries_spec {b : Array Nat} (h : Region.temporariesOk ops b = true) {i j d : Nat} {oi oj : Oper} (hi : ops[i]? = some oi) (hj : ops[j]? = some oj) (hd : oi.dst = some d)
    (hn : oj.dst = some d ∨ Operand.tmp d ∈ oj.op.operands) (hne : i ≠ j) : (b.getD (max i j) 0).testBit (min i j) = true := by
  unfold Region.temporariesOk at h
  dsimp only at h
  rw [List.all_eq_true] at h
  have h1 := h (oj, j) (mem_zipIdx hj)
  dsimp only at h1
  rw [List.all_eq_true] at h1
  have hn : d ∈ oj.dst.toList ++ oj.op.operands.toList.filterMap fun | .tmp t => some t | _ => none := by
    rcases hn with hn | hn
    · exact List.mem_append_left _ (by rw [hn]; simp)
    · exact List.mem_append_right _ (List.mem_filterMap.2 ⟨.tmp d, Array.mem_toList_iff.2 hn, rfl⟩)
  have h2 := h1 d hn
  rw [List.all_eq_true] at h2
  have hsz : 0 < ops.size := by
    by_cases e : 0 < ops.size
    · exact e
    · rw [Array.getElem?_eq_none (by omega)] at hi; cases hi
  have h3 := h2 (d, i) ((writers_mem (n := ops.size) _ (fun w x => by obtain ⟨o, i⟩ := x; rfl) ops.toList.zipIdx (Array.replicate ops.size []) (by simp)).2 oi i d (mem_zipIdx hi) hd hsz)
  have hne' : (i == j) = false := by simpa using hne
  simpa [hne'] using h3
theorem guards_spec {b : Array Nat} (h : guardsOk ops b = true) {i j g d : Nat} {want : Bool} {oi oj og : Oper} (hi : ops[i]? = some oi) (hj : ops[j]? = some oj) (hd : oi.dst = some d)
    (hg : oj.guard = some (g, want)) (ho : ops[g]? = some og) (hod : og.dst = some d) (hne : i ≠ j) : (b.getD (max i j) 0).testBit (min i j) = true := by
  unfold guardsOk at h
  rw [List.all_eq_true] at h
  have h1 := h (oj, j) (mem_zipIdx hj)
  dsimp only at h1
  rw [hg] at h1
  dsimp only at h1
  rw [ho] at h1
  dsimp only at h1
  rw [hod] at h1
  dsimp only at h1
  rw [List.all_eq_true] at h1
  have h2 := h1 (oi, i) (mem_zipIdx hi)
  have hne' : (i == j) = false := by simpa using hne
  simpa [hd, hne'] using h2
/-- The slots whose content tells what an operation does, and its own. -/
def Names (ops : Array Oper) (o : Oper) (d : Tmp) : Prop := o.dst = some d ∨ Operand.tmp d ∈ o.op.operands ∨ ∃ g want og, o.guard = some (g, want) ∧ ops[g]? = some og ∧ og.dst = some d
theorem tidy_spec (h : tidy ops = true) {i j d : Nat} {oi oj : Oper} (hi : ops[i]? = some oi) (hj : ops[j]? = some oj) (hd : oi.dst = some d) (hn : Names ops oj d) (hne : i ≠ j) :
    ((Region.before ops).getD (max i j) 0).testBit (min i j) = true := by
  unfold tidy at h
  rw [Bool.and_eq_true, Bool.and_eq_true] at h
  rcases hn with hn | hn | ⟨g, want, og, h1, h2, h3⟩
  · exact temporaries_spec h.1.1 hi hj hd (.inl hn) hne
  · exact temporaries_spec h.1.1 hi hj hd (.inr hn) hne
  · exact guards_spec h.1.2 hi hj hd h1 h2 h3 hne
theorem edges_spec (h : tidy ops = true) {i : Nat} {o : Oper} (hi : ops[i]? = some o) : ∀ e ∈ o.after, Region.binds .any e = true → e.on < i := by
  unfold tidy at h
  rw [Bool.and_eq_true] at h
  have h := h.2
  unfold edgesOk at h
  rw [List.all_eq_true] at h
  have h1 := h (o, i) (mem_zipIdx hi)
  dsimp only at h1
  rw [List.all_eq_true] at h1
  intro e he hb
  have h2 := h1 e (Array.mem_toList_iff.2 he)
  rw [hb] at h2
  exact le_of_ble (by simpa using h2)
theorem wanted_congr {t t' : Fr} {o : Oper} (h : ∀ d, Names ops o d → t'.get d = t.get d) : Ev.wanted ops t' o.guard = Ev.wanted ops t o.guard := by
  cases hg : o.guard with
  | none => rfl
  | some p =>
    obtain ⟨g, want⟩ := p
    show yieldedAt ops.toList t' g want = yieldedAt ops.toList t g want
    unfold yieldedAt
    split
    · rename_i q hq
      split
      · rename_i d hd
        rw [h d (.inr (.inr ⟨g, want, q, hg, by simpa using hq, hd⟩))]
      · rfl
    · rfl

/-! Steps. -/
structure Pt where
  S : AS
  T : Fr
  p : Past
structure Dt where
  W : List Nat
  v : Option Value
  ft : Foot
  wt : Bool
/-- A memory to which nothing has been done yet. -/
def AS.anew (s : AS) : AS := ⟨s.heap, s.next, s.next, []⟩
def Step (E : Env) (H : Hand) (nt : Nat) (ops : Array Oper) (o : Oper) (b i : Nat) (x : Pt) (d : Dt) (y : Pt) : Prop :=
  Ev.wanted ops x.T o.guard = some d.wt ∧ putDst nt x.T o.dst d.v = some y.T ∧
    ((d.wt = true ∧ ∃ s1, aop o.op E H x.T x.S.anew = some (d.v, s1) ∧ d.W = s1.wr ∧ d.ft = foot E x.T o.op ∧ x.p.then i b s1.wr d.ft = some y.p ∧ y.S = ⟨s1.heap, s1.next, x.S.mark, keepBelow x.S.mark s1.wr x.S.wr⟩) ∨
     (d.wt = false ∧ d.v = none ∧ d.W = [] ∧ d.ft = .none ∧ y.p = x.p ∧ y.S = x.S))
theorem steps_of {H : Hand} {nt : Nat} : ∀ (l : List Oper) (bs : List Nat) (i : Nat) (p : Past) (t : Fr) (s : AS) (r : Fr × AS), aopsD E H nt ops l bs i p t s = some r →
    ∃ (A : Nat → Pt) (B : Nat → Dt), A i = ⟨s, t, p⟩ ∧ (A (i + l.length)).S = r.2 ∧ (A (i + l.length)).T = r.1 ∧ ∀ (k : Nat) o, l[k]? = some o → Step E H nt ops o (bs.getD k 0) (i + k) (A (i + k)) (B (i + k)) (A (i + k + 1)) := by
  intro l
  induction l with
  | nil =>
    intro bs i p t s r h
    rw [aopsD_nil] at h
    cases h
    exact ⟨fun _ => ⟨s, t, p⟩, fun _ => ⟨[], none, .none, false⟩, rfl, rfl, rfl, fun k o h => by simp at h⟩
  | cons o l ih =>
    intro bs i p t s r h
    cases bs with
    | nil => rw [aopsD_none] at h; cases h
    | cons b bs =>
      rw [aopsD_cons] at h
      obtain ⟨w, hw, h⟩ := obind_some h
      have fin : ∀ (p' : Past) (t' : Fr) (s' : AS) (d : Dt), aopsD E H nt ops l bs (Nat.succ i) p' t' s' = some r → Step E H nt ops o b i ⟨s, t, p⟩ d ⟨s', t', p'⟩ →
          ∃ (A : Nat → Pt) (B : Nat → Dt), A i = ⟨s, t, p⟩ ∧ (A (i + (o :: l).length)).S = r.2 ∧ (A (i + (o :: l).length)).T = r.1 ∧
            ∀ (k : Nat) o', (o :: l)[k]? = some o' → Step E H nt ops o' ((b :: bs).getD k 0) (i + k) (A (i + k)) (B (i + k)) (A (i + k + 1)) := by
        intro p' t' s' d h1 h2
        obtain ⟨A, B, a1, a2, a3, a4⟩ := ih bs (Nat.succ i) p' t' s' r h1
        refine ⟨fun j => if j = i then ⟨s, t, p⟩ else A j, fun j => if j = i then d else B j, if_pos rfl, ?_, ?_, fun k o' ho => ?_⟩
        · dsimp only
          rw [if_neg (by simp), show i + (o :: l).length = Nat.succ i + l.length from by simp; omega]
          exact a2
        · dsimp only
          rw [if_neg (by simp), show i + (o :: l).length = Nat.succ i + l.length from by simp; omega]
          exact a3
        · cases k with
          | zero =>
            cases ho
            dsimp only
            rw [if_pos (by omega), if_pos (by omega), if_neg (by omega), show i + 0 + 1 = Nat.succ i from rfl, a1]
            exact h2
          | succ k =>
            dsimp only
            rw [if_neg (by omega), if_neg (by omega), if_neg (by omega), show i + (k + 1) = Nat.succ i + k from by omega]
            exact a4 k o' (by simpa using ho)
      cases w with
      | true =>
        simp only [cond_true] at h
        obtain ⟨v, s1, h1, h⟩ := pbind_some h
        obtain ⟨t', h2, h⟩ := obind_some h
        obtain ⟨p', h3, h⟩ := obind_some h
        exact fin p' t' _ ⟨s1.wr, v, foot E t o.op, true⟩ h ⟨hw, h2, .inl ⟨rfl, s1, h1, rfl, rfl, h3, rfl⟩⟩
      | false =>
        simp only [cond_false] at h
        obtain ⟨t', h2, h⟩ := obind_some h
        exact fin p t' s ⟨[], none, .none, false⟩ h ⟨hw, h2, .inr ⟨rfl, rfl, rfl, rfl, rfl, rfl⟩⟩
theorem has_iff {l : List Nat} {b : Nat} : has l b = true ↔ b ∈ l := by
  induction l with
  | nil => simp [has]
  | cons x l ih =>
    unfold has
    rw [Bool.or_eq_true, ih, List.mem_cons]
    constructor
    · rintro (h | h)
      · exact .inl (Nat.eq_of_beq_eq_true h).symm
      · exact .inr h
    · rintro (h | h)
      · exact .inl (h ▸ Nat.beq_refl _)
      · exact .inr h
theorem modsIn_mem {bits : Nat} : ∀ {l : List (Nat × List Nat)}, modsIn bits l = true → ∀ m w, (m, w) ∈ l → bits.testBit m = true := by
  intro l
  induction l with
  | nil => intro _ m w h; cases h
  | cons x l ih =>
    intro h m w hm
    obtain ⟨a, b⟩ := x
    unfold modsIn at h
    rw [Bool.and_eq_true] at h
    rcases List.mem_cons.1 hm with e | hm
    · cases e; exact h.1
    · exact ih h.2 m w hm
theorem loudIn_mem {bits : Nat} : ∀ {l : List Nat}, loudIn bits l = true → ∀ m, m ∈ l → bits.testBit m = true := by
  intro l
  induction l with
  | nil => intro _ m h; cases h
  | cons x l ih =>
    intro h m hm
    unfold loudIn at h
    rw [Bool.and_eq_true] at h
    rcases List.mem_cons.1 hm with e | hm
    · cases e; exact h.1
    · exact ih h.2 m hm
theorem readsOk_mem {bits : Nat} {w : List Nat} : ∀ {l : List (Nat × Nat)}, readsOk bits w l = true → ∀ j b, (j, b) ∈ l → b ∈ w → bits.testBit j = true := by
  intro l
  induction l with
  | nil => intro _ j b h; cases h
  | cons x l ih =>
    intro h j b hm hb
    obtain ⟨j', b'⟩ := x
    unfold readsOk at h
    rw [Bool.and_eq_true] at h
    rcases List.mem_cons.1 hm with e | hm
    · cases e
      have := has_iff.2 hb
      simpa [this] using h.1
    · exact ih h.2 j b hm hb
theorem readOk_mem {bits b : Nat} : ∀ {l : List (Nat × List Nat)}, readOk bits b l = true → ∀ m w, (m, w) ∈ l → b ∈ w → bits.testBit m = true := by
  intro l
  induction l with
  | nil => intro _ j b h; cases h
  | cons x l ih =>
    intro h m w hm hb
    obtain ⟨j', b'⟩ := x
    unfold readOk at h
    rw [Bool.and_eq_true] at h
    rcases List.mem_cons.1 hm with e | hm
    · cases e
      have := has_iff.2 hb
      simpa [this] using h.1
    · exact ih h.2 m w hm hb

/-- Two steps that may not be turned round. -/
def Clash (x y : Dt) : Prop := (y.ft = .any ∧ x.W ≠ []) ∨ (y.W ≠ [] ∧ x.ft = .any) ∨ (∃ b, x.ft = .one b ∧ b ∈ y.W) ∨ (∃ b, y.ft = .one b ∧ b ∈ x.W)
def InPast (p : Past) (j : Nat) (d : Dt) : Prop := (d.ft = .any → j ∈ p.loud) ∧ (d.W ≠ [] → (j, d.W) ∈ p.mods) ∧ ∀ b, d.ft = .one b → (j, b) ∈ p.reads
theorem then_some {p p' : Past} {i bits : Nat} {w : List Nat} {f : Foot} (h : p.then i bits w f = some p') :
    (f ≠ .any → w = []) ∧ (∀ j d, InPast p j d → InPast p' j d ∧ (Clash d ⟨w, none, f, true⟩ → bits.testBit j = true)) ∧ InPast p' i ⟨w, none, f, true⟩ := by
  unfold Past.then at h
  have emp : ∀ {l : List Nat}, l.isEmpty = true → l = [] := fun h => by simpa using h
  cases f with
  | none =>
    obtain ⟨h1, h⟩ := only_some h
    cases h
    have hw := emp h1
    subst hw
    refine ⟨fun _ => rfl, fun j d hj => ⟨hj, ?_⟩, ⟨fun e => (by cases e), fun e => absurd rfl e, fun b e => (by cases e)⟩⟩
    rintro (⟨h, _⟩ | ⟨h, _⟩ | ⟨b, _, h⟩ | ⟨b, h, _⟩)
    · cases h
    · exact absurd rfl h
    · cases h
    · cases h
  | one b =>
    obtain ⟨h1, h⟩ := only_some h
    cases h
    rw [Bool.and_eq_true] at h1
    have hw := emp h1.1
    subst hw
    refine ⟨fun _ => rfl, fun j d hj => ⟨⟨hj.1, hj.2.1, fun b e => List.mem_cons_of_mem _ (hj.2.2 b e)⟩, ?_⟩, ⟨fun e => (by cases e), fun e => absurd rfl e, fun b e => (by cases e; exact List.mem_cons_self)⟩⟩
    rintro (⟨h, _⟩ | ⟨h, _⟩ | ⟨b, _, h⟩ | ⟨b', h, hb⟩)
    · cases h
    · exact absurd rfl h
    · cases h
    · cases h
      exact readOk_mem h1.2 j d.W (hj.2.1 (List.ne_nil_of_mem hb)) hb
  | any =>
    obtain ⟨h1, h⟩ := only_some h
    cases h
    unfold loudOk at h1
    simp only [Bool.and_eq_true, Bool.or_eq_true] at h1
    refine ⟨fun e => absurd rfl e, fun j d hj => ⟨⟨fun e => List.mem_cons_of_mem _ (hj.1 e), fun e => ?_, hj.2.2⟩, ?_⟩, ⟨fun _ => List.mem_cons_self, fun e => ?_, fun b e => by cases e⟩⟩
    · show (j, d.W) ∈ (bif w.isEmpty then p.mods else (i, w) :: p.mods)
      cases w.isEmpty
      · exact List.mem_cons_of_mem _ (hj.2.1 e)
      · exact hj.2.1 e
    · rintro (⟨_, h⟩ | ⟨h, hl⟩ | ⟨b, hb, h⟩ | ⟨b', h, hb⟩)
      · exact modsIn_mem h1.1 j d.W (hj.2.1 h)
      · rcases h1.2 with h2 | h2
        · exact absurd (emp h2) h
        · exact loudIn_mem h2.1 j (hj.1 hl)
      · rcases h1.2 with h2 | h2
        · rw [emp h2] at h; cases h
        · exact readsOk_mem h2.2 j b (hj.2.2 b hb) h
      · cases h
    · show (i, w) ∈ (bif w.isEmpty then p.mods else (i, w) :: p.mods)
      cases hw : w.isEmpty
      · exact List.mem_cons_self
      · exact absurd (emp hw) e
theorem Step.past {H : Hand} {nt b i : Nat} {o : Oper} {x y : Pt} {d : Dt} (h : Step E H nt ops o b i x d y) :
    (d.ft ≠ .any → d.W = []) ∧ (∀ j d', InPast x.p j d' → InPast y.p j d' ∧ (Clash d' d → b.testBit j = true)) ∧ InPast y.p i d := by
  obtain ⟨_, _, h | h⟩ := h
  · obtain ⟨h1, s1, h2, h3, h4, h5, h6⟩ := h
    rw [← h3] at h5
    exact then_some h5
  · obtain ⟨h1, h2, h3, h4, h5, h6⟩ := h
    rw [h5]
    refine ⟨fun _ => h3, fun j d' hj => ⟨hj, ?_⟩, ⟨fun e => ?_, fun e => absurd h3 e, fun b e => ?_⟩⟩
    · rintro (⟨h, _⟩ | ⟨h, _⟩ | ⟨b, _, h⟩ | ⟨b, h, _⟩)
      · rw [h4] at h; cases h
      · exact absurd h3 h
      · rw [h3] at h; cases h
      · rw [h4] at h; cases h
    · rw [h4] at e; cases e
    · rw [h4] at e; cases e

/-- A region's run in the text's order, with what it tells. -/
structure Told (E : Env) (H : Hand) (nt : Nat) (ops : Array Oper) (A : Nat → Pt) (B : Nat → Dt) : Prop where
  step : ∀ k o, ops[k]? = some o → ∃ b, Step E H nt ops o b k (A k) (B k) (A (k + 1))
  quiet : ∀ k, k < ops.size → (B k).ft ≠ .any → (B k).W = []
  order : ∀ j k, j < k → k < ops.size → Clash (B j) (B k) → ((Region.before ops).getD k 0).testBit j = true
theorem told_of {H : Hand} {nt : Nat} {t : Fr} {s : AS} {r : Fr × AS} (h : aopsD E H nt ops ops.toList (Region.before ops).toList 0 ⟨[], [], []⟩ t s = some r) :
    ∃ A B, Told E H nt ops A B ∧ (A 0).S = s ∧ (A 0).T = t ∧ (A ops.size).S = r.2 ∧ (A ops.size).T = r.1 := by
  obtain ⟨A, B, h1, h2, h3, h4⟩ := steps_of _ _ _ _ _ _ _ h
  have st : ∀ k o, ops[k]? = some o → Step E H nt ops o ((Region.before ops).getD k 0) k (A k) (B k) (A (k + 1)) := fun k o ho => by
    have := h4 k o (by simpa using ho)
    rw [Nat.zero_add] at this
    rwa [show (Region.before ops).toList.getD k 0 = (Region.before ops).getD k 0 from by simp [List.getD_eq_getElem?_getD, Array.getD_eq_getD_getElem?]] at this
  have get : ∀ k, k < ops.size → ∃ o, ops[k]? = some o := fun k hk => ⟨_, Array.getElem?_eq_getElem hk⟩
  have past : ∀ k, k ≤ ops.size → ∀ j, j < k → InPast (A k).p j (B j) := by
    intro k
    induction k with
    | zero => intro _ j hj; omega
    | succ k ih =>
      intro hk j hj
      obtain ⟨o, ho⟩ := get k (by omega)
      have hp := (st k o ho).past
      by_cases e : j = k
      · subst e; exact hp.2.2
      · exact (hp.2.1 j _ (ih (by omega) j (by omega))).1
  refine ⟨A, B, ⟨fun k o ho => ⟨_, st k o ho⟩, fun k hk => ?_, fun j k hj hk hc => ?_⟩, by rw [h1], by rw [h1], ?_, ?_⟩
  · obtain ⟨o, ho⟩ := get k hk
    exact (st k o ho).past.1
  · obtain ⟨o, ho⟩ := get k hk
    exact ((st k o ho).past.2.1 j _ (past k (by omega) j hj)).2 hc
  · simpa using h2
  · simpa using h3
end Go.Ev
/- Regions that draw their order: what the memories of the text's order are worth in another one. -/
namespace Go.Ev
variable {E : Env} {P : Program} {H : Hand} {nt : Nat} {ops : Array Oper} {A : Nat → Pt} {B : Nat → Dt}

/-- The first free number ahead of a step. -/
def nx (A : Nat → Pt) (k : Nat) : Nat := (A k).S.next
noncomputable def heapAt (A : Nat → Pt) (k id : Nat) : Option Blk := (A k).S.heap.get id
theorem lt_get {k : Nat} (hk : k < ops.size) : ∃ o, ops[k]? = some o := ⟨_, Array.getElem?_eq_getElem hk⟩
theorem get_lt {k : Nat} {o : Oper} (h : ops[k]? = some o) : k < ops.size := (Array.getElem?_eq_some_iff.1 h).1
theorem Told.grow (hT : Told E H nt ops A B) (hH : HandKept H) {k : Nat} (hk : k < ops.size) :
    nx A k ≤ nx A (k + 1) ∧ ∀ id, id < nx A k → id ∉ (B k).W → heapAt A (k + 1) id = heapAt A k id := by
  obtain ⟨o, ho⟩ := lt_get hk
  obtain ⟨b, _, _, h | h⟩ := hT.step k o ho
  · obtain ⟨_, s1, h2, h3, _, _, h6⟩ := h
    have hk := aop_kept hH h2
    unfold nx heapAt
    rw [h6]
    exact ⟨hk.next, fun id hi hw => hk.keep id hi hi (h3 ▸ hw)⟩
  · obtain ⟨_, _, _, _, _, h6⟩ := h
    unfold nx heapAt
    rw [h6]
    exact ⟨Nat.le_refl _, fun _ _ _ => rfl⟩
theorem Told.still (hT : Told E H nt ops A B) {k : Nat} (hk : k < ops.size) (hf : (B k).ft ≠ .any) : nx A (k + 1) = nx A k ∧ ∀ id, heapAt A (k + 1) id = heapAt A k id := by
  obtain ⟨o, ho⟩ := lt_get hk
  obtain ⟨b, _, _, h | h⟩ := hT.step k o ho
  · obtain ⟨_, s1, h2, h3, h4, _, h6⟩ := h
    have h7 := (aop_foot (s2 := (A k).S.anew) (h4 ▸ hf) (fun _ _ => rfl) h2).1
    dsimp only at h7
    unfold nx heapAt
    rw [h6, h7]
    exact ⟨rfl, fun _ => rfl⟩
  · obtain ⟨_, _, _, _, _, h6⟩ := h
    unfold nx heapAt
    rw [h6]
    exact ⟨rfl, fun _ => rfl⟩
theorem Told.mono (hT : Told E H nt ops A B) (hH : HandKept H) {j k : Nat} (hj : j ≤ k) (hk : k ≤ ops.size) : nx A j ≤ nx A k := by
  induction k with
  | zero => rw [show j = 0 from by omega]; exact Nat.le_refl _
  | succ k ih =>
    by_cases e : j = k + 1
    · rw [e]; exact Nat.le_refl _
    · exact Nat.le_trans (ih (by omega) (by omega)) (hT.grow hH (by omega)).1
theorem Told.stay (hT : Told E H nt ops A B) (hH : HandKept H) {a b id : Nat} (hab : a ≤ b) (hb : b ≤ ops.size) (h : ∀ k, a ≤ k → k < b → id < nx A k ∧ id ∉ (B k).W) : heapAt A b id = heapAt A a id := by
  induction b with
  | zero => rw [show a = 0 from by omega]
  | succ b ih =>
    by_cases e : a = b + 1
    · rw [e]
    · have h1 := h b (by omega) (by omega)
      rw [(hT.grow hH (by omega)).2 id h1.1 h1.2]
      exact ih (by omega) (by omega) fun k h1 h2 => h k h1 (by omega)
/-- What a step leaves in its slot. -/
def outcome (v : Option Value) : Value := Option.casesOn (motive := fun _ => Value) v (.tuple #[]) fun v => v
theorem Told.slot (hT : Told E H nt ops A B) {k : Nat} {o : Oper} (ho : ops[k]? = some o) (d : Nat) :
    (A (k + 1)).T.get d = (if o.dst = some d then some (outcome (B k).v) else (A k).T.get d) ∧ (o.dst = some d → d < nt) := by
  obtain ⟨b, _, h, _⟩ := hT.step k o ho
  cases hd : o.dst with
  | none =>
    rw [hd] at h
    have h : some (A k).T = some (A (k + 1)).T := h
    rw [← Option.some.inj h]
    exact ⟨by rw [if_neg (by simp)], fun e => by cases e⟩
  | some d' =>
    rw [hd] at h
    obtain ⟨h1, h2⟩ := only_some h
    rw [← Option.some.inj h2, Tr.get_set]
    constructor
    · by_cases e : d' = d
      · rw [if_pos e, if_pos (by rw [e])]; rfl
      · rw [if_neg e, if_neg (fun h => e (by cases h; rfl))]
    · intro e; cases e; exact le_of_ble h1
theorem Told.stayT (hT : Told E H nt ops A B) {a b d : Nat} (hab : a ≤ b) (hb : b ≤ ops.size) (h : ∀ k o, a ≤ k → k < b → ops[k]? = some o → o.dst ≠ some d) : (A b).T.get d = (A a).T.get d := by
  induction b with
  | zero => rw [show a = 0 from by omega]
  | succ b ih =>
    by_cases e : a = b + 1
    · rw [e]
    · obtain ⟨o, ho⟩ := lt_get (ops := ops) (k := b) (by omega)
      rw [(hT.slot ho d).1, if_neg (h b o (by omega) (by omega) ho)]
      exact ih (by omega) (by omega) fun k o h1 h2 => h k o h1 (by omega)

/-! What is in a block, a slot when these have been done. -/
def wrote (A : Nat → Pt) (B : Nat → Dt) (D : Nat → Bool) (id k : Nat) : Bool := (D k && has (B k).W id) || Nat.ble (nx A k) id
def lw (ops : Array Oper) (A : Nat → Pt) (B : Nat → Dt) (D : Nat → Bool) (id : Nat) : Nat := lst (wrote A B D id) ops.size
noncomputable def V (ops : Array Oper) (A : Nat → Pt) (B : Nat → Dt) (D : Nat → Bool) (id : Nat) : Option Blk := heapAt A (lw ops A B D id) id
noncomputable def X (ops : Array Oper) (A : Nat → Pt) (B : Nat → Dt) (D : Nat → Bool) : AS := ⟨mkT (V ops A B D) (nx A ops.size), nx A ops.size, nx A ops.size, []⟩
def slotBy (ops : Array Oper) (D : Nat → Bool) (d k : Nat) : Bool := D k && (match ops[k]? with | some o => o.dst == some d | none => false)
def ls (ops : Array Oper) (D : Nat → Bool) (d : Nat) : Nat := lst (slotBy ops D d) ops.size
noncomputable def U (ops : Array Oper) (A : Nat → Pt) (D : Nat → Bool) (d : Nat) : Option Value := (A (ls ops D d)).T.get d

theorem wrote_false {D : Nat → Bool} {id k : Nat} : wrote A B D id k = false ↔ (D k = true → id ∉ (B k).W) ∧ id < nx A k := by
  unfold wrote
  rw [Bool.or_eq_false_iff]
  constructor
  · rintro ⟨h1, h2⟩
    refine ⟨fun hd hw => ?_, ?_⟩
    · rw [hd, has_iff.2 hw] at h1; cases h1
    · apply Classical.byContradiction
      intro h
      rw [Nat.ble_eq_true_of_le (show nx A k ≤ id from by omega)] at h2
      cases h2
  · rintro ⟨h1, h2⟩
    refine ⟨?_, ?_⟩
    · cases hd : D k with
      | false => rfl
      | true => exact Bool.eq_false_iff.2 fun e => h1 hd (has_iff.1 (by simpa using e))
    · exact Bool.eq_false_iff.2 fun e => by have := Nat.le_of_ble_eq_true e; omega
theorem slotBy_false {D : Nat → Bool} {d k : Nat} {o : Oper} (ho : ops[k]? = some o) : slotBy ops D d k = false ↔ (D k = true → o.dst ≠ some d) := by
  unfold slotBy
  rw [ho]
  cases hd : D k with
  | false => simp
  | true => simp
theorem Told.V_eq (hT : Told E H nt ops A B) (hH : HandKept H) {D : Nat → Bool} {i id : Nat} (hi : i ≤ ops.size) (hid : id < nx A i) (h1 : ∀ k, k < i → id ∈ (B k).W → D k = true)
    (h2 : ∀ k, i ≤ k → k < ops.size → D k = true → id ∉ (B k).W) : lw ops A B D id ≤ i ∧ V ops A B D id = heapAt A i id := by
  have hle : lw ops A B D id ≤ i := lst_up hi fun k hk hs => wrote_false.2 ⟨fun hd => h2 k hk hs hd, Nat.lt_of_lt_of_le hid (hT.mono hH hk (by omega))⟩
  refine ⟨hle, (hT.stay hH hle hi fun k hk hki => ?_).symm⟩
  have := wrote_false.1 (lst_not (f := wrote A B D id) hk (by omega : k < ops.size))
  exact ⟨this.2, fun hw => this.1 (h1 k hki hw) hw⟩
theorem Told.U_eq (hT : Told E H nt ops A B) {D : Nat → Bool} {i d : Nat} (hi : i ≤ ops.size) (h1 : ∀ k o, k < i → ops[k]? = some o → o.dst = some d → D k = true)
    (h2 : ∀ k o, i ≤ k → ops[k]? = some o → D k = true → o.dst ≠ some d) : ls ops D d ≤ i ∧ U ops A D d = (A i).T.get d := by
  have hle : ls ops D d ≤ i := lst_up hi fun k hk hs => by
    obtain ⟨o, ho⟩ := lt_get hs
    exact (slotBy_false ho).2 (h2 k o hk ho)
  refine ⟨hle, (hT.stayT hle hi fun k o hk hki ho hd => ?_).symm⟩
  have := (slotBy_false ho).1 (lst_not (f := slotBy ops D d) hk (by omega : k < ops.size))
  exact this (h1 k o hki ho hd) hd

/-- An operation that may come up. -/
structure Rdy (ops : Array Oper) (B : Nat → Dt) (D : Nat → Bool) (i : Nat) (o : Oper) : Prop where
  get : ops[i]? = some o
  new : D i = false
  ahead : ∀ k, k < i → Clash (B k) (B i) → D k = true
  behind : ∀ k, i < k → k < ops.size → D k = true → ¬ Clash (B i) (B k)
  aheadT : ∀ k o' d, k < i → ops[k]? = some o' → o'.dst = some d → Names ops o d → D k = true
  behindT : ∀ k o' d, i < k → ops[k]? = some o' → D k = true → Names ops o d → o'.dst ≠ some d
theorem Told.rdy (hT : Told E H nt ops A B) (ht : tidy ops = true) {listed : Array Bool} (hc : Closed ops fun i => listed.getD i false = true) {i : Nat} (hi : i ∈ Region.ready .any ops listed) :
    ∃ o, Rdy ops B (fun k => listed.getD k false) i o := by
  obtain ⟨h0, o, ho, h1⟩ := mem_ready.1 hi
  have hnew : listed.getD i false = false := by
    rw [Array.getD_eq_getD_getElem?] at h0 ⊢
    cases h : listed[i]? with
    | none => rfl
    | some b => rw [h] at h0; simpa using h0
  have hno : ∀ k, listed.getD k false = true → ((Region.before ops).getD k 0).testBit i = true → False := fun k hk hb => by
    have := hc.bits k hk hb
    rw [hnew] at this; cases this
  refine ⟨o, ho, hnew, fun k hk hcl => ready_bits hc hi (hT.order k i hk (get_lt ho) hcl), fun k hk hs hd hcl => hno k hd (hT.order i k hk hs hcl), fun k o' d hk ho' hd hn => ?_, fun k o' d hk ho' hd hn hd' => ?_⟩
  · have := tidy_spec ht ho' ho hd hn (by omega)
    rw [Nat.max_eq_right (by omega), Nat.min_eq_left (by omega)] at this
    exact ready_bits hc hi this
  · have := tidy_spec ht ho' ho hd' hn (by omega)
    rw [Nat.max_eq_left (by omega), Nat.min_eq_right (by omega)] at this
    exact hno k hd this

/-! What holds when these have been done. -/
structure Inv (E : Env) (nt : Nat) (ops : Array Oper) (A : Nat → Pt) (B : Nat → Dt) (β0 : Bond) (w0 : World) (D : Nat → Bool) (β : Bond) (w : World) (a : Act) : Prop where
  ext : Ext β0 β
  sim : Sim E β (X ops A B D) w
  inB : ∀ id x b, β id = some x → V ops A B D id = some b → InB E (cut β (nx A (lw ops A B D id))) b
  made : ∀ id x, β id = some x → β0 id = none → ∃ k, D k = true ∧ k < ops.size ∧ nx A k ≤ id ∧ id < nx A (k + 1)
  size : a.tmps.size = nt
  slots : ∀ d v, U ops A D d = some v → ∃ v', a.tmps[d]? = some v' ∧ VR (cut β (nx A (ls ops D d))) v v'
  share : ∀ i j c sh g sh' g' k, β i = some (c, sh, g) → β j = some (c, sh', g') → k < ops.size → i < nx A k → nx A k ≤ j → j < nx A (k + 1) → (B k).W ≠ []
  grow : w0.heap.size ≤ w.heap.size
  frame : ∀ c, c < w0.heap.size → (∀ i x, β0 i = some x → x.1 ≠ c) → w.heap[c]? = w0.heap[c]?
  fresh : ∀ i c sh g, β i = some (c, sh, g) → β0 i = none → w0.heap.size ≤ c ∨ ∃ b sh' g', β0 b = some (c, sh', g') ∧ (b < (A 0).S.mark → ∃ f ∈ (A ops.size).S.wr, f ≤ b)
  same : Same w0 w

theorem VR.outcome {β : Bond} {v : Option Value} {v' : Value} (hv : ∀ u, v = some u → VR β u v') (hn : v = none → v' = undef) : VR β (outcome v) v' := by
  cases v with
  | none => rw [hn rfl]; exact .tuple rfl (fun i v v' h => by simp at h)
  | some u => exact hv u rfl
section slots
variable {D D' : Nat → Bool} {β β' : Bond} {a : Act} {i : Nat} {o : Oper} {v' : Value}
theorem Told.slots_step (hT : Told E H nt ops A B) (hr : Rdy ops B D i o) (hD : ∀ k, D' k = (k == i || D k)) (hs : a.tmps.size = nt)
    (h : ∀ d v, U ops A D d = some v → ∃ v', a.tmps[d]? = some v' ∧ VR (cut β (nx A (ls ops D d))) v v') (he : Ext β β')
    (hv : VR (cut β' (nx A (i + 1))) (outcome (B i).v) v') :
    (a.put o.dst v').tmps.size = nt ∧ ∀ d v, U ops A D' d = some v → ∃ v'', (a.put o.dst v').tmps[d]? = some v'' ∧ VR (cut β' (nx A (ls ops D' d))) v v'' := by
  have hi := get_lt hr.get
  constructor
  · cases o.dst with
    | none => exact hs
    | some d => show (a.tmps.setIfInBounds d v').size = nt; simpa using hs
  · intro d v hu
    by_cases hd : o.dst = some d
    · have hls : ls ops D' d = i + 1 := by
        refine Nat.le_antisymm (lst_up (by omega) fun k hk hks => ?_) (lst_lt ?_ hi)
        · obtain ⟨o', ho'⟩ := lt_get hks
          refine (slotBy_false ho').2 fun hd' => hr.behindT k o' d (by omega) ho' ?_ (.inl hd)
          rw [hD] at hd'
          have : (k == i) = false := by simp; omega
          simpa [this] using hd'
        · unfold slotBy
          rw [hr.get, hD]
          simp [hd]
      have hsl := hT.slot hr.get d
      rw [if_pos hd] at hsl
      unfold U at hu
      rw [hls, hsl.1] at hu
      cases hu
      rw [hls, hd]
      exact ⟨v', by show (a.tmps.setIfInBounds d v')[d]? = _; rw [Array.getElem?_setIfInBounds_self_of_lt (by rw [hs]; exact hsl.2 hd)], hv⟩
    · have hls : ls ops D' d = ls ops D d := lst_congr fun k hk => by
        obtain ⟨o', ho'⟩ := lt_get hk
        unfold slotBy
        rw [ho', hD]
        by_cases e : k = i
        · subst e
          have := hr.get
          rw [ho'] at this
          cases this
          have hdd : (o.dst == some d) = false := by simpa using hd
          simp [hdd]
        · have : (k == i) = false := by simpa using e
          rw [this, Bool.false_or]
      unfold U at hu
      rw [hls] at hu
      obtain ⟨v'', h1, h2⟩ := h d v hu
      rw [hls]
      refine ⟨v'', ?_, h2.ext he.cut⟩
      cases hdo : o.dst with
      | none => exact h1
      | some d' =>
        show (a.tmps.setIfInBounds d' v')[d]? = _
        rw [Array.getElem?_setIfInBounds_ne (fun e => hd (by rw [hdo, e]))]
        exact h1
end slots
end Go.Ev
/- Regions that draw their order: what a step leaves. -/
namespace Go.Ev
variable {E : Env} {P : Program} {H : Hand} {nt : Nat} {ops : Array Oper} {A : Nat → Pt} {B : Nat → Dt}
variable {β0 : Bond} {w0 : World} {D D' : Nat → Bool} {β β1 : Bond} {w w' : World} {a : Act} {i : Nat} {o : Oper} {v' : Value}

theorem Inv.nopre (h : Inv E nt ops A B β0 w0 D β w a) {c : Nat} (hc : c < w0.heap.size) (hn : ∀ i x, β0 i = some x → x.1 ≠ c) : ∀ i x, β i = some x → x.1 ≠ c := by
  intro i x e ec
  obtain ⟨c', sh, g⟩ := x
  cases ec
  cases hb : β0 i with
  | none =>
    rcases h.fresh i _ sh g e hb with hf | ⟨b, sh', g', hb', _⟩
    · omega
    · exact hn b _ hb' rfl
  | some y =>
    have := h.ext i y hb
    rw [e] at this
    cases this
    exact hn i _ hb rfl
theorem Inv.quiet (hT : Told E H nt ops A B) (h : Inv E nt ops A B β0 w0 D β w a) (hr : Rdy ops B D i o) (hD : ∀ k, D' k = (k == i || D k)) (hf : (B i).ft ≠ .any)
    (hs : Sim E β (X ops A B D) w') (hg : w.heap.size ≤ w'.heap.size) (hfr : ∀ c, c < w.heap.size → (∀ i x, β i = some x → x.1 ≠ c) → w'.heap[c]? = w.heap[c]?)
    (hsm : Same w w') (hv : VR (cut β (nx A (i + 1))) (outcome (B i).v) v') : Inv E nt ops A B β0 w0 D' β w' (a.put o.dst v') := by
  have hi := get_lt hr.get
  have hw : ∀ id, lw ops A B D' id = lw ops A B D id := fun id => lst_congr fun k hk => by
    unfold wrote
    rw [hD]
    by_cases e : k = i
    · subst e
      rw [hT.quiet _ hi hf]
      simp [has]
    · have : (k == i) = false := by simpa using e
      rw [this, Bool.false_or]
  have hV : V ops A B D' = V ops A B D := by
    funext id
    unfold V
    rw [hw]
  have hX : X ops A B D' = X ops A B D := by
    unfold X
    rw [hV]
  obtain ⟨s1, s2⟩ := hT.slots_step hr hD h.size h.slots (Ext.refl β) hv
  exact {
    ext := h.ext
    sim := hX ▸ hs
    inB := fun id x b e hb => by
      rw [hw]
      exact h.inB id x b e (by rwa [hV] at hb)
    made := fun id x e e0 => by
      obtain ⟨k, h1, h2, h3, h4⟩ := h.made id x e e0
      exact ⟨k, by rw [hD, h1, Bool.or_true], h2, h3, h4⟩
    size := s1
    slots := s2
    share := h.share
    grow := Nat.le_trans h.grow hg
    frame := fun c hc hn => (hfr c (Nat.lt_of_lt_of_le hc h.grow) (h.nopre hc hn)).trans (h.frame c hc hn)
    fresh := h.fresh
    same := h.same.trans hsm }

/-- Two bonds, one below a number, one above. -/
def join (β β1 : Bond) (n : Nat) : Bond := fun id => if id < n then β1 id else β id
theorem Inv.loud (hT : Told E H nt ops A B) (hH : HandKept H) (h : Inv E nt ops A B β0 w0 D β w a) (hr : Rdy ops B D i o) (hD : ∀ k, D' k = (k == i || D k)) (hf : (B i).ft = .any)
    {s1 : AS} (p : Post E (cut β (nx A i)) (A i).S.anew w β1 s1 w') (h1 : s1.next = nx A (i + 1)) (h2 : ∀ id, s1.heap.get id = heapAt A (i + 1) id) (hW : s1.wr = (B i).W)
    (hS : ∀ f ∈ (B i).W, f < (A 0).S.mark → f ∈ (A ops.size).S.wr) (hng : E.ng ≤ nx A 0) (h0 : ∀ id x, β0 id = some x → id < nx A 0)
    (hv : VR β1 (outcome (B i).v) v') : Inv E nt ops A B β0 w0 D' (join β β1 (nx A (i + 1))) w' (a.put o.dst v') := by
  have hi := get_lt hr.get
  have hn01 : nx A i ≤ nx A (i + 1) := (hT.grow hH hi).1
  have hn0 : nx A 0 ≤ nx A i := hT.mono hH (by omega) (by omega)
  have hnm : nx A (i + 1) ≤ nx A ops.size := hT.mono hH (by omega) (by omega)
  have hD1 : D' i = true := by rw [hD]; simp
  have hDo : ∀ k, D k = true → D' k = true := fun k e => by rw [hD, e, Bool.or_true]
  have hDn : ∀ k, k ≠ i → D' k = D k := fun k e => by
    have : (k == i) = false := by simpa using e
    rw [hD, this, Bool.false_or]
  have F1 : ∀ k, k < i → (B k).W ≠ [] → D k = true := fun k hk e => hr.ahead k hk (.inl ⟨hf, e⟩)
  have F2 : ∀ k, i < k → k < ops.size → D k = true → (B k).W = [] := fun k hk hs hd => by
    apply Classical.byContradiction
    intro e
    exact hr.behind k hk hs hd (.inr (.inl ⟨e, hf⟩))
  have F3 : (B i).W ≠ [] → ∀ k, i < k → k < ops.size → D k = true → (B k).ft ≠ .any := fun e k hk hs hd ha => hr.behind k hk hs hd (.inl ⟨ha, e⟩)
  have uniq : ∀ k id, k < ops.size → nx A k ≤ id → id < nx A (k + 1) → nx A i ≤ id → id < nx A (i + 1) → k = i := fun k id hk l1 l2 l3 l4 => by
    rcases Nat.lt_trichotomy k i with e | e | e
    · have := hT.mono hH (show k + 1 ≤ i from e) (by omega); omega
    · exact e
    · have := hT.mono hH (show i + 1 ≤ k from e) (by omega); omega
  have b1lt : ∀ id x, β1 id = some x → id < nx A (i + 1) := fun id x e => by
    obtain ⟨c, sh, g⟩ := x
    exact h1 ▸ (p.sim.lt id c sh g e).1
  have eqB : ∀ id, id < nx A i → β1 id = β id := fun id hid => by
    cases hb : β id with
    | some y => exact p.ext id y (cut_some.2 ⟨hid, hb⟩)
    | none =>
      cases hb1 : β1 id with
      | none => rfl
      | some x =>
        have := p.new id x hb1 (by rw [cut_of hid, hb])
        have : nx A i ≤ id := this
        omega
  have gap : ∀ id, nx A i ≤ id → id < nx A (i + 1) → β id = none := fun id l1 l2 => by
    cases hb : β id with
    | none => rfl
    | some x =>
      cases hb0 : β0 id with
      | some y => have := h0 id y hb0; omega
      | none =>
        obtain ⟨k, h3, h4, h5, h6⟩ := h.made id x hb hb0
        have := uniq k id h4 h5 h6 l1 l2
        subst this
        rw [hr.new] at h3; cases h3
  have over : ∀ id x, nx A (i + 1) ≤ id → β id = some x → ∃ k, i < k ∧ k < ops.size ∧ D k = true ∧ nx A k ≤ id ∧ id < nx A (k + 1) := fun id x l1 hb => by
    cases hb0 : β0 id with
    | some y => have := h0 id y hb0; omega
    | none =>
      obtain ⟨k, h3, h4, h5, h6⟩ := h.made id x hb hb0
      refine ⟨k, ?_, h4, h3, h5, h6⟩
      apply Classical.byContradiction
      intro e
      have := hT.mono hH (show k + 1 ≤ i + 1 from by omega) (by omega)
      omega
  have jlo : ∀ id, id < nx A (i + 1) → join β β1 (nx A (i + 1)) id = β1 id := fun id e => if_pos e
  have jhi : ∀ id, ¬ id < nx A (i + 1) → join β β1 (nx A (i + 1)) id = β id := fun id e => if_neg e
  have hext : Ext β (join β β1 (nx A (i + 1))) := fun id x e => by
    by_cases l : id < nx A (i + 1)
    · rw [jlo id l]
      by_cases l2 : id < nx A i
      · rw [eqB id l2]; exact e
      · rw [gap id (by omega) l] at e; cases e
    · rw [jhi id l]; exact e
  have hext1 : Ext β1 (join β β1 (nx A (i + 1))) := fun id x e => by rw [jlo id (b1lt id x e)]; exact e
  have hext2 : Ext β1 (cut (join β β1 (nx A (i + 1))) (nx A (i + 1))) := fun id x e => cut_some.2 ⟨b1lt id x e, hext1 id x e⟩
  have V1 : ∀ id, id < nx A (i + 1) → lw ops A B D' id ≤ i + 1 ∧ V ops A B D' id = heapAt A (i + 1) id := fun id l => by
    refine hT.V_eq hH (by omega) l (fun k hk hw => ?_) (fun k hk hs hd hw => ?_)
    · by_cases e : k = i
      · rw [e]; exact hD1
      · exact hDo k (F1 k (by omega) (List.ne_nil_of_mem hw))
    · rw [hDn k (by omega)] at hd
      rw [F2 k (by omega) hs hd] at hw
      cases hw
  have V2 : ∀ id, (id ∈ (B i).W → nx A i ≤ id) → lw ops A B D' id = lw ops A B D id ∧ V ops A B D' id = V ops A B D id := fun id hw => by
    have : lw ops A B D' id = lw ops A B D id := lst_congr fun k hk => by
      by_cases e : k = i
      · subst e
        unfold wrote
        by_cases hm : id ∈ (B k).W
        · rw [Nat.ble_eq_true_of_le (hw hm), Bool.or_true, Bool.or_true]
        · rw [show has (B k).W id = false from Bool.eq_false_iff.2 fun e => hm (has_iff.1 e), Bool.and_false, Bool.and_false]
      · unfold wrote
        rw [hDn k e]
    refine ⟨this, ?_⟩
    unfold V
    rw [this]
  have noshare : ∀ id2 c sh g, nx A (i + 1) ≤ id2 → β id2 = some (c, sh, g) → ∀ id1 sh' g', id1 < nx A i → β id1 = some (c, sh', g') → False := fun id2 c sh g l hb id1 sh' g' l1 hb1 => by
    obtain ⟨k, k1, k2, k3, k4, k5⟩ := over id2 _ l hb
    have hk := hT.mono hH (show i ≤ k from by omega) (by omega)
    exact h.share id1 id2 c sh' g' sh g k hb1 hb k2 (by omega) k4 k5 (F2 k k1 k2 k3)
  have noshare1 : ∀ id2 c sh g, nx A (i + 1) ≤ id2 → β id2 = some (c, sh, g) → ∀ id1 sh' g', β1 id1 = some (c, sh', g') → False := fun id2 c sh g l hb id1 sh' g' hb1 => by
    by_cases l1 : id1 < nx A i
    · rw [eqB id1 l1] at hb1
      exact noshare id2 c sh g l hb id1 sh' g' l1 hb1
    · rcases p.fresh id1 c sh' g' hb1 (if_neg l1) with hc | ⟨b, sh2, g2, hb2, _⟩
      · have := (h.sim.lt id2 c sh g hb).2; omega
      · have := cut_some.1 hb2
        exact noshare id2 c sh g l hb b sh2 g2 this.1 this.2
  have XD : ∀ (D : Nat → Bool) id, (X ops A B D).heap.get id = if id < nx A ops.size then V ops A B D id else none := fun D id => get_mkT _ _ _
  have Xlo : ∀ id, id < nx A (i + 1) → (X ops A B D').heap.get id = s1.heap.get id := fun id l => by
    rw [XD, if_pos (by omega), (V1 id l).2, h2]
  have Xhi : ∀ id, nx A (i + 1) ≤ id → (X ops A B D').heap.get id = (X ops A B D).heap.get id := fun id l => by
    rw [XD, XD, (V2 id fun _ => by omega).2]
  obtain ⟨t1, t2⟩ := hT.slots_step hr hD h.size h.slots hext (hv.ext hext2)
  refine { ext := fun id x e => hext id x (h.ext id x e), sim := ?_, inB := ?_, made := ?_, size := t1, slots := t2, share := ?_, grow := Nat.le_trans h.grow p.size, frame := ?_, fresh := ?_, same := h.same.trans p.same }
  · refine ⟨?_, ?_, ?_, ?_, ?_, ?_, ?_⟩
    · intro id c sh g e
      by_cases l : id < nx A (i + 1)
      · rw [jlo id l] at e
        exact ⟨show id < nx A ops.size from by omega, (p.sim.lt id c sh g e).2⟩
      · rw [jhi id l] at e
        have := h.sim.lt id c sh g e
        exact ⟨this.1, Nat.lt_of_lt_of_le this.2 p.size⟩
    · intro id c sh g b e hb
      by_cases l : id < nx A (i + 1)
      · rw [jlo id l] at e
        rw [Xlo id l] at hb
        obtain ⟨ob, h3, h4⟩ := p.sim.blk id c sh g b e hb
        exact ⟨ob, h3, h4.ext hext1⟩
      · rw [jhi id l] at e
        rw [Xhi id (by omega)] at hb
        obtain ⟨ob, h3, h4⟩ := h.sim.blk id c sh g b e hb
        refine ⟨ob, ?_, h4.ext hext⟩
        rw [p.frame c (h.sim.lt id c sh g e).2 fun j x ej ec => ?_]
        · exact h3
        · obtain ⟨c', sh', g'⟩ := x
          cases ec
          have := cut_some.1 ej
          exact noshare id _ sh g (by omega) e j sh' g' this.1 this.2
    · intro j k c sh g sh' g' ej ek hne aj ak
      by_cases lj : j < nx A (i + 1)
      · rw [jlo j lj] at ej
        by_cases lk : k < nx A (i + 1)
        · rw [jlo k lk] at ek
          rw [Xlo j lj] at aj ⊢
          rw [Xlo k lk] at ak ⊢
          exact p.sim.inj j k c sh g sh' g' ej ek hne aj ak
        · rw [jhi k lk] at ek
          exact (noshare1 k c sh' g' (by omega) ek j sh g ej).elim
      · rw [jhi j lj] at ej
        by_cases lk : k < nx A (i + 1)
        · rw [jlo k lk] at ek
          exact (noshare1 j c sh g (by omega) ej k sh' g' ek).elim
        · rw [jhi k lk] at ek
          rw [Xhi j (by omega)] at aj ⊢
          rw [Xhi k (by omega)] at ak ⊢
          exact h.sim.inj j k c sh g sh' g' ej ek hne aj ak
    · intro id x f rel n e hfm
      by_cases l : id < nx A (i + 1)
      · rw [jlo id l] at e
        rw [Xlo id l] at hfm
        obtain ⟨g1, g2, ids, g3, g4, g5⟩ := p.sim.fam id x f rel n e hfm
        exact ⟨g1, by rw [jlo f (by omega)]; exact g2, ids, by rw [Xlo f (by omega)]; exact g3, g4, g5⟩
      · rw [jhi id l] at e
        rw [Xhi id (by omega)] at hfm
        obtain ⟨g1, g2, ids, g3, g4, g5⟩ := h.sim.fam id x f rel n e hfm
        have hidm := (h.sim.lt id x.1 x.2.1 x.2.2 e).1
        have hidm : id < nx A ops.size := hidm
        have hfx : f ∉ (B i).W := fun hw => by
          obtain ⟨k, k1, k2, k3, k4, k5⟩ := over id x (by omega) e
          have hq := F3 (List.ne_nil_of_mem hw) k k1 k2 k3
          have := (hT.still k2 hq).1
          omega
        have hXf : (X ops A B D').heap.get f = (X ops A B D).heap.get f := by
          rw [XD, XD, (V2 f fun hw => absurd hw hfx).2]
        refine ⟨g1, ?_, ids, by rw [hXf]; exact g3, g4, g5⟩
        by_cases lf : f < nx A (i + 1)
        · rw [jlo f lf]
          cases hbf : β1 f with
          | none => rfl
          | some y =>
            obtain ⟨c, sh, g⟩ := y
            obtain ⟨ob, _, h4⟩ := p.sim.blk f c sh g (.fam ids) hbf (by rw [← Xlo f lf, hXf]; exact g3)
            cases h4
        · rw [jhi f lf]; exact g2
    · exact Nat.le_trans hng (show nx A 0 ≤ nx A ops.size from by omega)
    · intro g hg hl
      rw [jlo g (by omega)]
      exact p.sim.glob g hg hl
    · intro d hd
      refine ⟨(p.sim.laid d hd).1, fun id x e => ?_⟩
      by_cases l : id < nx A (i + 1)
      · rw [jlo id l] at e
        exact (p.sim.laid d hd).2 id x e
      · rw [jhi id l] at e
        exact (h.sim.laid d hd).2 id x e
  · intro id x b e hb
    by_cases l : id < nx A (i + 1)
    · rw [jlo id l] at e
      by_cases hw : id ∈ (B i).W ∨ nx A i ≤ id
      · have hlw : lw ops A B D' id = i + 1 := Nat.le_antisymm (V1 id l).1 (lst_lt (by
          unfold wrote
          rcases hw with hw | hw
          · rw [hD1, has_iff.2 hw]; rfl
          · rw [Nat.ble_eq_true_of_le hw, Bool.or_true]) hi)
        rw [(V1 id l).2, ← h2] at hb
        obtain ⟨c, sh, g⟩ := x
        obtain ⟨ob, _, h4⟩ := p.sim.blk id c sh g b e hb
        rw [hlw]
        exact ⟨sh, g, ob, h4.ext hext2⟩
      · have hv2 := V2 id fun hm => absurd (.inl hm) hw
        rw [eqB id (by omega)] at e
        rw [hv2.2] at hb
        rw [hv2.1]
        exact (h.inB id x b e hb).ext hext.cut
    · rw [jhi id l] at e
      have hv2 := V2 id fun _ => by omega
      rw [hv2.2] at hb
      rw [hv2.1]
      exact (h.inB id x b e hb).ext hext.cut
  · intro id x e e0
    by_cases l : id < nx A (i + 1)
    · rw [jlo id l] at e
      by_cases l2 : id < nx A i
      · rw [eqB id l2] at e
        obtain ⟨k, h3, h4, h5, h6⟩ := h.made id x e e0
        exact ⟨k, hDo k h3, h4, h5, h6⟩
      · exact ⟨i, hD1, hi, by omega, l⟩
    · rw [jhi id l] at e
      obtain ⟨k, h3, h4, h5, h6⟩ := h.made id x e e0
      exact ⟨k, hDo k h3, h4, h5, h6⟩
  · intro j1 j2 c sh g sh' g' k e1 e2 hk l1 l2 l3
    by_cases lj : j2 < nx A (i + 1)
    · rw [jlo j2 lj] at e2
      rw [jlo j1 (by omega)] at e1
      by_cases lj2 : j2 < nx A i
      · rw [eqB j2 lj2] at e2
        rw [eqB j1 (by omega)] at e1
        exact h.share j1 j2 c sh g sh' g' k e1 e2 hk l1 l2 l3
      · have := uniq k j2 hk l2 l3 (by omega) lj
        subst this
        rw [eqB j1 l1] at e1
        rcases p.fresh j2 c sh' g' e2 (if_neg lj2) with hc | ⟨b, sh2, g2, hb2, hm⟩
        · have := (h.sim.lt j1 c sh g e1).2; omega
        · obtain ⟨f, hf1, _⟩ := hm (cut_some.1 hb2).1
          rw [hW] at hf1
          exact List.ne_nil_of_mem hf1
    · rw [jhi j2 lj] at e2
      by_cases lj1 : j1 < nx A (i + 1)
      · rw [jlo j1 lj1] at e1
        exact (noshare1 j2 c sh' g' (by omega) e2 j1 sh g e1).elim
      · rw [jhi j1 lj1] at e1
        exact h.share j1 j2 c sh g sh' g' k e1 e2 hk l1 l2 l3
  · intro c hc hn
    rw [p.frame c (Nat.lt_of_lt_of_le hc h.grow) fun j x e => h.nopre hc hn j x (cut_some.1 e).2]
    exact h.frame c hc hn
  · intro j c sh g e e0
    by_cases l : j < nx A (i + 1)
    · rw [jlo j l] at e
      by_cases l2 : j < nx A i
      · rw [eqB j l2] at e
        exact h.fresh j c sh g e e0
      · rcases p.fresh j c sh g e (if_neg l2) with hc | ⟨b, sh2, g2, hb2, hm⟩
        · exact .inl (Nat.le_trans h.grow hc)
        · have hb3 := cut_some.1 hb2
          obtain ⟨f, hf1, hf2⟩ := hm hb3.1
          cases hb0 : β0 b with
          | none => exact h.fresh b c sh2 g2 hb3.2 hb0
          | some y =>
            have := h.ext b y hb0
            rw [hb3.2] at this
            cases this
            exact .inr ⟨b, sh2, g2, hb0, fun hmk => ⟨f, hS f (hW ▸ hf1) (by omega), hf2⟩⟩
    · rw [jhi j l] at e
      exact h.fresh j c sh g e e0
end Go.Ev
/- Regions that draw their order: whatever order comes up, the program's side does as the evaluator in the text's order. -/
namespace Go.Ev
variable {E : Env} {P : Program} {H : Hand} {nt : Nat} {ops : Array Oper} {A : Nat → Pt} {B : Nat → Dt}
variable {β0 : Bond} {w0 : World} {D D' : Nat → Bool} {β β1 : Bond} {w w' : World} {a : Act} {i : Nat} {o : Oper} {v' : Value}

theorem Sim.of {s s2 : AS} (h : Sim E β s w) (hn : s.next ≤ s2.next) (hg : ∀ id, id < s.next → s2.heap.get id = s.heap.get id) : Sim E β s2 w where
  lt i c sh g e := ⟨Nat.lt_of_lt_of_le (h.lt i c sh g e).1 hn, (h.lt i c sh g e).2⟩
  blk i c sh g b e hb := h.blk i c sh g b e (by rwa [hg i (h.lt i c sh g e).1] at hb)
  inj i j c sh g sh' g' e e' hne ai aj := by
    rw [hg i (h.lt i c sh g e).1] at ai ⊢
    rw [hg j (h.lt j c sh' g' e').1] at aj ⊢
    exact h.inj i j c sh g sh' g' e e' hne ai aj
  fam i x f rel n e hf := by
    obtain ⟨c, sh, g⟩ := x
    have hl := (h.lt i c sh g e).1
    rw [hg i hl] at hf
    obtain ⟨h1, h2, ids, h3, h4, h5⟩ := h.fam i _ f rel n e hf
    exact ⟨h1, h2, ids, by rw [hg f (by omega)]; exact h3, h4, h5⟩
  ng := Nat.le_trans h.ng hn
  glob := h.glob
  laid := h.laid
theorem famOf_some {b : Option Blk} {x : Nat × Nat × Nat} (h : famOf b = some x) : ∃ c, b = some c := by
  cases b with
  | none => cases h
  | some c => exact ⟨c, rfl⟩
theorem alive_some {b : Option Blk} (h : alive b = true) : ∃ c, b = some c := by
  cases b with
  | none => cases h
  | some c => exact ⟨c, rfl⟩
/-- A memory that is what has been made so far, as far as it goes. -/
theorem Inv.part (h : Inv E nt ops A B β0 w0 D β w a) {s2 : AS} (h0 : nx A 0 ≤ s2.next) (hm : s2.next ≤ nx A ops.size) (hng : E.ng ≤ nx A 0)
    (hb : ∀ id x b, β id = some x → id < s2.next → s2.heap.get id = some b → V ops A B D id = some b ∧ nx A (lw ops A B D id) ≤ s2.next)
    (hf : ∀ id x f rel k, β id = some x → id < s2.next → famOf (s2.heap.get id) = some (f, rel, k) → f < id → s2.heap.get f = V ops A B D f) : Sim E (cut β s2.next) s2 w := by
  have XD : ∀ id, id < s2.next → (X ops A B D).heap.get id = V ops A B D id := fun id l => by
    rw [show (X ops A B D).heap.get id = if id < nx A ops.size then V ops A B D id else none from get_mkT _ _ _, if_pos (by omega)]
  refine ⟨?_, ?_, ?_, ?_, ?_, ?_, ?_⟩
  · intro id c sh g e
    have e := cut_some.1 e
    exact ⟨e.1, (h.sim.lt id c sh g e.2).2⟩
  · intro id c sh g b e hbb
    have e := cut_some.1 e
    obtain ⟨h1, h2⟩ := hb id _ b e.2 e.1 hbb
    obtain ⟨ob, h3, h4⟩ := h.sim.blk id c sh g b e.2 (by rw [XD id e.1]; exact h1)
    obtain ⟨sh2, g2, o2, h5⟩ := (h.inB id _ b e.2 h1).ext (cut_le h2)
    exact ⟨ob, h3, h5.restrict cut_sub h4⟩
  · intro id j c sh g sh' g' e e' hne ai aj
    have e := cut_some.1 e
    have e' := cut_some.1 e'
    obtain ⟨b, hbi⟩ := alive_some ai
    obtain ⟨b', hbj⟩ := alive_some aj
    have h1 := (hb id _ b e.2 e.1 hbi).1
    have h2 := (hb j _ b' e'.2 e'.1 hbj).1
    have := h.sim.inj id j c sh g sh' g' e.2 e'.2 hne (by rw [XD id e.1, h1, ← hbi]; exact ai) (by rw [XD j e'.1, h2, ← hbj]; exact aj)
    rw [XD id e.1, XD j e'.1, h1, h2, ← hbi, ← hbj] at this
    exact this
  · intro id x f rel k e hfm
    have e := cut_some.1 e
    obtain ⟨b, hbi⟩ := famOf_some hfm
    have h1 := (hb id _ b e.2 e.1 hbi).1
    obtain ⟨g1, g2, ids, g3, g4, g5⟩ := h.sim.fam id x f rel k e.2 (by rw [XD id e.1, h1, ← hbi]; exact hfm)
    refine ⟨g1, ?_, ids, ?_, g4, g5⟩
    · rw [cut_of (by omega)]; exact g2
    · rw [hf id x f rel k e.2 e.1 hfm g1, ← XD f (by omega)]; exact g3
  · omega
  · intro g hg hl
    exact cut_some.2 ⟨by omega, h.sim.glob g hg hl⟩
  · intro d hd
    exact ⟨(h.sim.laid d hd).1, fun id x e => (h.sim.laid d hd).2 id x (cut_some.1 e).2⟩
theorem Told.marks (hT : Told E H nt ops A B) {j k : Nat} (hj : j ≤ k) (hk : k ≤ ops.size) : (A k).S.mark = (A j).S.mark ∧ ∀ f, f ∈ (A j).S.wr → f ∈ (A k).S.wr := by
  induction k with
  | zero => rw [show j = 0 from by omega]; exact ⟨rfl, fun _ h => h⟩
  | succ k ih =>
    by_cases e : j = k + 1
    · rw [e]; exact ⟨rfl, fun _ h => h⟩
    · obtain ⟨h1, h2⟩ := ih (by omega) (by omega)
      obtain ⟨o, ho⟩ := lt_get (ops := ops) (k := k) (by omega)
      obtain ⟨b, _, _, h | h⟩ := hT.step k o ho
      · obtain ⟨_, s1, _, _, _, _, h6⟩ := h
        rw [h6]
        exact ⟨h1, fun f hf => mem_keepBelow.2 (.inr (h2 f hf))⟩
      · obtain ⟨_, _, _, _, _, h6⟩ := h
        rw [h6]
        exact ⟨h1, h2⟩

/-- All has been done. -/
theorem Inv.all (hT : Told E H nt ops A B) (hH : HandKept H) (h : Inv E nt ops A B β0 w0 D β w a) (hD : ∀ k, k < ops.size → D k = true) :
    Post E β0 (A 0).S w0 β (A ops.size).S w ∧ TR β nt (A ops.size).T a.tmps := by
  have hV : ∀ id, id < nx A ops.size → V ops A B D id = heapAt A ops.size id := fun id l => (hT.V_eq hH (Nat.le_refl _) l (fun k hk _ => hD k hk) (fun k h1 h2 => by omega)).2
  constructor
  · refine ⟨h.ext, fun id x e e0 => ?_, h.sim.of (Nat.le_refl _) fun id l => ?_, h.grow, h.frame, h.fresh, h.same⟩
    · obtain ⟨k, _, h2, h3, _⟩ := h.made id x e e0
      have := hT.mono hH (Nat.zero_le k) (by omega)
      exact Nat.le_trans this h3
    · have l : id < nx A ops.size := l
      rw [show (X ops A B D).heap.get id = if id < nx A ops.size then V ops A B D id else none from get_mkT _ _ _, if_pos l, hV id l]
      rfl
  · refine ⟨h.size, fun d v e => ?_⟩
    have hu := (hT.U_eq (D := D) (d := d) (Nat.le_refl ops.size) (fun k o hk _ _ => hD k hk) (fun k o h1 ho => by have := get_lt ho; omega)).2
    obtain ⟨v', h1, h2⟩ := h.slots d v (by rw [hu]; exact e)
    exact ⟨v', h1, h2.ext cut_sub⟩
/-- Nothing has been done. -/
theorem Inv.none (hT : Told E H nt ops A B) (hH : HandKept H) (hD : ∀ k, D k = false) (h : Sim E β (A 0).S w) (ht : TR β nt (A 0).T a.tmps) : Inv E nt ops A B β w D β w a := by
  have hl : ∀ id x, β id = some x → id < nx A 0 := fun id x e => (h.lt id x.1 x.2.1 x.2.2 e).1
  have hV : ∀ id, id < nx A 0 → lw ops A B D id ≤ 0 ∧ V ops A B D id = heapAt A 0 id := fun id l => hT.V_eq hH (Nat.zero_le _) l (fun k hk => by omega) (fun k _ _ hd => by rw [hD] at hd; cases hd)
  have hU : ∀ d, ls ops D d ≤ 0 ∧ U ops A D d = (A 0).T.get d := fun d => hT.U_eq (Nat.zero_le _) (fun k o hk => by omega) (fun k o _ _ hd => by rw [hD] at hd; cases hd)
  have hm : nx A 0 ≤ nx A ops.size := hT.mono hH (Nat.zero_le _) (Nat.le_refl _)
  refine ⟨.refl β, h.of hm fun id l => ?_, fun id x b e hb => ?_, fun id x e e0 => (by rw [e0] at e; cases e), ht.size, fun d v e => ?_, fun j1 j2 c sh g sh' g' k e1 e2 hk l1 l2 l3 => ?_, Nat.le_refl _, fun _ _ _ => rfl, fun j c sh g e e0 => (by rw [e0] at e; cases e), .refl w⟩
  · have l : id < nx A 0 := l
    rw [show (X ops A B D).heap.get id = if id < nx A ops.size then V ops A B D id else Option.none from get_mkT _ _ _, if_pos (by omega), (hV id l).2]
    rfl
  · have l := hl id x e
    rw [(hV id l).2] at hb
    obtain ⟨ob, _, h2⟩ := h.blk id x.1 x.2.1 x.2.2 b e hb
    rw [show lw ops A B D id = 0 from Nat.le_zero.1 (hV id l).1]
    exact ⟨_, _, ob, h2.ext fun j y ej => cut_some.2 ⟨hl j y ej, ej⟩⟩
  · rw [(hU d).2] at e
    obtain ⟨v', h1, h2⟩ := ht.get d v e
    rw [show ls ops D d = 0 from Nat.le_zero.1 (hU d).1]
    exact ⟨v', h1, h2.ext fun j y ej => cut_some.2 ⟨hl j y ej, ej⟩⟩
  · have := hl j2 _ e2
    have := hT.mono hH (Nat.zero_le k) (by omega)
    omega

theorem Post.flat {s : AS} {β' : Bond} (p : Post E β s w β' s w') : Ext β' β := fun i x e => by
  cases hb : β i with
  | none =>
    have h1 := p.new i x e hb
    have h2 := (p.sim.lt i x.1 x.2.1 x.2.2 e).1
    omega
  | some y => have := p.ext i y hb; rw [e] at this; cases this; rfl
theorem Sim.ext {s : AS} (h : Sim E β1 s w) (h1 : Ext β1 β) (h2 : Ext β β1) : Sim E β s w := by
  have : β1 = β := by
    funext i
    cases hb : β i with
    | some y => exact h2 i y hb
    | none =>
      cases hb1 : β1 i with
      | none => rfl
      | some y => have := h1 i y hb1; rw [hb] at this; cases this
  exact this ▸ h
theorem footOf_bound {γ : Bond} {v v' : Value} {b : Nat} (h : VR γ v v') (hf : footOf (some v) = .one b) : ∃ x, γ b = some x := by
  cases h <;> simp only [footOf] at hf <;> cases hf <;> exact ⟨_, ‹_›⟩
theorem foot_bound {γ : Bond} {s : AS} (h : Sim E γ s w) {t : Fr} (ht : TR γ nt t a.tmps) {o : Op} {b : Nat} (hf : foot E t o = .one b) : ∃ x, γ b = some x := by
  have key : ∀ x, footOf (aval E t x) = .one b → ∃ y, γ b = some y := fun x hx => by
    obtain ⟨v, hv⟩ := footOf_any (v := aval E t x) (by rw [hx]; exact fun e => by cases e)
    rw [hv] at hx
    exact footOf_bound (aval_sim h ht hv) hx
  cases o with
  | load ty x => exact key x hf
  | lookup ty x k ok => exact key x hf
  | slice ty x lo hi mx => exact key x hf
  | call c =>
    have hf : footCall E t c = .one b := hf
    unfold footCall at hf
    split at hf
    · exact key _ hf
    · cases hf
  | _ => cases hf

theorem count_set {listed : Array Bool} {n : Nat} (hi : i < listed.size) (h : listed.getD i false = false) (hc : listed.toList.count false = n + 1) : (listed.setIfInBounds i true).toList.count false = n := by
  rw [Array.toList_setIfInBounds, List.count_set (by simpa using hi)]
  have hg : listed.toList[i]'(by simpa using hi) = false := by
    rw [Array.getD_eq_getD_getElem?, Array.getElem?_eq_getElem hi] at h
    simpa using h
  rw [hg, hc]
  simp
theorem count_zero {listed : Array Bool} (hc : listed.toList.count false = 0) {k : Nat} (hk : k < listed.size) : listed.getD k false = true := by
  rw [Array.getD_eq_getD_getElem?, Array.getElem?_eq_getElem hk]
  have : false ∉ listed.toList := List.count_eq_zero.1 hc
  cases h : listed[k] with
  | true => rfl
  | false => exact absurd (h ▸ Array.mem_toList_iff.2 (Array.getElem_mem hk)) this
theorem least_ready (ht : tidy ops = true) {listed : Array Bool} (hs : listed.size = ops.size) (hr : Region.ready .any ops listed = []) : ∀ k, k < ops.size → listed.getD k false = true := by
  intro k
  induction k using Nat.strongRecOn with
  | ind k ih =>
    intro hk
    apply Classical.byContradiction
    intro hn
    obtain ⟨o, ho⟩ := lt_get hk
    have : k ∈ Region.ready .any ops listed := by
      refine mem_ready.2 ⟨?_, o, ho, fun e he hb => ih e.on (edges_spec ht ho e he hb) (Nat.lt_trans (edges_spec ht ho e he hb) hk)⟩
      rw [Array.getD_eq_getD_getElem?, Array.getElem?_eq_getElem (by omega)] at hn ⊢
      simpa using hn
    rw [hr] at this
    cases this
theorem getD_set {listed : Array Bool} (hi : i < listed.size) (k : Nat) : (listed.setIfInBounds i true).getD k false = (k == i || listed.getD k false) := by
  simp only [Array.getD_eq_getD_getElem?, Array.getElem?_setIfInBounds]
  by_cases e : i = k
  · subst e; simp [hi]
  · have : (k == i) = false := by simpa using fun h => e h.symm
    rw [if_neg e, this, Bool.false_or]

theorem drawOK (hE : EnvOK E P) (hH : HandOK E P H) (hm : P.follows .mixedOrders = true) : DrawOK E P H := by
  intro rnd n nt id ops β w0s w0 t a0 r Q htidy hsim htr hrun hQ
  obtain ⟨A, B, hT, q1, q2, q3, q4⟩ := told_of hrun
  refine wpIn_region_any hm ?_
  have hk := hH.kept
  have hsim0 : Sim E β (A 0).S w0 := by rw [q1]; exact hsim
  have h0 : ∀ id x, β id = some x → id < nx A 0 := fun id x e => (hsim0.lt id x.1 x.2.1 x.2.2 e).1
  have hng : E.ng ≤ nx A 0 := hsim0.ng
  have hmono : ∀ {j k : Nat}, j ≤ k → k ≤ ops.size → nx A j ≤ nx A k := fun h1 h2 => hT.mono hk h1 h2
  have main : ∀ (fuel : Nat) (listed : Array Bool) (β' : Bond) (w : World) (a : Act), listed.size = ops.size → listed.toList.count false = fuel → (Closed ops fun i => listed.getD i false = true) →
      Inv E nt ops A B β w0 (fun k => listed.getD k false) β' w a → a.defers = a0.defers → wpAnyIn (Fw rnd) n P .any ops Q fuel listed a w := by
    intro fuel
    induction fuel with
    | zero =>
      intro listed β' w a hs hc hcl hI hd
      have hall : ∀ k, k < ops.size → listed.getD k false = true := fun k hk => count_zero hc (by omega)
      obtain ⟨p1, p2⟩ := hI.all hT hk hall
      refine ⟨?_, hQ a w β' hd (by rw [← q1, ← q3]; exact p1) (by rw [← q4]; exact p2)⟩
      apply List.eq_nil_iff_forall_not_mem.2
      intro k hkr
      obtain ⟨h1, o, ho, _⟩ := mem_ready.1 hkr
      have hks : k < listed.size := by rw [hs]; exact get_lt ho
      have := hall k (get_lt ho)
      rw [Array.getD_eq_getD_getElem?, Array.getElem?_eq_getElem hks] at this h1
      simp only [Option.getD_some] at this h1
      rw [this] at h1; cases h1
    | succ fuel ih =>
      intro listed β' w a hs hc hcl hI hd
      refine ⟨fun hnil => ?_, fun i hir => ?_⟩
      · obtain ⟨p1, p2⟩ := hI.all hT hk (least_ready htidy hs hnil)
        exact hQ a w β' hd (by rw [← q1, ← q3]; exact p1) (by rw [← q4]; exact p2)
      · obtain ⟨o, hr⟩ := hT.rdy htidy hcl hir
        have hi := get_lt hr.get
        have hil : i < listed.size := by omega
        have hDD := getD_set (listed := listed) hil
        have hcl' := ready_closed hs hcl hir
        have hc' := count_set hil hr.new hc
        -- what is to be shown behind the operation
        have cont : ∀ (β2 : Bond) (w2 : World) (a2 : Act), a2.defers = a0.defers → Inv E nt ops A B β w0 (fun k => (listed.setIfInBounds i true).getD k false) β2 w2 a2 →
            wpAnyIn (Fw rnd) n P .any ops Q fuel (listed.setIfInBounds i true) a2 w2 := fun β2 w2 a2 hd2 hI2 => ih _ β2 w2 a2 (by simpa using hs) hc' hcl' hI2 hd2
        have hput : ∀ v', (a.put o.dst v').defers = a0.defers := fun v' => by rw [← hd]; cases o.dst <;> rfl
        -- its slots
        let t1 : Fr := mkT (fun d => bif Nat.ble (ls ops (fun k => listed.getD k false) d) i then U ops A (fun k => listed.getD k false) d else none) nt
        have ht1 : TR (cut β' (nx A i)) nt t1 a.tmps := by
          refine ⟨hI.size, fun d v e => ?_⟩
          have e : (mkT _ nt).get d = some v := e
          rw [get_mkT] at e
          split at e
          · cases hb : Nat.ble (ls ops (fun k => listed.getD k false) d) i with
            | false => rw [hb] at e; cases e
            | true =>
              rw [hb] at e
              obtain ⟨v', h1, h2⟩ := hI.slots d v e
              exact ⟨v', h1, h2.ext (cut_le (hmono (Nat.le_of_ble_eq_true hb) (by omega)))⟩
          · cases e
        have htn : ∀ d, Names ops o d → t1.get d = (A i).T.get d := fun d hn => by
          obtain ⟨h1, h2⟩ := hT.U_eq (D := fun k => listed.getD k false) (i := i) (d := d) (by omega) (fun k o' hk ho' hd' => hr.aheadT k o' d hk ho' hd' hn) (fun k o' hk ho' hdk => by
            by_cases e : k = i
            · subst e
              have hnn : listed.getD k false = false := hr.new
              have hdk : listed.getD k false = true := hdk
              rw [hnn] at hdk; cases hdk
            · exact hr.behindT k o' d (by omega) ho' hdk hn)
          show (mkT _ nt).get d = _
          rw [get_mkT, Nat.ble_eq_true_of_le h1]
          dsimp only [cond_true]
          split
          · exact h2
          · rename_i hdn
            cases hu : U ops A (fun k => listed.getD k false) d with
            | none => rw [← h2, hu]
            | some v =>
              obtain ⟨v', h3, _⟩ := hI.slots d v hu
              have := (Array.getElem?_eq_some_iff.1 h3).1
              rw [hI.size] at this
              exact absurd this hdn
        obtain ⟨bb, hw, _, hst⟩ := hT.step i o hr.get
        rw [← wanted_congr htn] at hw
        have hwant := wanted_sim ht1 hw
        unfold wpOpIn
        rw [hr.get]
        dsimp only
        rw [hwant]
        rcases hst with ⟨hwt, s1, h2, h3, h4, _, h6⟩ | ⟨hwt, h2, h3, h4, _, _⟩
        · rw [hwt, if_pos rfl]
          have hfc := foot_congr (E := E) (o := o.op) fun d hd => htn d (.inr (.inl hd))
          rw [← aop_congr (fun d hd => htn d (.inr (.inl hd)))] at h2
          rw [← hfc] at h4
          have hnx : nx A (i + 1) = s1.next := by unfold nx; rw [h6]
          have hhp : ∀ id, s1.heap.get id = heapAt A (i + 1) id := fun id => by unfold heapAt; rw [h6]
          have hn0i : nx A 0 ≤ nx A i := hmono (Nat.zero_le _) (by omega)
          have hnim : nx A i ≤ nx A ops.size := hmono (by omega) (Nat.le_refl _)
          by_cases hf : (B i).ft = .any
          · have VE : ∀ id, id < nx A i → lw ops A B (fun k => listed.getD k false) id ≤ i ∧ V ops A B (fun k => listed.getD k false) id = heapAt A i id := fun id l =>
              hT.V_eq hk (by omega) l (fun k hki hwk => hr.ahead k hki (.inl ⟨hf, List.ne_nil_of_mem hwk⟩)) (fun k hki hks hdk hwk => by
                by_cases e : k = i
                · subst e
                  have hnn : listed.getD k false = false := hr.new
                  have hdk : listed.getD k false = true := hdk
                  rw [hnn] at hdk; cases hdk
                · exact hr.behind k (by omega) hks hdk (.inr (.inl ⟨List.ne_nil_of_mem hwk, hf⟩)))
            have hpart : Sim E (cut β' (nx A i)) (A i).S.anew w := hI.part (s2 := (A i).S.anew) hn0i hnim hng
              (fun id x b e l hb => ⟨by rw [(VE id l).2]; exact hb, hmono (VE id l).1 (by omega)⟩) (fun id x f rel k e l hfm hlt => (VE f (Nat.lt_trans hlt l)).2.symm)
            refine oper_wp hE hH hpart ht1 h2 fun v' w' β1 p hv hn => cont (join β' β1 (nx A (i + 1))) w' _ (hput v') ?_
            refine hI.loud hT hk hr hDD hf p hnx.symm hhp h3.symm (fun f hfw hfm => ?_) hng h0 (VR.outcome hv hn)
            have hmk := hT.marks (Nat.zero_le i) (by omega)
            refine (hT.marks (show i + 1 ≤ ops.size from hi) (Nat.le_refl _)).2 f ?_
            rw [h6]
            exact mem_keepBelow.2 (.inl ⟨h3 ▸ hfw, by rw [hmk.1]; exact hfm⟩)
          · have hf' : foot E t1 o.op ≠ .any := h4 ▸ hf
            -- the block it looks at
            have VE : ∀ b, foot E t1 o.op = .one b → b < nx A i → lw ops A B (fun k => listed.getD k false) b ≤ i ∧ V ops A B (fun k => listed.getD k false) b = heapAt A i b := fun b hfb l =>
              hT.V_eq hk (by omega) l (fun k hki hwk => hr.ahead k hki (.inr (.inr (.inr ⟨b, by rw [h4]; exact hfb, hwk⟩)))) (fun k hki hks hdk hwk => by
                by_cases e : k = i
                · subst e
                  have hnn : listed.getD k false = false := hr.new
                  have hdk : listed.getD k false = true := hdk
                  rw [hnn] at hdk; cases hdk
                · exact hr.behind k (by omega) hks hdk (.inr (.inr (.inl ⟨b, by rw [h4]; exact hfb, hwk⟩))))
            let sel : Nat → Bool := fun id => match foot E t1 o.op with
              | .one b => Nat.beq id b || (match famOf (V ops A B (fun k => listed.getD k false) b) with | some (f, _, _) => Nat.beq id f | none => false)
              | _ => false
            let Y : AS := ⟨mkT (fun id => bif sel id then V ops A B (fun k => listed.getD k false) id else none) (nx A i), nx A i, nx A i, []⟩
            have hY : ∀ id, Y.heap.get id = if id < nx A i then (bif sel id then V ops A B (fun k => listed.getD k false) id else none) else none := fun id => get_mkT _ _ _
            have hgl : ∀ b x, foot E t1 o.op = .one b → cut β' (nx A i) b = some x → b < nx A i := fun b x _ e => (cut_some.1 e).1
            -- the bond holds the block
            have hbd : ∀ b, foot E t1 o.op = .one b → ∃ x, cut β' (nx A i) b = some x := by
              intro b hfb
              have hZ : Sim E (cut β' (nx A i)) ⟨.nil, nx A i, nx A i, []⟩ w := hI.part (s2 := ⟨.nil, nx A i, nx A i, []⟩) hn0i hnim hng (fun id x b e l hb => by cases hb) (fun id x f rel k e l hfm => by cases hfm)
              exact foot_bound hZ ht1 hfb
            have hpart : Sim E (cut β' (nx A i)) Y w := by
              refine hI.part (s2 := Y) hn0i hnim hng (fun id x b e l hb => ?_) (fun id x f rel k e l hfm hlt => ?_)
              · have l : id < nx A i := l
                rw [hY, if_pos l] at hb
                cases hsel : sel id with
                | false => rw [hsel] at hb; cases hb
                | true =>
                  rw [hsel] at hb
                  refine ⟨hb, ?_⟩
                  dsimp only [sel] at hsel
                  split at hsel
                  · rename_i b' hfb
                    rw [Bool.or_eq_true] at hsel
                    rcases hsel with hsel | hsel
                    · have := Nat.eq_of_beq_eq_true hsel
                      subst this
                      exact hmono (VE id hfb l).1 (by omega)
                    · split at hsel
                      · rename_i f rel k hfm
                        have := Nat.eq_of_beq_eq_true hsel
                        subst this
                        obtain ⟨y, hy⟩ := hbd b' hfb
                        have hy := cut_some.1 hy
                        have := (hI.sim.fam b' y id rel k hy.2 (by
                          rw [show (X ops A B _).heap.get b' = if b' < nx A ops.size then V ops A B (fun k => listed.getD k false) b' else none from get_mkT _ _ _, if_pos (by omega)]
                          exact hfm)).2.1
                        rw [e] at this; cases this
                      · cases hsel
                  · cases hsel
              · have l : id < nx A i := l
                rw [hY, if_pos l] at hfm
                cases hsel : sel id with
                | false => rw [hsel] at hfm; cases hfm
                | true =>
                  rw [hsel] at hfm
                  rw [hY, if_pos (by omega)]
                  have hself : sel f = true := by
                    dsimp only [sel] at hsel ⊢
                    split at hsel
                    · rename_i b' hfb
                      rw [Bool.or_eq_true] at hsel
                      rcases hsel with hsel | hsel
                      · have := Nat.eq_of_beq_eq_true hsel
                        subst this
                        have hfm : famOf (V ops A B (fun k => listed.getD k false) id) = some (f, rel, k) := hfm
                        rw [hfm]
                        dsimp only
                        rw [Nat.beq_refl, Bool.or_true]
                      · split at hsel
                        · rename_i f' rel' k' hfm'
                          have := Nat.eq_of_beq_eq_true hsel
                          subst this
                          obtain ⟨y, hy⟩ := hbd b' hfb
                          have hy := cut_some.1 hy
                          have := (hI.sim.fam b' y id rel' k' hy.2 (by
                            rw [show (X ops A B _).heap.get b' = if b' < nx A ops.size then V ops A B (fun k => listed.getD k false) b' else none from get_mkT _ _ _, if_pos (by omega)]
                            exact hfm')).2.1
                          rw [e] at this; cases this
                        · cases hsel
                    · cases hsel
                  rw [hself]
                  rfl
            have hnc : ∀ c f, o.op = .call c → c.callee ≠ .value f := fun c f e1 e2 => by
              rw [e1] at hf'
              apply hf'
              show footCall E t1 c = .any
              unfold footCall
              rw [e2]
            have hat : ∀ s2 : AS, (∀ b, foot E t1 o.op = .one b → b < nx A i → s2.heap.get b = V ops A B (fun k => listed.getD k false) b) → AtFoot (A i).S.anew s2 (foot E t1 o.op) := fun s2 hs2 b hfb => by
              obtain ⟨x, hx⟩ := hbd b hfb
              have l := (cut_some.1 hx).1
              rw [hs2 b hfb l, (VE b hfb l).2]
              rfl
            have hfull := (aop_foot (s2 := X ops A B fun k => listed.getD k false) hf' (hat _ fun b _ l => by
              rw [show (X ops A B _).heap.get b = if b < nx A ops.size then V ops A B (fun k => listed.getD k false) b else none from get_mkT _ _ _, if_pos (by omega)]) h2).2
            have hsub := (aop_foot (s2 := Y) hf' (hat _ fun b hfb l => by
              rw [hY, if_pos l]
              have : sel b = true := by
                dsimp only [sel]
                rw [hfb]
                dsimp only
                rw [Nat.beq_refl, Bool.true_or]
              rw [this]
              rfl) h2).2
            obtain ⟨res, w', βf, e1, _, p1⟩ := aop_sim (P := P) hE H hI.sim (ht1.ext cut_sub) hfull hnc
            obtain ⟨res', w'', βs, e2, ro, p2⟩ := aop_sim (P := P) hE H hpart ht1 hsub hnc
            rw [e1] at e2
            cases e2
            have hvs : ∀ v', VR βs (outcome (B i).v) v' → VR (cut β' (nx A (i + 1))) (outcome (B i).v) v' := fun v' hv =>
              (hv.ext p2.flat).ext (cut_le (hmono (Nat.le_succ i) (by omega)))
            have hgo : ∀ v', VR βs (outcome (B i).v) v' → wpAnyIn (Fw rnd) n P .any ops Q fuel (listed.setIfInBounds i true) (a.put o.dst v') w' := fun v' hv =>
              cont β' w' _ (hput v') (hI.quiet hT hr hDD hf (p1.sim.ext p1.flat p1.ext) p1.size p1.frame p1.same (hvs v' hv))
            have hnd : ∀ c, o.op ≠ .defer c := fun c e => by rw [e] at h2; cases h2
            refine ⟨fun f _ => fw_fn rnd f, ?_⟩
            rw [Oper.semAt_eq _ _ _ hnd, e1]
            generalize hv0 : (B i).v = v0 at ro hgo
            cases ro with
            | value hv => exact hgo _ hv
            | skip => exact hgo _ (.tuple rfl (fun i v v' h => by simp at h))
        · rw [hwt, if_neg (by decide)]
          refine ⟨fun f _ => fw_fn rnd f, cont β' w _ (hput _) ?_⟩
          exact hI.quiet hT hr hDD (by rw [h4]; exact fun e => by cases e) hI.sim (Nat.le_refl _) (fun _ _ _ => rfl) (.refl w) (by rw [h2]; exact .tuple rfl (fun i v v' h => by simp at h))
  refine main ops.size _ β _ a0 (by simp) (by simp) ?_ ?_ rfl
  · intro k o hk _ _ _ _
    rw [Array.getD_eq_getD_getElem?] at hk
    by_cases e : k < ops.size
    · rw [Array.getElem?_eq_getElem (by simpa using e)] at hk
      simp at hk
    · rw [Array.getElem?_eq_none (by simpa using e)] at hk
      simp at hk
  · have := Inv.none (D := fun k => (Array.replicate ops.size false).getD k false) (a := a0) hT hk (fun k => ?_) hsim0 (by rw [q2]; exact htr)
    · exact ⟨this.ext, this.sim.heap rfl, this.inB, this.made, this.size, this.slots, this.share, this.grow, this.frame, this.fresh, ⟨rfl, rfl, rfl⟩⟩
    · rw [Array.getD_eq_getD_getElem?]
      by_cases e : k < ops.size
      · rw [Array.getElem?_eq_getElem (by simpa using e)]
        simp
      · rw [Array.getElem?_eq_none (by simpa using e)]
        rfl
end Go.Ev
/- The evaluator, closed: what it tells of a call is so. -/
namespace Go.Ev
variable {E : Env} {P : Program} {β : Bond} {s : AS} {w : World}
theorem tells (hE : EnvOK E P) (hP : PrimOK E P) (hm : P.follows .mixedOrders = true) {n : Nat} {f : FuncId} {args args' : List Value} {r : Value × AS} (hr : (hand E n).call f args s = some r) (h : Sim E β s w) (ha : All2 (VR β) args args') :
    Calls P f args'.toArray w (Ends E β s w r) := hand_calls hE hP (fun _ hH => drawOK hE hH hm) hr h ha
theorem primNone (h : ∀ f, E.prim f = Option.none) : PrimOK E P := ⟨fun f p args s r e => (by rw [h] at e; cases e), fun f p args s r e => (by rw [h] at e; cases e)⟩
/-- Functions that the evaluator may run. -/
def runnable (x : Func) : Bool := x.name != "runtime.NumGoroutine" && (match x.body with | some c => fine c | Option.none => true)
theorem EnvOK.of (hf : ∀ f x, E.fn f = some x → P.funcs[f]? = some x) (ht : ∀ t i, E.ty t = some i → P.info? t = some i) (h : P.funcs.toList.all runnable = true) (hc : ∀ t, E.calm t = true → P.stoodInHeld t = false ∧ P.eqGuardType P.depth t = false) : EnvOK E P := by
  have key : ∀ f x, E.fn f = some x → runnable x = true := fun f x e => List.all_eq_true.1 h x (Array.mem_toList_iff.2 (Array.mem_of_getElem? (hf f x e)))
  refine ⟨hf, ht, fun f x e => ?_, fun f x c e hc => ?_, hc⟩
  · have := key f x e
    unfold runnable at this
    rw [Bool.and_eq_true] at this
    simpa using this.1
  · have := key f x e
    unfold runnable at this
    rw [Bool.and_eq_true, hc] at this
    exact this.2
/-- Blocks of the callee's own, that nothing of ours names. -/
theorem Post.more {w' : World} (h : Sim E β s w) (hs : w.heap.size ≤ w'.heap.size) (hb : ∀ k, k < w.heap.size → w'.heap[k]? = w.heap[k]?) (hm : Same w w') : Post E β s w β s w' := by
  have get : ∀ (k : Nat) (o : Obj), w.heap[k]? = some o → w'.heap[k]? = some o := fun k o e => by rw [hb k (Array.getElem?_eq_some_iff.1 e).1]; exact e
  refine ⟨.refl β, fun i x e n => (by rw [n] at e; cases e), ⟨fun i c sh g e => ?_, fun i c sh g b e hbb => ?_, h.inj, h.fam, h.ng, h.glob, fun c hc => ?_⟩, hs, fun c hc _ => hb c hc, fun i c sh g e n => (by rw [n] at e; cases e), hm⟩
  · have := h.lt i c sh g e
    exact ⟨this.1, Nat.lt_of_lt_of_le this.2 hs⟩
  · obtain ⟨o, h1, h2⟩ := h.blk i c sh g b e hbb
    exact ⟨o, get c o h1, h2⟩
  · obtain ⟨⟨o, h1, h2⟩, h3⟩ := h.laid c hc
    exact ⟨⟨o, get c o h1, h2⟩, h3⟩
/-- A prim that leaves our memory as it is, out of its contract. -/
theorem PrimOK.of_calls (hE : EnvOK E P) {f : FuncId} {fn : Func} {c : Code} (hf : E.fn f = some fn) (hc : fn.body = some c) {args' : List Value} {v' : Value} (h : Sim E β s w)
    (hcall : Calls P f args'.toArray w fun e w' => e = .returned v' ∧ w.heap.size ≤ w'.heap.size ∧ (∀ k, k < w.heap.size → w'.heap[k]? = w.heap[k]?) ∧ Same w w') {v : Value} (hv : VR β v v') :
    (callFunc f args'.toArray).run P w = .ok (.enter f args'.toArray) w ∧ ∀ n, CallsIn (Fw none) n P f args'.toArray w (Ends E β s w (v, s)) := by
  refine ⟨enter_run hE hf hc _ w, fun n => callsIn_wide.2 (hcall.mono ?_)⟩
  rintro e w' ⟨rfl, h1, h2, h3⟩
  exact ⟨v', β, rfl, Post.more h h1 h2 h3, hv⟩
/-- Nothing is bound. -/
def bare0 : Bond := fun _ => none
theorem Sim.start {n : Nat} (hn : E.ng ≤ n) (h0 : E.ng = 0) (hl : ∀ c, E.isLaid c = true → ∃ o, w.heap[c]? = some o ∧ E.laidP c o) : Sim E bare0 (start n) w :=
  ⟨fun i c sh g e => (by cases e), fun i c sh g b e => (by cases e), fun i j c sh g sh' g' e => (by cases e), fun i x f rel n e => (by cases e), hn, fun g hg => (by omega), fun c hc => ⟨hl c hc, fun i x e => (by cases e)⟩⟩
/-- What the evaluator tells of a call that begins with nothing of ours: all older memory stays. -/
theorem tells0 (hE : EnvOK E P) (hP : PrimOK E P) (hm : P.follows .mixedOrders = true) (h0 : E.ng = 0) {n : Nat} {f : FuncId} {args args' : List Value} {r : Value × AS} (hr : (hand E n).call f args (start 0) = some r)
    (hl : ∀ c, E.isLaid c = true → ∃ o, w.heap[c]? = some o ∧ E.laidP c o) (ha : All2 (VR bare0) args args') :
    Calls P f args'.toArray w fun e w' => (∃ v' β', e = .returned v' ∧ VR β' r.1 v' ∧ Sim E β' r.2 w') ∧ w.heap.size ≤ w'.heap.size ∧ (∀ k, k < w.heap.size → w'.heap[k]? = w.heap[k]?) ∧ Same w w' := by
  refine (tells hE hP hm hr (Sim.start (by omega) h0 hl) ha).mono ?_
  rintro e w' ⟨v', β', rfl, p, hv⟩
  exact ⟨⟨v', β', rfl, hv, p.sim⟩, p.size, fun k hk => p.frame k hk fun i x e => (by cases e), p.same⟩
end Go.Ev
