/- Parts for regions that draw their order: memories told by what they hold, bonds cut off, what an operation reads. -/
import Derived.Test.YtgglmmipdfcbpaaDoorEvD2
namespace Go.Ev

/-- A map that holds what a function says, below a number. -/
def mkT {α : Type} (f : Nat → Option α) : Nat → Tr α
  | 0 => .nil
  | n + 1 => match f n with
    | some x => (mkT f n).set n x
    | none => mkT f n
theorem get_mkT {α : Type} (f : Nat → Option α) (n i : Nat) : (mkT f n).get i = if i < n then f i else none := by
  induction n with
  | zero => rw [if_neg (by omega)]; rfl
  | succ n ih =>
    unfold mkT
    by_cases h : i = n
    · subst h
      rw [if_pos (by omega)]
      cases hf : f i with
      | some x => exact Tr.get_set_eq _ _ _
      | none => dsimp only; rw [ih, if_neg (by omega)]
    · have : (i < n + 1) ↔ i < n := by omega
      simp only [this]
      cases hf : f n with
      | some x => dsimp only; rw [Tr.get_set_ne _ _ (Ne.symm h), ih]
      | none => exact ih

/-- A bond of what stands below a number. -/
def cut (β : Bond) (n : Nat) : Bond := fun i => if i < n then β i else none
variable {E : Env} {β β' γ : Bond}
theorem cut_some {n i : Nat} {x : Nat × Nat × Gr} : cut β n i = some x ↔ i < n ∧ β i = some x := by
  unfold cut
  by_cases h : i < n
  · simp [h]
  · simp [h]
theorem cut_of {n i : Nat} (h : i < n) : cut β n i = β i := if_pos h
theorem cut_le {n m : Nat} (h : n ≤ m) : Ext (cut β n) (cut β m) := fun _ _ e => by
  rw [cut_some] at e ⊢
  exact ⟨by omega, e.2⟩
theorem cut_sub {n : Nat} : Ext (cut β n) β := fun _ _ e => (cut_some.1 e).2
theorem Ext.cut {n : Nat} (h : Ext β β') : Ext (Ev.cut β n) (Ev.cut β' n) := fun _ _ e => by
  rw [cut_some] at e ⊢
  exact ⟨e.1, h _ _ e.2⟩

theorem VR.restrict (he : Ext γ β) {v u : Value} (h : VR γ v u) : ∀ {v' : Value}, VR β v v' → VR γ v v' := by
  induction h with
  | bool b => intro v' h; cases h; exact .bool _
  | int k n => intro v' h; cases h; exact .int _ _
  | string s => intro v' h; cases h; exact .string _
  | nilPtr => intro v' h; cases h; exact .nilPtr
  | ptr o hb =>
    intro v' h
    cases h with
    | ptr _ hb' => have e := he _ _ hb; rw [hb'] at e; cases e; exact .ptr _ hb
  | nilSlice n m => intro v' h; cases h; exact .nilSlice _ _
  | slice o n hb hm hg hN =>
    intro v' h
    cases h with
    | slice _ _ hb' hm' hg' hN' => have e := he _ _ hb; rw [hb'] at e; cases e; exact .slice _ _ hb hm' hg' hN'
    | tail _ hb' => have e := he _ _ hb; rw [hb'] at e; cases e; exact .tail _ hb
  | tail o hb =>
    intro v' h
    cases h with
    | slice _ _ hb' hm' hg' hN' => have e := he _ _ hb; rw [hb'] at e; cases e; exact .slice _ _ hb hm' hg' hN'
    | tail _ hb' => have e := he _ _ hb; rw [hb'] at e; cases e; exact .tail _ hb
  | nilMap => intro v' h; cases h; exact .nilMap
  | map hb =>
    intro v' h
    cases h with
    | map hb' => have e := he _ _ hb; rw [hb'] at e; cases e; exact .map hb
  | func f ha hb _ _ iA iB =>
    intro v' h
    cases h with
    | func _ ha' hb' hA' hB' =>
      refine .func _ ha' hb' (fun i x x' e e' => ?_) (fun i x x' e e' => ?_)
      · have hy := Array.getElem?_eq_getElem (ha ▸ (Array.getElem?_eq_some_iff.1 e).1)
        exact iA i x _ e hy (hA' i x x' e e')
      · have hy := Array.getElem?_eq_getElem (hb ▸ (Array.getElem?_eq_some_iff.1 e).1)
        exact iB i x _ e hy (hB' i x x' e e')
  | yield hb =>
    intro v' h
    cases h with
    | yield hb' => have e := he _ _ hb; rw [hb'] at e; cases e; exact .yield hb
  | nilFunc => intro v' h; cases h; exact .nilFunc
  | iface t _ ih =>
    intro v' h
    cases h with
    | iface _ h => exact .iface _ (ih h)
  | nilIface => intro v' h; cases h; exact .nilIface
  | agg ha _ iA =>
    intro v' h
    cases h with
    | agg ha' hA' =>
      refine .agg ha' (fun i x x' e e' => ?_)
      have hy := Array.getElem?_eq_getElem (ha ▸ (Array.getElem?_eq_some_iff.1 e).1)
      exact iA i x _ e hy (hA' i x x' e e')
  | tuple ha _ iA =>
    intro v' h
    cases h with
    | tuple ha' hA' =>
      refine .tuple ha' (fun i x x' e e' => ?_)
      have hy := Array.getElem?_eq_getElem (ha ▸ (Array.getElem?_eq_some_iff.1 e).1)
      exact iA i x _ e hy (hA' i x x' e e')
theorem TR.restrict (he : Ext γ β) {nt : Nat} {t : Fr} {a a' : Array Value} (h : TR γ nt t a) (h' : TR β nt t a') : TR γ nt t a' :=
  ⟨h'.size, fun i v e => let ⟨_, _, r⟩ := h.get i v e; let ⟨v', x, r'⟩ := h'.get i v e; ⟨v', x, r.restrict he r'⟩⟩
theorem All2.both {α α' α'' : Type} {R : α → α' → Prop} {S : α → α'' → Prop} {T : α → α'' → Prop} (hi : ∀ a b c, R a b → S a c → T a c) : ∀ {l : List α} {m : List α'} {k : List α''}, All2 R l m → All2 S l k → All2 T l k := by
  intro l
  induction l with
  | nil => intro m k h h'; cases h'; exact .nil
  | cons a l ih =>
    intro m k h h'
    cases h with
    | cons h1 h2 => cases h' with
      | cons h3 h4 => exact .cons (hi _ _ _ h1 h3) (ih h2 h4)
theorem BR.restrict (he : Ext γ β) {sh sh' : Nat} {g g' : Gr} {b : Blk} {o o' : Obj} (h : BR E γ sh g b o) (h' : BR E β sh' g' b o') : BR E γ sh' g' b o' := by
  cases h with
  | cells hg hN hz hn hc hf =>
    cases h' with
    | cells hg' hN' hz' hn' hc' hf' =>
      exact .cells hg' hN' hz' hn' (fun i v hi hv => let ⟨_, _, r, _⟩ := hc i v hi hv; let ⟨v', x, r', y⟩ := hc' i v hi hv; ⟨v', x, r.restrict he r', y⟩) hf'
  | map clock h =>
    cases h' with
    | map clock h' => exact .map _ (h.both (fun a b c r r' => ⟨r.1.restrict he r'.1, r.2.1.restrict he r'.2.1, r'.2.2⟩) h')
  | strIter h0 s pos =>
    cases h' with
    | strIter h0' s pos => exact .strIter h0' s pos
  | loop ht hp ha hb hs hq hd hdd hf =>
    cases h' with
    | loop ht' hp' ha' hb' hs' hq' hd' hdd' hf' =>
      have e := he _ _ hd
      rw [hd'] at e
      cases e
      exact .loop (ht.restrict he ht') hp' ha' hb' hs' hq' hd hdd' hf'
  | defs => cases h'; exact .defs
  | dead o => cases h'; exact .dead _

/-- All blocks that a value, a block names are bound. -/
def InV (β : Bond) (v : Value) : Prop := ∃ v', VR β v v'
def InB (E : Env) (β : Bond) (b : Blk) : Prop := ∃ sh g o, BR E β sh g b o
theorem InV.ext (he : Ext β β') {v : Value} (h : InV β v) : InV β' v := let ⟨v', r⟩ := h; ⟨v', r.ext he⟩
theorem InB.ext (he : Ext β β') {b : Blk} (h : InB E β b) : InB E β' b := let ⟨sh, g, o, r⟩ := h; ⟨sh, g, o, r.ext he⟩

/-- The last number below n of which a thing is so, and one; 0: there is none. -/
def lst (f : Nat → Bool) : Nat → Nat
  | 0 => 0
  | n + 1 => bif f n then n + 1 else lst f n
theorem lst_le (f : Nat → Bool) (n : Nat) : lst f n ≤ n := by
  induction n with
  | zero => exact Nat.le_refl _
  | succ n ih => unfold lst; cases f n <;> simp <;> omega
theorem lst_not {f : Nat → Bool} {n k : Nat} (h : lst f n ≤ k) (hk : k < n) : f k = false := by
  induction n with
  | zero => omega
  | succ n ih =>
    unfold lst at h
    cases hf : f n with
    | true => rw [hf] at h; simp at h; omega
    | false =>
      rw [hf] at h
      by_cases e : k = n
      · subst e; exact hf
      · exact ih (by simpa using h) (by omega)
theorem lst_lt {f : Nat → Bool} {n k : Nat} (h : f k = true) (hk : k < n) : k + 1 ≤ lst f n := by
  apply Classical.byContradiction
  intro hn
  have := lst_not (f := f) (n := n) (k := k) (by omega) hk
  rw [h] at this
  cases this
theorem lst_up {f : Nat → Bool} {n i : Nat} (hi : i ≤ n) (h : ∀ k, i ≤ k → k < n → f k = false) : lst f n ≤ i := by
  induction n with
  | zero => exact Nat.zero_le _
  | succ n ih =>
    unfold lst
    by_cases e : i = n + 1
    · subst e
      cases f n
      · exact Nat.le_succ_of_le (lst_le f n)
      · exact Nat.le_refl _
    · rw [h n (by omega) (by omega)]
      exact ih (by omega) fun k h1 h2 => h k h1 (by omega)
theorem lst_congr {f g : Nat → Bool} {n : Nat} (h : ∀ k, k < n → f k = g k) : lst f n = lst g n := by
  induction n with
  | zero => rfl
  | succ n ih => unfold lst; rw [h n (by omega), ih fun k hk => h k (by omega)]
end Go.Ev
