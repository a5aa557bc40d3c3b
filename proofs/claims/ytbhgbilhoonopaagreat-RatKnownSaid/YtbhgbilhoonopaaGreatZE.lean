/- A region that draws its order, by what each of its operations leaves: whatever order, the same is known behind it. -/
import Derived.Orders
import Derived.Below
import Derived.WalkKit
import Derived.Test.YtbhgbilhoonopaaGreatZBase
namespace Go.Proofs.YtbhgbilhoonopaaGreat
open Go.RowKit
set_option linter.unusedVariables false

section
variable {P : Program} {ops : Array Oper} {Q : Exit → Act → World → Prop}

def dstOf (ops : Array Oper) (i : Nat) : Option Tmp := (ops[i]?).bind (·.dst)
/-- No slot is written by two operations. -/
def dstsApart (ops : Array Oper) : Bool := (List.range ops.size).all fun i => (List.range ops.size).all fun j => i == j || (dstOf ops i).all fun d => dstOf ops j != some d
def dstsIn (ops : Array Oper) (n : Nat) : Bool := (List.range ops.size).all fun i => (dstOf ops i).all fun d => decide (d < n)
/-- Operation i waits for j. -/
def needs (ops : Array Oper) (i j : Nat) : Bool := (ops[i]?).any fun o => o.after.any fun e => Region.binds .any e && e.on == j
/-- Slot k is not written ahead of operation i. -/
def untouched (ops : Array Oper) (i k : Nat) : Bool := (List.range ops.size).all fun j => j == i || dstOf ops j != some k || needs ops j i

theorem dstsApart_ne (h : dstsApart ops = true) {i j d : Nat} (hi : i < ops.size) (hj : j < ops.size) (hne : i ≠ j) (hd : dstOf ops i = some d) : dstOf ops j ≠ some d := by
  unfold dstsApart at h
  rw [List.all_eq_true] at h
  have h1 := h i (List.mem_range.2 hi)
  rw [List.all_eq_true] at h1
  have h2 := h1 j (List.mem_range.2 hj)
  rw [hd] at h2
  simp [hne] at h2
  exact h2
theorem dstsIn_lt {n : Nat} (h : dstsIn ops n = true) {i d : Nat} (hi : i < ops.size) (hd : dstOf ops i = some d) : d < n := by
  unfold dstsIn at h
  rw [List.all_eq_true] at h
  have h1 := h i (List.mem_range.2 hi)
  rw [hd] at h1
  simpa using h1

/-- The slot of a store's pointer. -/
def auxOf (ops : Array Oper) (i : Nat) : Option Tmp := (ops[i]?).bind fun o => match o.op with | .store _ (.tmp p) _ => some p | _ => none
/-- .. what it holds. -/
def auxV (ops : Array Oper) (i : Nat) (a : Act) : Value := match auxOf ops i with | some p => a.tmps.getD p undef | none => undef
/-- No store's pointer is written behind it. -/
def auxKept (ops : Array Oper) : Bool := (List.range ops.size).all fun i => (auxOf ops i).all fun p => (List.range ops.size).all fun j => dstOf ops j != some p || needs ops i j
theorem auxKept_ne (h : auxKept ops = true) {i j p : Nat} (hi : i < ops.size) (hj : j < ops.size) (ha : auxOf ops i = some p) (hn : needs ops i j = false) : dstOf ops j ≠ some p := by
  unfold auxKept at h
  rw [List.all_eq_true] at h
  have h1 := h i (List.mem_range.2 hi)
  rw [ha] at h1
  simp only [Option.all_some, List.all_eq_true] at h1
  have h2 := h1 j (List.mem_range.2 hj)
  rw [hn, Bool.or_false] at h2
  simpa using h2

def isAlloc (ops : Array Oper) (i : Nat) : Bool := (ops[i]?).any fun o => match o.op with | .alloc _ => true | _ => false
/-- Stores go each to a variable of its own, which the region makes. -/
def auxApart (ops : Array Oper) : Bool := (List.range ops.size).all fun i => (auxOf ops i).all fun p =>
  ((List.range ops.size).any fun m => isAlloc ops m && dstOf ops m == some p && needs ops i m) && (List.range ops.size).all fun j => i == j || auxOf ops j != some p
theorem auxApart_alloc (h : auxApart ops = true) {i p : Nat} (hi : i < ops.size) (ha : auxOf ops i = some p) : ∃ m, m < ops.size ∧ isAlloc ops m = true ∧ dstOf ops m = some p ∧ needs ops i m = true := by
  unfold auxApart at h
  rw [List.all_eq_true] at h
  have h1 := h i (List.mem_range.2 hi)
  rw [ha] at h1
  simp only [Option.all_some, Bool.and_eq_true, List.any_eq_true] at h1
  obtain ⟨⟨m, hm, hx⟩, _⟩ := h1
  exact ⟨m, List.mem_range.1 hm, hx.1.1, by simpa using hx.1.2, hx.2⟩
theorem auxApart_ne (h : auxApart ops = true) {i j p : Nat} (hi : i < ops.size) (hj : j < ops.size) (hne : i ≠ j) (ha : auxOf ops i = some p) : auxOf ops j ≠ some p := by
  unfold auxApart at h
  rw [List.all_eq_true] at h
  have h1 := h i (List.mem_range.2 hi)
  rw [ha] at h1
  simp only [Option.all_some, Bool.and_eq_true, List.all_eq_true] at h1
  have := h1.2 j (List.mem_range.2 hj)
  simp [hne] at this
  exact this

/-- What is known of a region that is under way: which operations came up, and what they left. -/
structure RInv (Ext : World → World → Prop) (Rel : Value → World → World → Prop) (ops : Array Oper) (sp : Nat → Value → Value → World → Prop) (a0 : Act) (W0 : World) (listed : Array Bool) (a : Act) (w : World) : Prop where
  ext : Ext W0 w
  sz : a.tmps.size = a0.tmps.size
  defers : a.defers = a0.defers
  lsz : listed.size = ops.size
  closed : ∀ j o, ops[j]? = some o → listed.getD j false = true → ∀ e ∈ o.after, Region.binds .any e = true → listed.getD e.on false = true
  old : ∀ k, (∀ i, listed.getD i false = true → dstOf ops i ≠ some k) → a.tmps[k]? = a0.tmps[k]?
  got : ∀ i, listed.getD i false = true → ∃ v, (∀ d, dstOf ops i = some d → a.tmps[d]? = some v) ∧ sp i v (auxV ops i a) w
  apart : ∀ i j di dj, i ≠ j → listed.getD i false = true → listed.getD j false = true → isAlloc ops i = true → isAlloc ops j = true → dstOf ops i = some di → dstOf ops j = some dj → a.tmps[di]? ≠ a.tmps[dj]?

/-- What an operation may go by. -/
structure Sees (Ext : World → World → Prop) (Rel : Value → World → World → Prop) (ops : Array Oper) (sp : Nat → Value → Value → World → Prop) (a0 : Act) (W0 : World) (i : Nat) (a : Act) (w : World) : Prop where
  ext : Ext W0 w
  got : ∀ j, needs ops i j = true → ∃ v, (∀ d, dstOf ops j = some d → a.tmps[d]? = some v) ∧ sp j v (auxV ops j a) w
  old : ∀ k, untouched ops i k = true → a.tmps[k]? = a0.tmps[k]?

/-- What an operation must leave. -/
def Leaves (Rel : Value → World → World → Prop) (ops : Array Oper) (sp : Nat → Value → Value → World → Prop) (i : Nat) (a : Act) (w : World) (a' : Act) (w' : World) : Prop :=
  ∃ v, a' = a.put (dstOf ops i) v ∧ Rel (auxV ops i a) w w' ∧ sp i v (auxV ops i a) w' ∧ (isAlloc ops i = true → ∀ j vj u, isAlloc ops j = true → sp j vj u w → vj ≠ v)

def RStep (P : Program) (Ext : World → World → Prop) (Rel : Value → World → World → Prop) (ops : Array Oper) (Q : Exit → Act → World → Prop) (sp : Nat → Value → Value → World → Prop) (a0 : Act) (W0 : World) (i : Nat) : Prop :=
  ∀ a w, Sees Ext Rel ops sp a0 W0 i a w → wpOp P ops Q i (Leaves Rel ops sp i a w) a w

theorem getD_set_cases {listed : Array Bool} {i j : Nat} (h : (listed.setIfInBounds i true).getD j false = true) : j = i ∨ listed.getD j false = true := by
  by_cases hij : i = j
  · exact .inl hij.symm
  · rw [getD_set_ne false hij] at h
    exact .inr h
theorem getD_lt {listed : Array Bool} {j : Nat} (h : listed.getD j false = true) : j < listed.size := by
  rcases Nat.lt_or_ge j listed.size with h' | h'
  · exact h'
  · simp [Array.getElem?_eq_none h'] at h
theorem not_true_of {listed : Array Bool} {j : Nat} (h : listed.getD j true = false) : listed.getD j false = false := by
  rcases Nat.lt_or_ge j listed.size with h' | h'
  · simp [h'] at h ⊢
    exact h
  · simp [Array.getElem?_eq_none h']

theorem put_size (a : Act) (d : Option Tmp) (v : Value) : (a.put d v).tmps.size = a.tmps.size := by cases d <;> simp [Act.put]
theorem put_defers (a : Act) (d : Option Tmp) (v : Value) : (a.put d v).defers = a.defers := by cases d <;> rfl
theorem put_other (a : Act) {d : Option Tmp} {k : Nat} (v : Value) (h : d ≠ some k) : (a.put d v).tmps[k]? = a.tmps[k]? := by
  cases d with
  | none => rfl
  | some d =>
    have : d ≠ k := fun e => h (by rw [e])
    simp [Act.put, Array.getElem?_setIfInBounds_ne this]
theorem put_same (a : Act) {k : Nat} (v : Value) (h : k < a.tmps.size) : (a.put (some k) v).tmps[k]? = some v := by
  simp [Act.put, h]

/-- Each operation waits for earlier ones alone. -/
def edgesBack (ops : Array Oper) : Bool := (List.range ops.size).all fun i => (ops[i]?).all fun o => o.after.all fun e => !Region.binds .any e || decide (e.on < i)
theorem edgesBack_lt (h : edgesBack ops = true) {i : Nat} {o : Oper} {e : Edge} (ho : ops[i]? = some o) (he : e ∈ o.after) (hb : Region.binds .any e = true) : e.on < i := by
  have hi : i < ops.size := (Array.getElem?_eq_some_iff.1 ho).1
  unfold edgesBack at h
  rw [List.all_eq_true] at h
  have h1 := h i (List.mem_range.2 hi)
  rw [ho] at h1
  simp only [Option.all_some, Array.all_eq_true'] at h1
  have h2 := h1 e he
  rw [hb] at h2
  simpa using h2
theorem noself (hE : edgesBack ops = true) {i : Nat} {o : Oper} (ho : ops[i]? = some o) : needs ops i i = false := by
  cases hn : needs ops i i with
  | false => rfl
  | true =>
    exfalso
    unfold needs at hn
    rw [ho] at hn
    simp only [Option.any_some, Array.any_eq_true'] at hn
    obtain ⟨e, he, hje⟩ := hn
    rw [Bool.and_eq_true, beq_iff_eq] at hje
    have := edgesBack_lt hE ho he hje.1
    omega
theorem auxV_put {i : Nat} {a : Act} {d : Option Tmp} {v : Value} (h : ∀ p, auxOf ops i = some p → d ≠ some p) : auxV ops i (a.put d v) = auxV ops i a := by
  unfold auxV
  cases ha : auxOf ops i with
  | none => rfl
  | some p =>
    have := put_other a (d := d) (k := p) v (h p ha)
    simp only [Array.getD_eq_getD_getElem?, this]

theorem needs_listed {Ext : World → World → Prop} {Rel : Value → World → World → Prop} {sp : Nat → Value → Value → World → Prop} {a0 : Act} {W0 : World} {listed : Array Bool} {a : Act} {w : World} (h : RInv Ext Rel ops sp a0 W0 listed a w) {j m : Nat} (hj : listed.getD j false = true) (hn : needs ops j m = true) : listed.getD m false = true := by
  unfold needs at hn
  cases hoj : ops[j]? with
  | none => rw [hoj] at hn; cases hn
  | some oj =>
    rw [hoj] at hn
    simp only [Option.any_some, Array.any_eq_true'] at hn
    obtain ⟨e, he, hje⟩ := hn
    rw [Bool.and_eq_true, beq_iff_eq] at hje
    have := h.closed j oj hoj hj e he hje.1
    rw [hje.2] at this
    exact this
theorem ready_needs {listed : Array Bool} {i m : Nat} (hi : i ∈ Region.ready .any ops listed) (hn : needs ops i m = true) : listed.getD m false = true := by
  obtain ⟨hun, o, ho, hall⟩ := mem_ready.1 hi
  unfold needs at hn
  rw [ho] at hn
  simp only [Option.any_some, Array.any_eq_true'] at hn
  obtain ⟨e, he, hje⟩ := hn
  rw [Bool.and_eq_true, beq_iff_eq] at hje
  have := hall e he hje.1
  rw [hje.2] at this
  exact this
/-- The variables of two stores are two. -/
theorem auxV_ne {Ext : World → World → Prop} {Rel : Value → World → World → Prop} {sp : Nat → Value → Value → World → Prop} {a0 : Act} {W0 : World} {listed : Array Bool} {a : Act} {w : World} (hY : auxApart ops = true) (h : RInv Ext Rel ops sp a0 W0 listed a w) {i j : Nat} (hi : i ∈ Region.ready .any ops listed) (hjl : j < ops.size) (hj : listed.getD j false = true) (hne : j ≠ i) (hu : auxV ops i a ≠ undef) : auxV ops i a ≠ auxV ops j a := by
  have hilt : i < ops.size := by
    obtain ⟨_, o, ho, _⟩ := mem_ready.1 hi
    exact (Array.getElem?_eq_some_iff.1 ho).1
  cases hpi : auxOf ops i with
  | none => exact absurd (by unfold auxV; rw [hpi]) hu
  | some p =>
    cases hpj : auxOf ops j with
    | none =>
      have : auxV ops j a = undef := by unfold auxV; rw [hpj]
      rw [this]
      exact hu
    | some q =>
      have hpq : p ≠ q := fun e => auxApart_ne hY hilt hjl (Ne.symm hne) hpi (by rw [hpj, e])
      obtain ⟨m, hm, ham, hdm, hnm⟩ := auxApart_alloc hY hilt hpi
      obtain ⟨m', hm', ham', hdm', hnm'⟩ := auxApart_alloc hY hjl hpj
      have hlm := ready_needs hi hnm
      have hlm' := needs_listed h hj hnm'
      have hmm : m ≠ m' := fun e => hpq (by rw [e, hdm'] at hdm; exact (Option.some.inj hdm).symm)
      have := h.apart m m' p q hmm hlm hlm' ham ham' hdm hdm'
      obtain ⟨v, hv, _⟩ := h.got m hlm
      obtain ⟨v', hv', _⟩ := h.got m' hlm'
      rw [hv p hdm, hv' q hdm'] at this
      unfold auxV
      rw [hpi, hpj]
      simp only [Array.getD_eq_getD_getElem?, hv p hdm, hv' q hdm', Option.getD_some]
      exact fun e => this (by rw [e])

theorem RInv.step {Ext : World → World → Prop} {Rel : Value → World → World → Prop} {sp : Nat → Value → Value → World → Prop} {a0 : Act} {W0 : World} {listed : Array Bool} {a : Act} {w : World} (hA : dstsApart ops = true) (hI : dstsIn ops a0.tmps.size = true) (hE : edgesBack ops = true)
    (htr : ∀ u a b c, Ext a b → Rel u b c → Ext a c) (hX : auxKept ops = true) (hY : auxApart ops = true) (hst : ∀ i v u u' w w', Rel u' w w' → (u' ≠ undef → u' ≠ u) → sp i v u w → sp i v u w') (h : RInv Ext Rel ops sp a0 W0 listed a w) {i : Nat} (hi : i ∈ Region.ready .any ops listed) {a' : Act} {w' : World} (hl : Leaves Rel ops sp i a w a' w') :
    RInv Ext Rel ops sp a0 W0 (listed.setIfInBounds i true) a' w' := by
  obtain ⟨v, rfl, hb, hsp, hfr⟩ := hl
  obtain ⟨hun, o, ho, hall⟩ := mem_ready.1 hi
  have hilt : i < ops.size := (Array.getElem?_eq_some_iff.1 ho).1
  have hnl := not_true_of hun
  refine ⟨htr _ _ _ _ h.ext hb, (put_size _ _ _).trans h.sz, (put_defers _ _ _).trans h.defers, by rw [Array.size_setIfInBounds]; exact h.lsz, ?_, ?_, ?_, ?_⟩
  · intro j oj hoj hj e he hbe
    rcases getD_set_cases hj with rfl | hj
    · rw [ho] at hoj
      cases hoj
      exact getD_set_true (hall e he hbe)
    · exact getD_set_true (h.closed j oj hoj hj e he hbe)
  · intro k hk
    have hik : dstOf ops i ≠ some k := hk i (by simp [h.lsz, hilt])
    rw [put_other _ _ hik]
    exact h.old k fun j hj => hk j (getD_set_true hj)
  · intro j hj
    rcases getD_set_cases hj with rfl | hj
    · refine ⟨v, fun d hd => ?_, ?_⟩
      · rw [hd]
        exact put_same _ _ (by rw [h.sz]; exact dstsIn_lt hI hilt hd)
      · rw [auxV_put]
        · exact hsp
        · intro p hp
          exact auxKept_ne hX hilt hilt hp (noself hE ho)
    · obtain ⟨u, hu, hs⟩ := h.got j hj
      have hjl : j < ops.size := by rw [← h.lsz]; exact getD_lt hj
      have hne : j ≠ i := fun e => by rw [e, hnl] at hj; cases hj
      refine ⟨u, fun d hd => ?_, ?_⟩
      · rw [put_other _ _ (dstsApart_ne hA hjl hilt hne hd)]
        exact hu d hd
      · rw [auxV_put]
        · refine hst j u _ _ w w' hb (fun hu0 => ?_) hs
          exact auxV_ne hY h hi hjl hj hne hu0
        · intro p hp
          refine auxKept_ne hX hjl hilt hp ?_
          cases hn : needs ops j i with
          | false => rfl
          | true =>
            exfalso
            unfold needs at hn
            cases hoj : ops[j]? with
            | none => rw [hoj] at hn; cases hn
            | some oj =>
              rw [hoj] at hn
              simp only [Option.any_some, Array.any_eq_true'] at hn
              obtain ⟨e, he, hje⟩ := hn
              rw [Bool.and_eq_true, beq_iff_eq] at hje
              have := h.closed j oj hoj hj e he hje.1
              rw [hje.2, hnl] at this
              cases this
  · intro j k dj dk hjk hj0 hk0 haj hak hdj hdk
    rcases getD_set_cases hj0 with rfl | hj
    · rcases getD_set_cases hk0 with rfl | hk
      · exact absurd rfl hjk
      · have hkl : k < ops.size := by rw [← h.lsz]; exact getD_lt hk
        obtain ⟨u, hu, hs⟩ := h.got k hk
        rw [hdj, put_same _ _ (by rw [h.sz]; exact dstsIn_lt hI hilt hdj), put_other _ _ (fun e => dstsApart_ne hA hilt hkl hjk hdj (by rw [hdk, e])), hu dk hdk]
        intro e
        injection e with e
        exact hfr haj k u _ hak hs e.symm
    · rcases getD_set_cases hk0 with rfl | hk
      · have hjl : j < ops.size := by rw [← h.lsz]; exact getD_lt hj
        obtain ⟨u, hu, hs⟩ := h.got j hj
        rw [hdk, put_same _ _ (by rw [h.sz]; exact dstsIn_lt hI hilt hdk), put_other _ _ (fun e => dstsApart_ne hA hilt hjl (Ne.symm hjk) hdk (by rw [hdj, e])), hu dj hdj]
        intro e
        injection e with e
        exact hfr hak j u _ haj hs e
      · have hjl : j < ops.size := by rw [← h.lsz]; exact getD_lt hj
        have hkl : k < ops.size := by rw [← h.lsz]; exact getD_lt hk
        have hji : j ≠ i := fun e => by rw [e, hnl] at hj; cases hj
        have hki : k ≠ i := fun e => by rw [e, hnl] at hk; cases hk
        rw [put_other _ _ (dstsApart_ne hA hjl hilt hji hdj), put_other _ _ (dstsApart_ne hA hkl hilt hki hdk)]
        exact h.apart j k dj dk hjk hj hk haj hak hdj hdk

theorem RInv.sees {Ext : World → World → Prop} {Rel : Value → World → World → Prop} {sp : Nat → Value → Value → World → Prop} {a0 : Act} {W0 : World} {listed : Array Bool} {a : Act} {w : World} (h : RInv Ext Rel ops sp a0 W0 listed a w) {i : Nat} (hi : i ∈ Region.ready .any ops listed) : Sees Ext Rel ops sp a0 W0 i a w := by
  obtain ⟨hun, o, ho, hall⟩ := mem_ready.1 hi
  have hnl := not_true_of hun
  refine ⟨h.ext, fun j hj => ?_, fun k hk => ?_⟩
  · unfold needs at hj
    rw [ho] at hj
    simp only [Option.any_some, Array.any_eq_true'] at hj
    obtain ⟨e, he, hje⟩ := hj
    rw [Bool.and_eq_true, beq_iff_eq] at hje
    have := hall e he hje.1
    rw [hje.2] at this
    exact h.got j this
  · refine h.old k fun j hj hd => ?_
    unfold untouched at hk
    rw [List.all_eq_true] at hk
    have hjl : j < ops.size := by rw [← h.lsz]; exact getD_lt hj
    have h1 := hk j (List.mem_range.2 hjl)
    rw [hd] at h1
    simp only [bne_self_eq_false, Bool.or_false, Bool.or_eq_true, beq_iff_eq] at h1
    rcases h1 with h1 | h1
    · rw [h1, hnl] at hj; cases hj
    · unfold needs at h1
      cases hoj : ops[j]? with
      | none => rw [hoj] at h1; cases h1
      | some oj =>
        rw [hoj] at h1
        simp only [Option.any_some, Array.any_eq_true'] at h1
        obtain ⟨e, he, hje⟩ := h1
        rw [Bool.and_eq_true, beq_iff_eq] at hje
        have := h.closed j oj hoj hj e he hje.1
        rw [hje.2, hnl] at this
        cases this

def allBelow : Nat → (Nat → Prop) → Prop
  | 0, _ => True
  | n + 1, p => allBelow n p ∧ p n
theorem allBelow_lt {p : Nat → Prop} : ∀ {n : Nat}, allBelow n p → ∀ i, i < n → p i
  | 0, _, i, hi => absurd hi (by omega)
  | n + 1, h, i, hi => by
    rcases Nat.lt_or_ge i n with h' | h'
    · exact allBelow_lt h.1 i h'
    · have : i = n := by omega
      subst this
      exact h.2

/-- All that the operations left, in the text's order. -/
def putAll : List Oper → List Value → Act → Act
  | o :: os, v :: vs, a => putAll os vs (a.put o.dst v)
  | _, _, a => a

theorem ready_all {listed : Array Bool} (hl : listed.size = ops.size) (hE : edgesBack ops = true) (h : Region.ready .any ops listed = []) (i : Nat) : i < ops.size → listed.getD i false = true := by
  induction i using Nat.strongRecOn with
  | ind i ih =>
    intro hi
    cases hc : listed.getD i false with
    | true => rfl
    | false =>
      exfalso
      have hi' : i < listed.size := by omega
      have : i ∈ Region.ready .any ops listed := by
        refine mem_ready.2 ⟨?_, ops[i], Array.getElem?_eq_getElem hi, fun e he hb => ?_⟩
        · simp [hi'] at hc ⊢
          exact hc
        · have := edgesBack_lt hE (Array.getElem?_eq_getElem hi) he hb
          exact ih e.on this (by omega)
      rw [h] at this
      cases this

theorem putAll_size : ∀ (os : List Oper) (vs : List Value) (a : Act), (putAll os vs a).tmps.size = a.tmps.size
  | o :: os, v :: vs, a => by rw [putAll, putAll_size, put_size]
  | [], _, a => by simp [putAll]
  | _ :: _, [], a => by simp [putAll]
theorem putAll_defers : ∀ (os : List Oper) (vs : List Value) (a : Act), (putAll os vs a).defers = a.defers
  | o :: os, v :: vs, a => by rw [putAll, putAll_defers, put_defers]
  | [], _, a => by simp [putAll]
  | _ :: _, [], a => by simp [putAll]
theorem putAll_other : ∀ (os : List Oper) (vs : List Value) (a : Act) (k : Nat), (∀ o ∈ os, o.dst ≠ some k) → (putAll os vs a).tmps[k]? = a.tmps[k]?
  | o :: os, v :: vs, a, k, h => by rw [putAll, putAll_other os vs _ k (fun o' ho' => h o' (List.mem_cons_of_mem _ ho')), put_other _ _ (h o List.mem_cons_self)]
  | [], _, a, k, _ => by simp [putAll]
  | _ :: _, [], a, k, _ => by simp [putAll]
theorem putAll_at : ∀ (os : List Oper) (vs : List Value) (a : Act) (i k : Nat) (o : Oper) (v : Value), os[i]? = some o → vs[i]? = some v → o.dst = some k → k < a.tmps.size → (∀ j o', os[j]? = some o' → j ≠ i → o'.dst ≠ some k) → (putAll os vs a).tmps[k]? = some v
  | o :: os, v :: vs, a, 0, k, o', v', ho, hv, hd, hk, hne => by
    simp at ho hv
    subst ho hv
    rw [putAll, putAll_other os vs _ k, hd, put_same _ _ hk]
    intro o' ho'
    obtain ⟨j, hj⟩ := List.getElem?_of_mem ho'
    exact hne (j + 1) o' (by simpa using hj) (by omega)
  | o :: os, v :: vs, a, i + 1, k, o', v', ho, hv, hd, hk, hne => by
    simp at ho hv
    rw [putAll]
    refine putAll_at os vs _ i k o' v' ho hv hd (by rw [put_size]; exact hk) fun j o'' hj hji => ?_
    exact hne (j + 1) o'' (by simpa using hj) (by omega)
  | [], _, a, i, k, o, v, ho, _, _, _, _ => by simp at ho
  | _ :: _, [], a, i, k, o, v, _, hv, _, _, _ => by simp at hv

theorem vals_of {p : Nat → Value → Prop} : ∀ n, (∀ i, i < n → ∃ v, p i v) → ∃ vs : List Value, vs.length = n ∧ ∀ i v, vs[i]? = some v → p i v
  | 0, _ => ⟨[], rfl, fun i v h => by simp at h⟩
  | n + 1, h => by
    obtain ⟨vs, hl, hv⟩ := vals_of n fun i hi => h i (by omega)
    obtain ⟨v, hv'⟩ := h n (by omega)
    refine ⟨vs ++ [v], by simp [hl], fun i u hu => ?_⟩
    rcases Nat.lt_or_ge i n with hi | hi
    · rw [List.getElem?_append_left (by omega)] at hu
      exact hv i u hu
    · rw [List.getElem?_append_right (by omega)] at hu
      rcases Nat.lt_or_ge n i with h9 | h9
      · rw [List.getElem?_eq_none (by simp; omega)] at hu; cases hu
      · have : i = n := by omega
        subst this
        rw [hl, Nat.sub_self] at hu
        simp at hu
        subst hu
        exact hv'

theorem RInv.fin {Ext : World → World → Prop} {Rel : Value → World → World → Prop} {sp : Nat → Value → Value → World → Prop} {a0 : Act} {W0 : World} {listed : Array Bool} {a : Act} {w : World} (hA : dstsApart ops = true) (hI : dstsIn ops a0.tmps.size = true) (hE : edgesBack ops = true)
    (h : RInv Ext Rel ops sp a0 W0 listed a w) (hr : Region.ready .any ops listed = []) : ∃ vs : List Value, vs.length = ops.size ∧ a = putAll ops.toList vs a0 ∧ ∀ i v, vs[i]? = some v → (∀ d, dstOf ops i = some d → a.tmps[d]? = some v) ∧ sp i v (auxV ops i a) w := by
  have hall := ready_all h.lsz hE hr
  obtain ⟨vs, hl, hv⟩ := vals_of (p := fun i v => (∀ d, dstOf ops i = some d → a.tmps[d]? = some v) ∧ sp i v (auxV ops i a) w) ops.size fun i hi => h.got i (hall i hi)
  refine ⟨vs, hl, ?_, hv⟩
  have ht : a.tmps = (putAll ops.toList vs a0).tmps := by
    apply Array.ext_getElem?
    intro k
    by_cases hk : ∃ i, i < ops.size ∧ dstOf ops i = some k
    · obtain ⟨i, hi, hd⟩ := hk
      have hvi : vs[i]? = some (vs[i]'(by omega)) := List.getElem?_eq_getElem _
      rw [(hv i _ hvi).1 k hd]
      refine (putAll_at ops.toList vs a0 i k ops[i] _ (by simp [hi]) hvi ?_ (dstsIn_lt hI hi hd) ?_).symm
      · unfold dstOf at hd
        rw [Array.getElem?_eq_getElem hi] at hd
        exact hd
      · intro j o' hj hji hd'
        rw [Array.getElem?_toList] at hj
        have hjl : j < ops.size := (Array.getElem?_eq_some_iff.1 hj).1
        refine dstsApart_ne hA hi hjl (Ne.symm hji) hd ?_
        unfold dstOf
        rw [hj]
        exact hd'
    · rw [h.old k fun i hi hd => hk ⟨i, by rw [← h.lsz]; exact getD_lt hi, hd⟩]
      refine (putAll_other _ _ _ _ fun o ho hd => ?_).symm
      obtain ⟨j, hj⟩ := List.getElem?_of_mem ho
      rw [Array.getElem?_toList] at hj
      exact hk ⟨j, (Array.getElem?_eq_some_iff.1 hj).1, by unfold dstOf; rw [hj]; exact hd⟩
  have hd : a.defers = (putAll ops.toList vs a0).defers := by rw [h.defers, putAll_defers]
  cases a
  simp only at ht hd
  rw [ht, hd]

theorem count_set_true : ∀ (l : List Bool) (i : Nat), l[i]? = some false → (l.set i true).count false + 1 = l.count false
  | [], i, h => by simp at h
  | b :: l, 0, h => by
    simp at h
    subst h
    simp
  | b :: l, i + 1, h => by
    have := count_set_true l i (by simpa using h)
    rw [List.set_cons_succ, List.count_cons, List.count_cons]
    omega

theorem wpAny_spec {Ext : World → World → Prop} {Rel : Value → World → World → Prop} {sp : Nat → Value → Value → World → Prop} {a0 : Act} {W0 : World} (hA : dstsApart ops = true) (hI : dstsIn ops a0.tmps.size = true) (hE : edgesBack ops = true)
    (htr : ∀ u a b c, Ext a b → Rel u b c → Ext a c) (hX : auxKept ops = true) (hY : auxApart ops = true) (hst : ∀ i v u u' w w', Rel u' w w' → (u' ≠ undef → u' ≠ u) → sp i v u w → sp i v u w')
    (hstep : ∀ i, i < ops.size → RStep P Ext Rel ops Q sp a0 W0 i)
    (hfin : ∀ vs w, vs.length = ops.size → Ext W0 w → (∀ i v, vs[i]? = some v → (∀ d, dstOf ops i = some d → (putAll ops.toList vs a0).tmps[d]? = some v) ∧ sp i v (auxV ops i (putAll ops.toList vs a0)) w) → Q .normal (putAll ops.toList vs a0) w) :
    ∀ (fuel : Nat) (listed : Array Bool) (a : Act) (w : World), listed.toList.count false ≤ fuel → RInv Ext Rel ops sp a0 W0 listed a w → wpAny P .any ops Q fuel listed a w := by
  have fin : ∀ (listed : Array Bool) (a : Act) (w : World), RInv Ext Rel ops sp a0 W0 listed a w → Region.ready .any ops listed = [] → Q .normal a w := by
    intro listed a w h hr
    obtain ⟨vs, hl, rfl, hv⟩ := h.fin hA hI hE hr
    exact hfin vs w hl h.ext hv
  intro fuel
  induction fuel with
  | zero =>
    intro listed a w hc h
    have hr : Region.ready .any ops listed = [] := by
      apply List.eq_nil_iff_forall_not_mem.2
      intro i hi
      obtain ⟨hun, o, ho, _⟩ := mem_ready.1 hi
      have hil : i < listed.size := by rw [h.lsz]; exact (Array.getElem?_eq_some_iff.1 ho).1
      simp [hil] at hun
      have : false ∈ listed.toList := by rw [← hun]; simp
      have := List.count_pos_iff.2 this
      omega
    exact ⟨hr, fin listed a w h hr⟩
  | succ fuel ih =>
    intro listed a w hc h
    refine ⟨fin listed a w h, fun i hi => ?_⟩
    obtain ⟨hun, o, ho, _⟩ := mem_ready.1 hi
    have hil : i < ops.size := (Array.getElem?_eq_some_iff.1 ho).1
    refine wpOp_mono (fun a' w' hl => ih _ a' w' ?_ (h.step hA hI hE htr hX hY hst hi hl)) (hstep i hil a w (h.sees hi))
    have hil' : i < listed.size := by rw [h.lsz]; exact hil
    have hl : listed.toList[i]? = some false := by
      rw [Array.getElem?_toList, Array.getElem?_eq_getElem hil']
      simp [hil'] at hun
      rw [hun]
    have := count_set_true listed.toList i hl
    rw [Array.toList_setIfInBounds]
    omega

theorem no_one (n j : Nat) : ¬ (Array.replicate n false).getD j false = true := by
  by_cases h : j < n
  · simp [h]
  · simp [h]

theorem wp_region_spec {Ext : World → World → Prop} {Rel : Value → World → World → Prop} {sp : Nat → Value → Value → World → Prop} {id : Nat} {a0 : Act} {w0 : World} (hm : P.follows .mixedOrders = true) (hA : dstsApart ops = true) (hI : dstsIn ops a0.tmps.size = true) (hE : edgesBack ops = true)
    (hrf : ∀ a, Ext a a) (htr : ∀ u a b c, Ext a b → Rel u b c → Ext a c) (hX : auxKept ops = true) (hY : auxApart ops = true) (hst : ∀ i v u u' w w', Rel u' w w' → (u' ≠ undef → u' ≠ u) → sp i v u w → sp i v u w')
    (hstep : allBelow ops.size (RStep P Ext Rel ops Q sp a0 w0.drew))
    (hfin : ∀ vs w, vs.length = ops.size → Ext w0.drew w → (∀ i v, vs[i]? = some v → (∀ d, dstOf ops i = some d → (putAll ops.toList vs a0).tmps[d]? = some v) ∧ sp i v (auxV ops i (putAll ops.toList vs a0)) w) → Q .normal (putAll ops.toList vs a0) w) : (Code.region id ops true).wp P Q a0 w0 := by
  refine wp_region_any hm (wpAny_spec hA hI hE htr hX hY hst (allBelow_lt hstep) hfin _ _ _ _ ?_ ⟨hrf _, rfl, rfl, by simp, ?_, fun _ _ => rfl, ?_, ?_⟩)
  · simp
  · intro j o _ h
    exact absurd h (no_one _ _)
  · intro i h
    exact absurd h (no_one _ _)
  · intro i j di dj _ h
    exact absurd h (no_one _ _)
end

end Go.Proofs.YtbhgbilhoonopaaGreat

/- Single operations at a state of which only the slots that they read are known. -/
namespace Go.Proofs.YtbhgbilhoonopaaGreat
open Go.RowKit
set_option linter.unusedVariables false
set_option maxRecDepth 100000

section
variable {P : Program} {ops : Array Oper} {Q : Exit → Act → World → Prop} {Ext : World → World → Prop} {Rel : Value → World → World → Prop} {sp : Nat → Value → Value → World → Prop} {a0 : Act} {W0 : World} {i j d : Nat} {o : Oper}

theorem ev_of {a : Act} {k : Nat} {v : Value} (h : a.tmps[k]? = some v) : a.eval (.tmp k) = v := by
  show a.tmps.getD k undef = v
  rw [Array.getD_eq_getD_getElem?, h]
  rfl
/-- What an operation that is carried out must lead to. -/
def Done (Rel : Value → World → World → Prop) (ops : Array Oper) (sp : Nat → Value → Value → World → Prop) (i : Nat) (a : Act) (d : Option Tmp) (w : World) (a' : Act) (w' : World) : Prop := ∃ v, a' = a.put d v ∧ Rel (auxV ops i a) w w' ∧ sp i v (auxV ops i a) w' ∧ (isAlloc ops i = true → ∀ j vj u, isAlloc ops j = true → sp j vj u w → vj ≠ v)
theorem rs_plain (ho : ops[i]? = some o) (hg : o.guard = none) (h : ∀ a w, Sees Ext Rel ops sp a0 W0 i a w → o.wp P a w (Done Rel ops sp i a o.dst w) Q) : RStep P Ext Rel ops Q sp a0 W0 i := by
  intro a w hs
  unfold wpOp
  rw [ho]
  simp only
  have hw : Region.wanted o (yielded ops a.tmps) = true := by unfold Region.wanted; rw [hg]
  rw [if_pos hw]
  refine .inl (Oper.wp_mono (fun a' w' h' => ?_) (h a w hs))
  unfold Leaves
  rw [show dstOf ops i = o.dst by unfold dstOf; rw [ho]; rfl]
  exact h'
theorem rs_yes {b : Bool} (ho : ops[i]? = some o) (hg : o.guard = some (j, b)) (hn : needs ops i j = true) (hd : dstOf ops j = some d) (hj : ∀ v u w, sp j v u w → v = .bool b)
    (h : ∀ a w, Sees Ext Rel ops sp a0 W0 i a w → o.wp P a w (Done Rel ops sp i a o.dst w) Q) : RStep P Ext Rel ops Q sp a0 W0 i := by
  intro a w hs
  obtain ⟨v, hv, hsv⟩ := hs.got j hn
  have hv' := hv d hd
  rw [hj v _ w hsv] at hv'
  unfold wpOp
  rw [ho]
  simp only
  have hw : Region.wanted o (yielded ops a.tmps) = true := by
    unfold Region.wanted
    rw [hg]
    have : yielded ops a.tmps j = some b := by
      unfold yielded
      rw [show (ops[j]?).bind (·.dst) = some d from hd]
      simp only [Option.bind_some, hv']
    simp [this]
  rw [if_pos hw]
  refine .inl (Oper.wp_mono (fun a' w' h' => ?_) (h a w hs))
  unfold Leaves
  rw [show dstOf ops i = o.dst by unfold dstOf; rw [ho]; rfl]
  exact h'
theorem rs_no {b : Bool} (ho : ops[i]? = some o) (hg : o.guard = some (j, b)) (hn : needs ops i j = true) (hd : dstOf ops j = some d) (hj : ∀ v u w, sp j v u w → v = .bool (!b))
    (hna : isAlloc ops i = false) (hrf : ∀ u w, Rel u w w) (h : ∀ u w, sp i undef u w) : RStep P Ext Rel ops Q sp a0 W0 i := by
  intro a w hs
  obtain ⟨v, hv, hsv⟩ := hs.got j hn
  have hv' := hv d hd
  rw [hj v _ w hsv] at hv'
  unfold wpOp
  rw [ho]
  simp only
  have hw : ¬ Region.wanted o (yielded ops a.tmps) = true := by
    unfold Region.wanted
    rw [hg]
    have : yielded ops a.tmps j = some (!b) := by
      unfold yielded
      rw [show (ops[j]?).bind (·.dst) = some d from hd]
      simp only [Option.bind_some, hv']
    cases b <;> simp [this]
  rw [if_neg hw]
  unfold Leaves
  rw [show dstOf ops i = o.dst by unfold dstOf; rw [ho]; rfl]
  exact ⟨undef, rfl, hrf _ w, h _ w, fun e => by rw [hna] at e; cases e⟩
theorem wp_call {a : Act} {w : World} {f : FuncId} {args : Array Value} {K : Act → World → Prop} (h : (execOp a.eval o).run P w = .ok (.enter f args) w) (hc : Calls P f args w fun e w' => ∃ v, e = .returned v ∧ K (a.put o.dst v) w') : o.wp P a w K Q := by
  unfold Oper.wp
  rw [h]
  show Calls P f args w _
  refine hc.mono ?_
  rintro e w' ⟨v, rfl, hk⟩
  exact hk
end

section
variable {a : Act} {w : World} {K : Act → World → Prop} {Q : Exit → Act → World → Prop} {dst : Option Tmp} {ty : TypeId} {pos : String} {af : Array Edge} {gd : Option (Nat × Bool)} {x y : Operand} {s t : Bool} {A B : Option Addr} {n c m d g off : Nat} {p q : Int} {u v v' : Value}
theorem wp_move (h : K (a.put dst (a.eval x)) w) : Oper.wp Tryz.prog ⟨dst, .move x, ty, pos, af, gd⟩ a w K Q := h
theorem wp_mv {v : Value} (hx : a.eval x = v) (h : K (a.put dst v) w) : Oper.wp Tryz.prog ⟨dst, .move x, ty, pos, af, gd⟩ a w K Q := wp_move (by rw [hx]; exact h)
theorem wp_assign (h : K (a.put dst (a.eval x)) w) : Oper.wp Tryz.prog ⟨dst, .assign x, ty, pos, af, gd⟩ a w K Q := h
theorem wp_load (hx : a.eval x = .pointer (some ⟨g, 0, none⟩)) (hb : Bz w g s A n c) (h : K (a.put dst (.agg #[.bool s, .slice A n c])) w) : Oper.wp Tryz.prog ⟨dst, .load 24 x, ty, pos, af, gd⟩ a w K Q := by
  have c0 := hb.c0
  have c1 := hb.c1
  unfold Oper.wp execOp
  simp only [hx]
  go_simp
  exact h
theorem wp_bs2 (hx : a.eval x = .agg #[.bool s, .slice A n c]) (hy : a.eval y = .agg #[.bool t, .slice B m d]) (h : K (a.put dst (.slice (some ⟨w.heap.size, 0, none⟩) 2 2)) (w.alloc (.cells #[.bool s, .slice A n c, .bool t, .slice B m d] 24))) : Oper.wp Tryz.prog ⟨dst, .buildSlice 97 2 #[(0, x), (1, y)], ty, pos, af, gd⟩ a w K Q := by
  unfold Oper.wp execOp
  simp only [List.map_toArray, List.map_cons, List.map_nil, hx, hy]
  go_simp
  exact h
theorem wp_bs1 (hx : a.eval x = .agg #[.bool s, .slice A n c]) (h : K (a.put dst (.slice (some ⟨w.heap.size, 0, none⟩) 1 1)) (w.alloc (.cells #[.bool s, .slice A n c] 24))) : Oper.wp Tryz.prog ⟨dst, .buildSlice 97 1 #[(0, x)], ty, pos, af, gd⟩ a w K Q := by
  unfold Oper.wp execOp
  simp only [List.map_toArray, List.map_cons, List.map_nil, hx]
  go_simp
  exact h
/-- f is called as it stands. -/
def CallsF (f : FuncId) : Prop := ∀ (args : Array Value) (w : World), (callFunc f args).run Tryz.prog w = .ok (.enter f args) w
theorem wp_callf {f : FuncId} {xs : Array Operand} {args : Array Value} {tys : Array TypeId} (hf : CallsF f) (ha : xs.map a.eval = args) (hc : Calls Tryz.prog f args w fun e w' => ∃ v, e = .returned v ∧ K (a.put dst v) w') : Oper.wp Tryz.prog ⟨dst, .call { callee := .value (.func f), args := xs, argTypes := tys }, ty, pos, af, gd⟩ a w K Q := by
  refine wp_call (f := f) (args := args) ?_ hc
  have : (execOp a.eval ⟨dst, .call { callee := .value (.func f), args := xs, argTypes := tys }, ty, pos, af, gd⟩).run Tryz.prog w = (callFunc f (xs.map a.eval)).run Tryz.prog w := by
    simp [go_sem]
  rw [this, ha, hf]
theorem wp_build0 (h : K (a.put dst (.agg #[.bool false, .slice none 0 0])) w) : Oper.wp Tryz.prog ⟨dst, .build 24 #[], ty, pos, af, gd⟩ a w K Q := by
  unfold Oper.wp execOp
  go_simp
  exact h
theorem wp_build2 (hx : a.eval x = .bool s) (hy : a.eval y = .slice A n c) (h : K (a.put dst (.agg #[.bool s, .slice A n c])) w) : Oper.wp Tryz.prog ⟨dst, .build 24 #[(0, x), (1, y)], ty, pos, af, gd⟩ a w K Q := by
  unfold Oper.wp execOp
  simp only [List.map_toArray, List.map_cons, List.map_nil, hx, hy]
  go_simp
  exact h
theorem wp_ext0 (hx : a.eval x = .tuple #[u, v]) (h : K (a.put dst u) w) : Oper.wp Tryz.prog ⟨dst, .extract x 0, ty, pos, af, gd⟩ a w K Q := by
  unfold Oper.wp execOp
  simp only [hx]
  go_simp
  exact h
theorem wp_ext1 (hx : a.eval x = .tuple #[u, v]) (h : K (a.put dst v) w) : Oper.wp Tryz.prog ⟨dst, .extract x 1, ty, pos, af, gd⟩ a w K Q := by
  unfold Oper.wp execOp
  simp only [hx]
  go_simp
  exact h
theorem wp_alloc (h : K (a.put dst (.pointer (some ⟨w.heap.size, 0, none⟩))) (w.alloc (.cells #[.bool false, .slice none 0 0] 24))) : Oper.wp Tryz.prog ⟨dst, .alloc 24, ty, pos, af, gd⟩ a w K Q := by
  unfold Oper.wp execOp
  go_simp
  exact h
theorem wp_store (hx : a.eval x = .pointer (some ⟨g, 0, none⟩)) (hy : a.eval y = .agg #[.bool t, .slice B m d]) (hb : Bz w g s A n c) (h : K (a.put dst undef) ((w.setCell ⟨g, 0, none⟩ (.bool t)).setCell ⟨g, 1, none⟩ (.slice B m d))) : Oper.wp Tryz.prog ⟨dst, .store 24 x y, ty, pos, af, gd⟩ a w K Q := by
  have c0 := hb.c0
  have c1 := hb.c1
  have f0 := hb.f 0
  have f1 := hb.f 1
  unfold Oper.wp execOp
  simp only [hx, hy]
  go_simp
  exact h
theorem wp_not (hx : a.eval x = .bool s) (h : K (a.put dst (.bool (!s))) w) : Oper.wp Tryz.prog ⟨dst, .unOp .not 4 x, ty, pos, af, gd⟩ a w K Q := by
  unfold Oper.wp execOp
  simp only [hx]
  go_simp
  exact h
theorem wp_pick {c : Operand} (hc : a.eval c = .bool s) (h : K (a.put dst (bif s then a.eval x else a.eval y)) w) : Oper.wp Tryz.prog ⟨dst, .pick c x y, ty, pos, af, gd⟩ a w K Q := by
  unfold Oper.wp execOp
  simp only [hc]
  cases s
  · exact h
  · exact h
theorem wp_as {v : Value} (hx : a.eval x = v) (h : K (a.put dst v) w) : Oper.wp Tryz.prog ⟨dst, .assign x, ty, pos, af, gd⟩ a w K Q := wp_assign (by rw [hx]; exact h)
theorem wp_pickT {c : Operand} {v : Value} (hc : a.eval c = .bool true) (hx : a.eval x = v) (h : K (a.put dst v) w) : Oper.wp Tryz.prog ⟨dst, .pick c x y, ty, pos, af, gd⟩ a w K Q := wp_pick hc (by rw [cond_true, hx]; exact h)
theorem wp_pickF {c : Operand} {v : Value} (hc : a.eval c = .bool false) (hy : a.eval y = v) (h : K (a.put dst v) w) : Oper.wp Tryz.prog ⟨dst, .pick c x y, ty, pos, af, gd⟩ a w K Q := wp_pick hc (by rw [cond_false, hy]; exact h)
theorem wp_eqI (hx : a.eval x = .int .i64 p) (hy : a.eval y = .int .i64 q) {T : TypeId} (hT : T = 3 ∨ T = 28) (h : K (a.put dst (.bool (p == q))) w) {T' : TypeId} : Oper.wp Tryz.prog ⟨dst, .binOp .eql T x y T', ty, pos, af, gd⟩ a w K Q := by
  unfold Oper.wp execOp
  rcases hT with rfl | rfl
  · simp only [hx, hy]
    go_simp
    exact h
  · simp only [hx, hy]
    go_simp
    exact h
theorem wp_neI (hx : a.eval x = .int .i64 p) (hy : a.eval y = .int .i64 q) {T : TypeId} (hT : T = 3 ∨ T = 28) (h : K (a.put dst (.bool (p != q))) w) {T' : TypeId} : Oper.wp Tryz.prog ⟨dst, .binOp .neq T x y T', ty, pos, af, gd⟩ a w K Q := by
  unfold Oper.wp execOp
  rcases hT with rfl | rfl
  · simp only [hx, hy]
    go_simp
    exact h
  · simp only [hx, hy]
    go_simp
    exact h
theorem wp_ltI (hx : a.eval x = .int .i64 p) (hy : a.eval y = .int .i64 q) (h : K (a.put dst (.bool (decide (p < q)))) w) {T' : TypeId} : Oper.wp Tryz.prog ⟨dst, .binOp .lss 3 x y T', ty, pos, af, gd⟩ a w K Q := by
  unfold Oper.wp execOp
  simp only [hx, hy]
  go_simp
  exact h
theorem wp_gtI (hx : a.eval x = .int .i64 p) (hy : a.eval y = .int .i64 q) (h : K (a.put dst (.bool (decide (q < p)))) w) {T' : TypeId} : Oper.wp Tryz.prog ⟨dst, .binOp .gtr 3 x y T', ty, pos, af, gd⟩ a w K Q := by
  unfold Oper.wp execOp
  simp only [hx, hy]
  go_simp
  exact h
theorem wp_leI (hx : a.eval x = .int .i64 p) (hy : a.eval y = .int .i64 q) (h : K (a.put dst (.bool (decide (p ≤ q)))) w) {T' : TypeId} : Oper.wp Tryz.prog ⟨dst, .binOp .leq 3 x y T', ty, pos, af, gd⟩ a w K Q := by
  unfold Oper.wp execOp
  simp only [hx, hy]
  go_simp
  exact h
theorem wp_geI (hx : a.eval x = .int .i64 p) (hy : a.eval y = .int .i64 q) (h : K (a.put dst (.bool (decide (q ≤ p)))) w) {T' : TypeId} : Oper.wp Tryz.prog ⟨dst, .binOp .geq 3 x y T', ty, pos, af, gd⟩ a w K Q := by
  unfold Oper.wp execOp
  simp only [hx, hy]
  go_simp
  exact h
theorem wp_eqB (hx : a.eval x = .bool s) (hy : a.eval y = .bool t) (h : K (a.put dst (.bool (s == t))) w) {T' : TypeId} : Oper.wp Tryz.prog ⟨dst, .binOp .eql 4 x y T', ty, pos, af, gd⟩ a w K Q := by
  unfold Oper.wp execOp
  simp only [hx, hy]
  cases s <;> cases t <;> (go_simp; exact h)
theorem wp_neB (hx : a.eval x = .bool s) (hy : a.eval y = .bool t) (h : K (a.put dst (.bool (s != t))) w) {T' : TypeId} : Oper.wp Tryz.prog ⟨dst, .binOp .neq 4 x y T', ty, pos, af, gd⟩ a w K Q := by
  unfold Oper.wp execOp
  simp only [hx, hy]
  cases s <;> cases t <;> (go_simp; exact h)
theorem wp_eqS {k l : ByteArray} (hx : a.eval x = .string k) (hy : a.eval y = .string l) (h : K (a.put dst (.bool (k.toList == l.toList))) w) {T' : TypeId} : Oper.wp Tryz.prog ⟨dst, .binOp .eql 9 x y T', ty, pos, af, gd⟩ a w K Q := by
  unfold Oper.wp execOp
  simp only [hx, hy]
  go_simp
  exact h
theorem wp_loadAt (hx : a.eval x = .pointer (some ⟨g, off, none⟩)) (c0 : w.cell? ⟨g, off, none⟩ = some (.bool s)) (c1 : w.cell? ⟨g, off + 1, none⟩ = some (.slice A n c)) (h : K (a.put dst (.agg #[.bool s, .slice A n c])) w) : Oper.wp Tryz.prog ⟨dst, .load 24 x, ty, pos, af, gd⟩ a w K Q := by
  unfold Oper.wp execOp
  simp only [hx]
  go_simp
  exact h
theorem wp_field0 (hx : a.eval x = .pointer (some ⟨g, 0, none⟩)) (h : K (a.put dst (.pointer (some ⟨g, 0, none⟩))) w) : Oper.wp Tryz.prog ⟨dst, .fieldAddr 24 x 0, ty, pos, af, gd⟩ a w K Q := by
  unfold Oper.wp execOp
  simp only [hx]
  go_simp
  exact h
theorem wp_field1 (hx : a.eval x = .pointer (some ⟨g, 0, none⟩)) (h : K (a.put dst (.pointer (some ⟨g, 1, none⟩))) w) : Oper.wp Tryz.prog ⟨dst, .fieldAddr 24 x 1, ty, pos, af, gd⟩ a w K Q := by
  unfold Oper.wp execOp
  simp only [hx]
  go_simp
  exact h
theorem wp_loadB (hx : a.eval x = .pointer (some ⟨g, 0, none⟩)) (hb : Bz w g s A n c) (h : K (a.put dst (.bool s)) w) : Oper.wp Tryz.prog ⟨dst, .load 4 x, ty, pos, af, gd⟩ a w K Q := by
  have c0 := hb.c0
  unfold Oper.wp execOp
  simp only [hx]
  go_simp
  exact h
theorem wp_loadM (hx : a.eval x = .pointer (some ⟨g, 1, none⟩)) (hb : Bz w g s A n c) (h : K (a.put dst (.slice A n c)) w) : Oper.wp Tryz.prog ⟨dst, .load 22 x, ty, pos, af, gd⟩ a w K Q := by
  have c0 := hb.c1
  unfold Oper.wp execOp
  simp only [hx]
  go_simp
  exact h
/-- A call answers, and leaves what was there. -/
def Ans (w : World) (Post : World → Value → Prop) (e : Ending) (w' : World) : Prop := ∃ v, e = .returned v ∧ Below w.heap.size w w' ∧ Post w' v
theorem st_call {Rel : Value → World → World → Prop} {ops : Array Oper} {sp : Nat → Value → Value → World → Prop} {i : Nat} {f : FuncId} {xs : Array Operand} {args : Array Value} {tys : Array TypeId} {Post : World → Value → Prop} (hf : CallsF f) (ha : xs.map a.eval = args)
    (hna : isAlloc ops i = false) (hR : ∀ u w w', Below w.heap.size w w' → Rel u w w') (hc : Calls Tryz.prog f args w (Ans w Post)) (hsp : ∀ v u w', Post w' v → sp i v u w') : Oper.wp Tryz.prog ⟨dst, .call { callee := .value (.func f), args := xs, argTypes := tys }, ty, pos, af, gd⟩ a w (Done Rel ops sp i a dst w) Q := by
  refine wp_callf hf ha (hc.mono ?_)
  rintro e w' ⟨v, rfl, hb, hv⟩
  exact ⟨v, rfl, v, rfl, hR _ _ _ hb, hsp _ _ _ hv, fun e => by rw [hna] at e; cases e⟩
theorem args1 {v : Value} (hx : a.eval x = v) : (#[x] : Array Operand).map a.eval = #[v] := by simp [hx]
theorem args2 {v u : Value} (hx : a.eval x = v) (hy : a.eval y = u) : (#[x, y] : Array Operand).map a.eval = #[v, u] := by simp [hx, hy]
theorem args4 {x' y' : Operand} {v u v' u' : Value} (hx : a.eval x = v) (hy : a.eval y = u) (hx' : a.eval x' = v') (hy' : a.eval y' = u') : (#[x, y, x', y'] : Array Operand).map a.eval = #[v, u, v', u'] := by simp [hx, hy, hx', hy']
/-- A value, and the world as it was. -/
theorem done {Rel : Value → World → World → Prop} {ops : Array Oper} {sp : Nat → Value → Value → World → Prop} {i : Nat} {d : Option Tmp} {v : Value} (hna : isAlloc ops i = false) (hrf : ∀ u w, Rel u w w) (h : sp i v (auxV ops i a) w) : Done Rel ops sp i a d w (a.put d v) w := ⟨v, rfl, hrf _ w, h, fun e => by rw [hna] at e; cases e⟩
theorem done' {Rel : Value → World → World → Prop} {ops : Array Oper} {sp : Nat → Value → Value → World → Prop} {i : Nat} {d : Option Tmp} {v : Value} {w' : World} (hna : isAlloc ops i = false) (hR : Rel (auxV ops i a) w w') (h : sp i v (auxV ops i a) w') : Done Rel ops sp i a d w (a.put d v) w' := ⟨v, rfl, hR, h, fun e => by rw [hna] at e; cases e⟩
theorem doneA {Rel : Value → World → World → Prop} {ops : Array Oper} {sp : Nat → Value → Value → World → Prop} {i : Nat} {d : Option Tmp} {v : Value} {w' : World} (hR : Rel (auxV ops i a) w w') (h : sp i v (auxV ops i a) w') (hf : ∀ j vj u, isAlloc ops j = true → sp j vj u w → vj ≠ v) : Done Rel ops sp i a d w (a.put d v) w' := ⟨v, rfl, hR, h, fun _ => hf⟩
end

/-! ### Lists of what operations leave -/
def spOf (l : List (Value → Value → World → Prop)) (i : Nat) : Value → Value → World → Prop := l.getD i fun _ _ _ => True
def Stab (Rel : Value → World → World → Prop) (p : Value → Value → World → Prop) : Prop := ∀ v u u' w w', Rel u' w w' → (u' ≠ undef → u' ≠ u) → p v u w → p v u w'
def StabL (Rel : Value → World → World → Prop) : List (Value → Value → World → Prop) → Prop
  | [] => True
  | p :: l => Stab Rel p ∧ StabL Rel l
theorem stab_of {Rel : Value → World → World → Prop} : ∀ {l : List (Value → Value → World → Prop)}, StabL Rel l → ∀ i v u u' w w', Rel u' w w' → (u' ≠ undef → u' ≠ u) → spOf l i v u w → spOf l i v u w'
  | [], _, i, v, u, u', w, w', _, _, h => h
  | p :: l, hl, 0, v, u, u', w, w', hr, hn, h => hl.1 v u u' w w' hr hn h
  | p :: l, hl, i + 1, v, u, u', w, w', hr, hn, h => stab_of hl.2 i v u u' w w' hr hn h

def putFn : List Oper → (Nat → Value) → Nat → Act → Act
  | o :: os, f, i, a => putFn os f (i + 1) (a.put o.dst (f i))
  | [], _, _, a => a
theorem putFn_eq : ∀ (os : List Oper) (pre vs : List Value) (a : Act), vs.length = os.length → putFn os (fun i => (pre ++ vs).getD i undef) pre.length a = putAll os vs a
  | [], pre, vs, a, h => by cases vs <;> simp [putFn, putAll]
  | o :: os, pre, v :: vs, a, h => by
    have := putFn_eq os (pre ++ [v]) vs (a.put o.dst v) (by simpa using h)
    rw [putFn, putAll, ← this]
    simp
  | o :: os, pre, [], a, h => by simp at h

/-- Which operation made the variable that a store goes to. -/
def auxIdx (ops : Array Oper) (i : Nat) : Option Nat := (auxOf ops i).bind fun p => (List.range ops.size).find? fun j => dstOf ops j == some p
theorem wp_region_list {P : Program} {Q : Exit → Act → World → Prop} {Ext : World → World → Prop} {Rel : Value → World → World → Prop} {ops : Array Oper} (l : List (Value → Value → World → Prop)) {id n : Nat} {a0 : Act} {w0 : World} (hm : P.follows .mixedOrders = true) (hn : ops.size = n) (hA : dstsApart ops = true) (hI : dstsIn ops a0.tmps.size = true) (hE : edgesBack ops = true) (hX : auxKept ops = true) (hY : auxApart ops = true)
    (hrf : ∀ a, Ext a a) (htr : ∀ u a b c, Ext a b → Rel u b c → Ext a c) (hst : StabL Rel l)
    (hstep : allBelow n (RStep P Ext Rel ops Q (spOf l) a0 w0.drew))
    (hfin : ∀ (f : Nat → Value) w, Ext w0.drew w → (∀ i, i < n → ∃ u, spOf l i (f i) u w ∧ ∀ j, auxIdx ops i = some j → u = f j) → Q .normal (putFn ops.toList f 0 a0) w) : (Code.region id ops true).wp P Q a0 w0 := by
  subst hn
  refine wp_region_spec hm hA hI hE hrf htr hX hY (stab_of hst) hstep fun vs w hl hR hv => ?_
  have e := putFn_eq ops.toList [] vs a0 (by simpa using hl)
  simp only [List.nil_append, List.length_nil] at e
  have := hfin (fun i => vs.getD i undef) w hR fun i hi => by
    have hvi : vs[i]? = some (vs[i]'(by omega)) := List.getElem?_eq_getElem _
    have h1 := hv i _ hvi
    refine ⟨auxV ops i (putAll ops.toList vs a0), ?_, fun j hj => ?_⟩
    · simp only [List.getD_eq_getElem?_getD, hvi, Option.getD_some]
      exact h1.2
    · unfold auxIdx at hj
      cases ha : auxOf ops i with
      | none => rw [ha] at hj; cases hj
      | some p =>
        rw [ha] at hj
        have hj' := List.find?_some hj
        have hjm := List.mem_of_find?_eq_some hj
        have hjl := List.mem_range.1 hjm
        have hd : dstOf ops j = some p := by simpa using hj'
        have hvj : vs[j]? = some (vs[j]'(by omega)) := List.getElem?_eq_getElem _
        have h2 := (hv j _ hvj).1 p hd
        unfold auxV
        rw [ha]
        simp only [Array.getD_eq_getD_getElem?, h2, List.getD_eq_getElem?_getD, hvj, Option.getD_some]
  rw [e] at this
  exact this
theorem hvc {l : List (Value → Value → World → Prop)} {f : Nat → Value} {w : World} {ops : Array Oper} {i : Nat} (h : ∃ u, spOf l i (f i) u w ∧ ∀ j, auxIdx ops i = some j → u = f j) : ∃ u, spOf l i (f i) u w := by
  obtain ⟨u, h, _⟩ := h
  exact ⟨u, h⟩
theorem hvs {l : List (Value → Value → World → Prop)} {f : Nat → Value} {w : World} {ops : Array Oper} {i j : Nat} (h : ∃ u, spOf l i (f i) u w ∧ ∀ j, auxIdx ops i = some j → u = f j) (hj : auxIdx ops i = some j) : spOf l i (f i) (f j) w := by
  obtain ⟨u, h, hu⟩ := h
  rw [← hu j hj]
  exact h
theorem aux_eq {ops : Array Oper} {i p : Nat} {a : Act} {v : Value} (haux : auxOf ops i = some p) (E : a.eval (.tmp p) = v) : auxV ops i a = v := by
  unfold auxV
  rw [haux]
  exact E

end Go.Proofs.YtbhgbilhoonopaaGreat
