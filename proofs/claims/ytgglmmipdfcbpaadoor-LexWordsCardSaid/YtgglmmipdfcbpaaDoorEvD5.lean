/- Regions that draw their order: what the memories of the text's order are worth in another one. -/
import Derived.Test.YtgglmmipdfcbpaaDoorEvD4
namespace Go.Ev
variable {E : Env} {P : Program} {H : Hand} {nt : Nat} {ops : Array Oper} {A : Nat → Pt} {B : Nat → Dt}

/-- The first free number ahead of a step. -/
def nx (A : Nat → Pt) (k : Nat) : Nat := (A k).S.next
def heapAt (A : Nat → Pt) (k id : Nat) : Option Blk := (A k).S.heap.get id
theorem lt_get {k : Nat} (hk : k < ops.size) : ∃ o, ops[k]? = some o := ⟨_, Array.getElem?_eq_getElem hk⟩
theorem get_lt {k : Nat} {o : Oper} (h : ops[k]? = some o) : k < ops.size := (Array.getElem?_eq_some_iff.1 h).1
theorem Told.grow (hT : Told E H nt ops A B) (hH : HandKept H) {k : Nat} (hk : k < ops.size) :
    nx A k ≤ nx A (k + 1) ∧ ∀ id, id < nx A k → id ∉ (B k).W → heapAt A (k + 1) id = heapAt A k id := by
  obtain ⟨o, ho⟩ := lt_get hk
  obtain ⟨b, _, _, h | h⟩ := hT.step k o ho
  · obtain ⟨_, s1, h2, h3, _, _, h6⟩ := h
    have hk := aop_kept hH h2
    unfold nx heapAt
    rw [h6]
    exact ⟨hk.next, fun id hi hw => hk.keep id hi hi (h3 ▸ hw)⟩
  · obtain ⟨_, _, _, _, _, h6⟩ := h
    unfold nx heapAt
    rw [h6]
    exact ⟨Nat.le_refl _, fun _ _ _ => rfl⟩
theorem Told.still (hT : Told E H nt ops A B) {k : Nat} (hk : k < ops.size) (hf : (B k).ft ≠ .any) : nx A (k + 1) = nx A k ∧ ∀ id, heapAt A (k + 1) id = heapAt A k id := by
  obtain ⟨o, ho⟩ := lt_get hk
  obtain ⟨b, _, _, h | h⟩ := hT.step k o ho
  · obtain ⟨_, s1, h2, h3, h4, _, h6⟩ := h
    have h7 := (aop_foot (s2 := (A k).S.anew) (h4 ▸ hf) (fun _ _ => rfl) h2).1
    dsimp only at h7
    unfold nx heapAt
    rw [h6, h7]
    exact ⟨rfl, fun _ => rfl⟩
  · obtain ⟨_, _, _, _, _, h6⟩ := h
    unfold nx heapAt
    rw [h6]
    exact ⟨rfl, fun _ => rfl⟩
theorem Told.mono (hT : Told E H nt ops A B) (hH : HandKept H) {j k : Nat} (hj : j ≤ k) (hk : k ≤ ops.size) : nx A j ≤ nx A k := by
  induction k with
  | zero => rw [show j = 0 from by omega]; exact Nat.le_refl _
  | succ k ih =>
    by_cases e : j = k + 1
    · rw [e]; exact Nat.le_refl _
    · exact Nat.le_trans (ih (by omega) (by omega)) (hT.grow hH (by omega)).1
theorem Told.stay (hT : Told E H nt ops A B) (hH : HandKept H) {a b id : Nat} (hab : a ≤ b) (hb : b ≤ ops.size) (h : ∀ k, a ≤ k → k < b → id < nx A k ∧ id ∉ (B k).W) : heapAt A b id = heapAt A a id := by
  induction b with
  | zero => rw [show a = 0 from by omega]
  | succ b ih =>
    by_cases e : a = b + 1
    · rw [e]
    · have h1 := h b (by omega) (by omega)
      rw [(hT.grow hH (by omega)).2 id h1.1 h1.2]
      exact ih (by omega) (by omega) fun k h1 h2 => h k h1 (by omega)
/-- What a step leaves in its slot. -/
def outcome (v : Option Value) : Value := Option.casesOn (motive := fun _ => Value) v (.tuple #[]) fun v => v
theorem Told.slot (hT : Told E H nt ops A B) {k : Nat} {o : Oper} (ho : ops[k]? = some o) (d : Nat) :
    (A (k + 1)).T.get d = (if o.dst = some d then some (outcome (B k).v) else (A k).T.get d) ∧ (o.dst = some d → d < nt) := by
  obtain ⟨b, _, h, _⟩ := hT.step k o ho
  cases hd : o.dst with
  | none =>
    rw [hd] at h
    have h : some (A k).T = some (A (k + 1)).T := h
    rw [← Option.some.inj h]
    exact ⟨by rw [if_neg (by simp)], fun e => by cases e⟩
  | some d' =>
    rw [hd] at h
    obtain ⟨h1, h2⟩ := only_some h
    rw [← Option.some.inj h2, Tr.get_set]
    constructor
    · by_cases e : d' = d
      · rw [if_pos e, if_pos (by rw [e])]; rfl
      · rw [if_neg e, if_neg (fun h => e (by cases h; rfl))]
    · intro e; cases e; exact le_of_ble h1
theorem Told.stayT (hT : Told E H nt ops A B) {a b d : Nat} (hab : a ≤ b) (hb : b ≤ ops.size) (h : ∀ k o, a ≤ k → k < b → ops[k]? = some o → o.dst ≠ some d) : (A b).T.get d = (A a).T.get d := by
  induction b with
  | zero => rw [show a = 0 from by omega]
  | succ b ih =>
    by_cases e : a = b + 1
    · rw [e]
    · obtain ⟨o, ho⟩ := lt_get (ops := ops) (k := b) (by omega)
      rw [(hT.slot ho d).1, if_neg (h b o (by omega) (by omega) ho)]
      exact ih (by omega) (by omega) fun k o h1 h2 => h k o h1 (by omega)

/-! What is in a block, a slot when these have been done. -/
def wrote (A : Nat → Pt) (B : Nat → Dt) (D : Nat → Bool) (id k : Nat) : Bool := (D k && has (B k).W id) || Nat.ble (nx A k) id
def lw (ops : Array Oper) (A : Nat → Pt) (B : Nat → Dt) (D : Nat → Bool) (id : Nat) : Nat := lst (wrote A B D id) ops.size
def V (ops : Array Oper) (A : Nat → Pt) (B : Nat → Dt) (D : Nat → Bool) (id : Nat) : Option Blk := heapAt A (lw ops A B D id) id
def X (ops : Array Oper) (A : Nat → Pt) (B : Nat → Dt) (D : Nat → Bool) : AS := ⟨mkT (V ops A B D) (nx A ops.size), nx A ops.size, nx A ops.size, []⟩
def slotBy (ops : Array Oper) (D : Nat → Bool) (d k : Nat) : Bool := D k && (match ops[k]? with | some o => o.dst == some d | none => false)
def ls (ops : Array Oper) (D : Nat → Bool) (d : Nat) : Nat := lst (slotBy ops D d) ops.size
def U (ops : Array Oper) (A : Nat → Pt) (D : Nat → Bool) (d : Nat) : Option Value := (A (ls ops D d)).T.get d

theorem wrote_false {D : Nat → Bool} {id k : Nat} : wrote A B D id k = false ↔ (D k = true → id ∉ (B k).W) ∧ id < nx A k := by
  unfold wrote
  rw [Bool.or_eq_false_iff]
  constructor
  · rintro ⟨h1, h2⟩
    refine ⟨fun hd hw => ?_, ?_⟩
    · rw [hd, has_iff.2 hw] at h1; cases h1
    · apply Classical.byContradiction
      intro h
      rw [Nat.ble_eq_true_of_le (show nx A k ≤ id from by omega)] at h2
      cases h2
  · rintro ⟨h1, h2⟩
    refine ⟨?_, ?_⟩
    · cases hd : D k with
      | false => rfl
      | true => exact Bool.eq_false_iff.2 fun e => h1 hd (has_iff.1 (by simpa using e))
    · exact Bool.eq_false_iff.2 fun e => by have := Nat.le_of_ble_eq_true e; omega
theorem slotBy_false {D : Nat → Bool} {d k : Nat} {o : Oper} (ho : ops[k]? = some o) : slotBy ops D d k = false ↔ (D k = true → o.dst ≠ some d) := by
  unfold slotBy
  rw [ho]
  cases hd : D k with
  | false => simp
  | true => simp
theorem Told.V_eq (hT : Told E H nt ops A B) (hH : HandKept H) {D : Nat → Bool} {i id : Nat} (hi : i ≤ ops.size) (hid : id < nx A i) (h1 : ∀ k, k < i → id ∈ (B k).W → D k = true)
    (h2 : ∀ k, i ≤ k → k < ops.size → D k = true → id ∉ (B k).W) : lw ops A B D id ≤ i ∧ V ops A B D id = heapAt A i id := by
  have hle : lw ops A B D id ≤ i := lst_up hi fun k hk hs => wrote_false.2 ⟨fun hd => h2 k hk hs hd, Nat.lt_of_lt_of_le hid (hT.mono hH hk (by omega))⟩
  refine ⟨hle, (hT.stay hH hle hi fun k hk hki => ?_).symm⟩
  have := wrote_false.1 (lst_not (f := wrote A B D id) hk (by omega : k < ops.size))
  exact ⟨this.2, fun hw => this.1 (h1 k hki hw) hw⟩
theorem Told.U_eq (hT : Told E H nt ops A B) {D : Nat → Bool} {i d : Nat} (hi : i ≤ ops.size) (h1 : ∀ k o, k < i → ops[k]? = some o → o.dst = some d → D k = true)
    (h2 : ∀ k o, i ≤ k → ops[k]? = some o → D k = true → o.dst ≠ some d) : ls ops D d ≤ i ∧ U ops A D d = (A i).T.get d := by
  have hle : ls ops D d ≤ i := lst_up hi fun k hk hs => by
    obtain ⟨o, ho⟩ := lt_get hs
    exact (slotBy_false ho).2 (h2 k o hk ho)
  refine ⟨hle, (hT.stayT hle hi fun k o hk hki ho hd => ?_).symm⟩
  have := (slotBy_false ho).1 (lst_not (f := slotBy ops D d) hk (by omega : k < ops.size))
  exact this (h1 k o hki ho hd) hd

/-- An operation that may come up. -/
structure Rdy (ops : Array Oper) (B : Nat → Dt) (D : Nat → Bool) (i : Nat) (o : Oper) : Prop where
  get : ops[i]? = some o
  new : D i = false
  ahead : ∀ k, k < i → Clash (B k) (B i) → D k = true
  behind : ∀ k, i < k → k < ops.size → D k = true → ¬ Clash (B i) (B k)
  aheadT : ∀ k o' d, k < i → ops[k]? = some o' → o'.dst = some d → Names ops o d → D k = true
  behindT : ∀ k o' d, i < k → ops[k]? = some o' → D k = true → Names ops o d → o'.dst ≠ some d
theorem Told.rdy (hT : Told E H nt ops A B) (ht : tidy ops = true) {listed : Array Bool} (hc : Closed ops fun i => listed.getD i false = true) {i : Nat} (hi : i ∈ Region.ready .any ops listed) :
    ∃ o, Rdy ops B (fun k => listed.getD k false) i o := by
  obtain ⟨h0, o, ho, h1⟩ := mem_ready.1 hi
  have hnew : listed.getD i false = false := by
    rw [Array.getD_eq_getD_getElem?] at h0 ⊢
    cases h : listed[i]? with
    | none => rfl
    | some b => rw [h] at h0; simpa using h0
  have hno : ∀ k, listed.getD k false = true → ((Region.before ops).getD k 0).testBit i = true → False := fun k hk hb => by
    have := hc.bits k hk hb
    rw [hnew] at this; cases this
  refine ⟨o, ho, hnew, fun k hk hcl => ready_bits hc hi (hT.order k i hk (get_lt ho) hcl), fun k hk hs hd hcl => hno k hd (hT.order i k hk hs hcl), fun k o' d hk ho' hd hn => ?_, fun k o' d hk ho' hd hn hd' => ?_⟩
  · have := tidy_spec ht ho' ho hd hn (by omega)
    rw [Nat.max_eq_right (by omega), Nat.min_eq_left (by omega)] at this
    exact ready_bits hc hi this
  · have := tidy_spec ht ho' ho hd' hn (by omega)
    rw [Nat.max_eq_left (by omega), Nat.min_eq_right (by omega)] at this
    exact hno k hd this

/-! What holds when these have been done. -/
structure Inv (E : Env) (nt : Nat) (ops : Array Oper) (A : Nat → Pt) (B : Nat → Dt) (β0 : Bond) (w0 : World) (D : Nat → Bool) (β : Bond) (w : World) (a : Act) : Prop where
  ext : Ext β0 β
  sim : Sim E β (X ops A B D) w
  inB : ∀ id x b, β id = some x → V ops A B D id = some b → InB E (cut β (nx A (lw ops A B D id))) b
  made : ∀ id x, β id = some x → β0 id = none → ∃ k, D k = true ∧ k < ops.size ∧ nx A k ≤ id ∧ id < nx A (k + 1)
  size : a.tmps.size = nt
  slots : ∀ d v, U ops A D d = some v → ∃ v', a.tmps[d]? = some v' ∧ VR (cut β (nx A (ls ops D d))) v v'
  share : ∀ i j c sh g sh' g' k, β i = some (c, sh, g) → β j = some (c, sh', g') → k < ops.size → i < nx A k → nx A k ≤ j → j < nx A (k + 1) → (B k).W ≠ []
  grow : w0.heap.size ≤ w.heap.size
  frame : ∀ c, c < w0.heap.size → (∀ i x, β0 i = some x → x.1 ≠ c) → w.heap[c]? = w0.heap[c]?
  fresh : ∀ i c sh g, β i = some (c, sh, g) → β0 i = none → w0.heap.size ≤ c ∨ ∃ b sh' g', β0 b = some (c, sh', g') ∧ (b < (A 0).S.mark → ∃ f ∈ (A ops.size).S.wr, f ≤ b)
  same : Same w0 w

theorem VR.outcome {β : Bond} {v : Option Value} {v' : Value} (hv : ∀ u, v = some u → VR β u v') (hn : v = none → v' = undef) : VR β (outcome v) v' := by
  cases v with
  | none => rw [hn rfl]; exact .tuple rfl (fun i v v' h => by simp at h)
  | some u => exact hv u rfl
section slots
variable {D D' : Nat → Bool} {β β' : Bond} {a : Act} {i : Nat} {o : Oper} {v' : Value}
theorem Told.slots_step (hT : Told E H nt ops A B) (hr : Rdy ops B D i o) (hD : ∀ k, D' k = (k == i || D k)) (hs : a.tmps.size = nt)
    (h : ∀ d v, U ops A D d = some v → ∃ v', a.tmps[d]? = some v' ∧ VR (cut β (nx A (ls ops D d))) v v') (he : Ext β β')
    (hv : VR (cut β' (nx A (i + 1))) (outcome (B i).v) v') :
    (a.put o.dst v').tmps.size = nt ∧ ∀ d v, U ops A D' d = some v → ∃ v'', (a.put o.dst v').tmps[d]? = some v'' ∧ VR (cut β' (nx A (ls ops D' d))) v v'' := by
  have hi := get_lt hr.get
  constructor
  · cases o.dst with
    | none => exact hs
    | some d => show (a.tmps.setIfInBounds d v').size = nt; simpa using hs
  · intro d v hu
    by_cases hd : o.dst = some d
    · have hls : ls ops D' d = i + 1 := by
        refine Nat.le_antisymm (lst_up (by omega) fun k hk hks => ?_) (lst_lt ?_ hi)
        · obtain ⟨o', ho'⟩ := lt_get hks
          refine (slotBy_false ho').2 fun hd' => hr.behindT k o' d (by omega) ho' ?_ (.inl hd)
          rw [hD] at hd'
          have : (k == i) = false := by simp; omega
          simpa [this] using hd'
        · unfold slotBy
          rw [hr.get, hD]
          simp [hd]
      have hsl := hT.slot hr.get d
      rw [if_pos hd] at hsl
      unfold U at hu
      rw [hls, hsl.1] at hu
      cases hu
      rw [hls, hd]
      exact ⟨v', by show (a.tmps.setIfInBounds d v')[d]? = _; rw [Array.getElem?_setIfInBounds_self_of_lt (by rw [hs]; exact hsl.2 hd)], hv⟩
    · have hls : ls ops D' d = ls ops D d := lst_congr fun k hk => by
        obtain ⟨o', ho'⟩ := lt_get hk
        unfold slotBy
        rw [ho', hD]
        by_cases e : k = i
        · subst e
          have := hr.get
          rw [ho'] at this
          cases this
          have hdd : (o.dst == some d) = false := by simpa using hd
          simp [hdd]
        · have : (k == i) = false := by simpa using e
          rw [this, Bool.false_or]
      unfold U at hu
      rw [hls] at hu
      obtain ⟨v'', h1, h2⟩ := h d v hu
      rw [hls]
      refine ⟨v'', ?_, h2.ext he.cut⟩
      cases hdo : o.dst with
      | none => exact h1
      | some d' =>
        show (a.tmps.setIfInBounds d' v')[d]? = _
        rw [Array.getElem?_setIfInBounds_ne (fun e => hd (by rw [hdo, e]))]
        exact h1
end slots
end Go.Ev
