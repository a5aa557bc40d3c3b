/- Marks, records, results. -/
import Derived.Test.YtgglmmipdfcbpaaDoorEvK2
import Derived.LoopNIn
import Derived.RangeFuncLeaves
import Derived.RangeFuncNested
namespace Go.Ev
variable {E : Env} {β β' : Bond} {s s' : AS} {w w' : World} {P : Program}

/-- The deferred calls of an activation: marks only. -/
def DR (β : Bond) (d : List Nat) (l : List Deferred) : Prop := All2 (fun i (D : Deferred) => ∃ c sh g, β i = some (c, sh, g) ∧ D = { target := .collected c, args := #[] }) d l
theorem DR.ext (he : Ext β β') {d : List Nat} {l : List Deferred} (h : DR β d l) : DR β' d l :=
  h.imp fun _ _ ⟨c, sh, g, e, x⟩ => ⟨c, sh, g, he _ _ e, x⟩
/-- The record of the loop in whose round the code stands. -/
def RR (β : Bond) : Option Nat → Option Nat → Prop
  | none, none => True
  | some l, some c => ∃ sh g, β l = some (c, sh, g)
  | _, _ => False
theorem RR.ext (he : Ext β β') : ∀ {r r' : Option Nat}, RR β r r' → RR β' r r'
  | none, none, _ => trivial
  | some _, some _, ⟨sh, g, e⟩ => ⟨sh, g, he _ _ e⟩
  | none, some _, h => h.elim
  | some _, none, h => h.elim
def exitOf : AExit → Exit
  | .normal => .normal
  | .exit id => .exit id
  | .ret => .ret
/-- What is to be shown behind code. -/
def Behind (E : Env) (β : Bond) (s : AS) (w : World) (nt : Nat) (r : AExit × Fr × List Nat × AS) (Q : Exit → Act → World → Prop) : Prop :=
  ∀ a' w' β', Post E β s w β' r.2.2.2 w' → TR β' nt r.2.1 a'.tmps → DR β' r.2.2.1 a'.defers → Q (exitOf r.1) a' w'

theorem Sim.lone (h : Sim E β s w) {i c sh : Nat} {g : Gr} (hi : β i = some (c, sh, g)) (ha : alive (s.heap.get i) = true) (hf : famOf (s.heap.get i) = none) :
    ∀ j sh' g', j ≠ i → β j = some (c, sh', g') → alive (s.heap.get j) = false := by
  intro j sh' g' hj e
  refine Bool.eq_false_iff.2 fun hja => ?_
  obtain ⟨f, ri, ni, rj, nj, h1, _⟩ := h.inj i j c sh g sh' g' hi e (Ne.symm hj) ha hja
  rw [hf] at h1; cases h1

/-- A record of a range over a function is written. -/
theorem loop_wrote (h : Sim E β s w) {l c sh : Nat} {g : Gr} (hl : β l = some (c, sh, g)) {t : Fr} {nt : Nat} {ps : List Tmp} {as bd : Code} {st : LoopState} {pend : Option Code} {dd : Nat}
    (hb : s.heap.get l = some (.loop t nt ps as bd st pend dd)) : ∃ L : Loop, w.heap[c]? = some (.loop L) ∧ TR β nt t L.tmps ∧ L.params.toList = ps ∧ L.assign = as ∧ L.body = bd ∧ L.state = st ∧ L.pending = pend ∧
      (∃ c' sh' g', β dd = some (c', sh', g') ∧ L.defers = c') ∧
      ∀ st' pend', Post E β s w β (s.put l (.loop t nt ps as bd st' pend' dd)) (w.putObj c (.loop { L with state := st', pending := pend' })) := by
  obtain ⟨o, ho, br⟩ := h.blk l c sh g _ hl hb
  cases br with
  | loop ht hp ha hbd hs hq hd hdd hf =>
    rename_i L c' sh' g'
    exact ⟨L, ho, ht, hp, ha, hbd, hs, hq, ⟨_, _, _, hd, hdd⟩, fun st' pend' =>
      Post.wrote h hl (.loop ht hp ha hbd rfl rfl hd hdd hf) (h.lone hl (by rw [hb]; rfl) (by rw [hb]; rfl)) (by rw [hb]; rfl) (fun ids e => by rw [hb] at e; cases e)⟩

theorem loop_fine (h : Sim E β s w) {l c sh : Nat} {g : Gr} (hl : β l = some (c, sh, g)) {t : Fr} {nt : Nat} {ps : List Tmp} {as bd : Code} {st : LoopState} {pend : Option Code} {dd : Nat}
    (hb : s.heap.get l = some (.loop t nt ps as bd st pend dd)) : fine as = true ∧ fine bd = true := by
  obtain ⟨o, ho, br⟩ := h.blk l c sh g _ hl hb
  cases br with
  | loop _ _ _ _ _ _ _ _ hf => exact hf

/-- The marks of an activation are taken. -/
theorem takeAll_sim {n : Nat} {F : Fence} {fn : Func} {tmps : Array Value} {R : Ending → World → Prop} : ∀ (d : List Nat) {l : List Deferred} {s s' : AS} {w : World}, DR β d l → Sim E β s w → takeAll d s = some s' →
    (∀ w', Post E β s w β s' w' → LeavesIn F n P fn tmps R [] .returning w') → LeavesInM F n P fn tmps R l .returning w := by
  intro d
  induction d with
  | nil =>
    intro l s s' w hd h hr hR
    cases hd
    cases hr
    exact hR w (.refl h)
  | cons r d ih =>
    intro l s s' w hd h hr hR
    cases hd with
    | cons hx hd =>
      obtain ⟨c, sh, g, hb, rfl⟩ := hx
      unfold takeAll at hr
      split at hr
      · rename_i hg
        obtain ⟨o, ho, br⟩ := h.blk r c sh g _ hb hg
        cases br
        have p := Post.wrote h hb (.dead (.deferred none)) (h.lone hb (by rw [hg]; rfl) (by rw [hg]; rfl)) (by rw [hg]; rfl) (fun ids e => by rw [hg] at e; cases e)
        refine ⟨by simp, .inl ⟨c, _, rfl, run_takeDeferred ho, ?_⟩⟩
        exact ih hd p.sim hr fun w' p' => hR w' (p.trans p' (.put _ _ _) (takeAll_kept d hr))
      · cases hr

/-! results -/
theorem resultsOf_sim (hE : EnvOK E P) {nt : Nat} {t : Fr} {tmps : Array Value} (h : Sim E β s w) (ht : TR β nt t tmps) : ∀ (l : List ResultVar) {vs : List Value}, resultsOf E s t l = some vs →
    ∃ vs', (l.mapM fun x => (match x with
        | .tmp t => pure (tmps.getD t undef)
        | .cell a t => do Go.loadVar t (← asAddr (tmps.getD a undef)) : Sem Value)).run P w = .ok vs' w ∧ All2 (VR β) vs vs' := by
  intro l
  induction l with
  | nil => intro vs hr; cases hr; exact ⟨[], rfl, .nil⟩
  | cons r l ih =>
    intro vs hr
    obtain ⟨v, h1, hr⟩ := obind_some (show obind (resultOf E s t r) _ = some vs from hr)
    obtain ⟨vs1, h2, hr⟩ := obind_some hr
    cases hr
    obtain ⟨vs', h3, h4⟩ := ih h2
    have hone : ∃ v', ((match r with
        | .tmp t => pure (tmps.getD t undef)
        | .cell a t => do Go.loadVar t (← asAddr (tmps.getD a undef)) : Sem Value)).run P w = .ok v' w ∧ VR β v v' := by
      cases r with
      | tmp i =>
        obtain ⟨v', e, r⟩ := ht.get i v h1
        refine ⟨v', ?_, r⟩
        show (pure (tmps.getD i undef) : Sem Value).run P w = _
        rw [Array.getD_eq_getD_getElem?, e]; rfl
      | cell a ty =>
        obtain ⟨u, e, h5⟩ := obind_some (show obind (t.get a) _ = some v from h1)
        obtain ⟨v', e', hv⟩ := ht.get a u e
        cases u with
        | pointer q =>
          cases q with
          | none => cases h5
          | some ad =>
            obtain ⟨a', x, rfl, h6, h7⟩ := loadVar_sim hE h hv (show loadVar E s ty ad = some v from h5)
            refine ⟨x, ?_, h7⟩
            show (do Go.loadVar ty (← asAddr (tmps.getD a undef)) : Sem Value).run P w = _
            rw [Array.getD_eq_getD_getElem?, e', Sem.run_bind]
            exact h6
        | _ => cases h5
    obtain ⟨v', h5, h6⟩ := hone
    refine ⟨v' :: vs', ?_, .cons h6 h4⟩
    rw [List.mapM_cons, Sem.run_bind, h5, Result.andThen_ok, Sem.run_bind, h3, Result.andThen_ok]
    rfl
theorem oneOf_sim {vs vs' : List Value} (h : All2 (VR β) vs vs') : VR β (oneOf vs) (if h : vs'.toArray.size = 1 then vs'.toArray[0] else .tuple vs'.toArray) := by
  cases h with
  | nil => exact .tupleL .nil
  | cons h1 h2 =>
    cases h2 with
    | nil => exact h1
    | cons h2 h3 =>
      rw [dif_neg (by simp)]
      exact .tupleL (.cons h1 (.cons h2 h3))
theorem results_sim (hE : EnvOK E P) {nt : Nat} {t : Fr} {tmps : Array Value} {fn : Func} (h : Sim E β s w) (ht : TR β nt t tmps) {vs : List Value} (hr : resultsOf E s t fn.results.toList = some vs) :
    ∃ v', (results fn tmps).run P w = .ok v' w ∧ VR β (oneOf vs) v' := by
  obtain ⟨vs', h1, h2⟩ := resultsOf_sim hE h ht _ hr
  refine ⟨_, ?_, oneOf_sim h2⟩
  unfold results
  rw [Sem.run_bind, Array.mapM_eq_mapM_toList, Sem.run_map]
  erw [h1]
  rfl
end Go.Ev
