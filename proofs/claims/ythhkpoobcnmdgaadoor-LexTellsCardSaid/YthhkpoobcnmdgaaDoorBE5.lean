import Derived.LoopNIn
import Derived.RangeFuncLeaves
import Derived.RangeFuncNested
import Derived.Test.YthhkpoobcnmdgaaDoorBE4
/- Marks, records, results. -/
namespace Go.Ev
variable {E : Env} {β β' : Bond} {s s' : AS} {w w' : World} {P : Program}

/-- The deferred calls of an activation: marks only. -/
def DR (β : Bond) (d : List Nat) (l : List Deferred) : Prop := All2 (fun i (D : Deferred) => ∃ c sh g, β i = some (c, sh, g) ∧ D = { target := .collected c, args := #[] }) d l
theorem DR.ext (he : Ext β β') {d : List Nat} {l : List Deferred} (h : DR β d l) : DR β' d l :=
  h.imp fun _ _ ⟨c, sh, g, e, x⟩ => ⟨c, sh, g, he _ _ e, x⟩
/-- The record of the loop in whose round the code stands. -/
def RR (β : Bond) : Option Nat → Option Nat → Prop
  | none, none => True
  | some l, some c => ∃ sh g, β l = some (c, sh, g)
  | _, _ => False
theorem RR.ext (he : Ext β β') : ∀ {r r' : Option Nat}, RR β r r' → RR β' r r'
  | none, none, _ => trivial
  | some _, some _, ⟨sh, g, e⟩ => ⟨sh, g, he _ _ e⟩
  | none, some _, h => h.elim
  | some _, none, h => h.elim
def exitOf : AExit → Exit
  | .normal => .normal
  | .exit id => .exit id
  | .ret => .ret
/-- What is to be shown behind code. -/
def Behind (E : Env) (β : Bond) (s : AS) (w : World) (nt : Nat) (r : AExit × Fr × List Nat × AS) (Q : Exit → Act → World → Prop) : Prop :=
  ∀ a' w' β', Post E β s w β' r.2.2.2 w' → TR β' nt r.2.1 a'.tmps → DR β' r.2.2.1 a'.defers → Q (exitOf r.1) a' w'

theorem Sim.lone (h : Sim E β s w) {i c sh : Nat} {g : Gr} (hi : β i = some (c, sh, g)) (ha : alive (s.heap.get i) = true) (hf : famOf (s.heap.get i) = none) :
    ∀ j sh' g', j ≠ i → β j = some (c, sh', g') → alive (s.heap.get j) = false := by
  intro j sh' g' hj e
  refine Bool.eq_false_iff.2 fun hja => ?_
  obtain ⟨f, ri, ni, rj, nj, h1, _⟩ := h.inj i j c sh g sh' g' hi e (Ne.symm hj) ha hja
  rw [hf] at h1; cases h1

/-- A record of a range over a function is written. -/
theorem loop_wrote (h : Sim E β s w) {l c sh : Nat} {g : Gr} (hl : β l = some (c, sh, g)) {t : Fr} {nt : Nat} {ps : List Tmp} {as bd : Code} {st : LoopState} {pend : Option Code} {dd : Nat}
    (hb : s.heap.get l = some (.loop t nt ps as bd st pend dd)) : ∃ L : Loop, w.heap[c]? = some (.loop L) ∧ TR β nt t L.tmps ∧ L.params.toList = ps ∧ L.assign = as ∧ L.body = bd ∧ L.state = st ∧ L.pending = pend ∧
      (∃ c' sh' g', β dd = some (c', sh', g') ∧ L.defers = c') ∧
      ∀ st' pend', Post E β s w β (s.put l (.loop t nt ps as bd st' pend' dd)) (w.putObj c (.loop { L with state := st', pending := pend' })) := by
  obtain ⟨o, ho, br⟩ := h.blk l c sh g _ hl hb
  cases br with
  | loop ht hp ha hbd hs hq hd hdd hf =>
    rename_i L c' sh' g'
    exact ⟨L, ho, ht, hp, ha, hbd, hs, hq, ⟨_, _, _, hd, hdd⟩, fun st' pend' =>
      Post.wrote h hl (.loop ht hp ha hbd rfl rfl hd hdd hf) (h.lone hl (by rw [hb]; rfl) (by rw [hb]; rfl)) (by rw [hb]; rfl) (fun ids e => by rw [hb] at e; cases e)⟩

theorem loop_fine (h : Sim E β s w) {l c sh : Nat} {g : Gr} (hl : β l = some (c, sh, g)) {t : Fr} {nt : Nat} {ps : List Tmp} {as bd : Code} {st : LoopState} {pend : Option Code} {dd : Nat}
    (hb : s.heap.get l = some (.loop t nt ps as bd st pend dd)) : fine as = true ∧ fine bd = true := by
  obtain ⟨o, ho, br⟩ := h.blk l c sh g _ hl hb
  cases br with
  | loop _ _ _ _ _ _ _ _ hf => exact hf

/-- The marks of an activation are taken. -/
theorem takeAll_sim {n : Nat} {F : Fence} {fn : Func} {tmps : Array Value} {R : Ending → World → Prop} : ∀ (d : List Nat) {l : List Deferred} {s s' : AS} {w : World}, DR β d l → Sim E β s w → takeAll d s = some s' →
    (∀ w', Post E β s w β s' w' → LeavesIn F n P fn tmps R [] .returning w') → LeavesInM F n P fn tmps R l .returning w := by
  intro d
  induction d with
  | nil =>
    intro l s s' w hd h hr hR
    cases hd
    cases hr
    exact hR w (.refl h)
  | cons r d ih =>
    intro l s s' w hd h hr hR
    cases hd with
    | cons hx hd =>
      obtain ⟨c, sh, g, hb, rfl⟩ := hx
      unfold takeAll at hr
      split at hr
      · rename_i hg
        obtain ⟨o, ho, br⟩ := h.blk r c sh g _ hb hg
        cases br
        have p := Post.wrote h hb (.dead (.deferred none)) (h.lone hb (by rw [hg]; rfl) (by rw [hg]; rfl)) (by rw [hg]; rfl) (fun ids e => by rw [hg] at e; cases e)
        refine ⟨by simp, .inl ⟨c, _, rfl, run_takeDeferred ho, ?_⟩⟩
        exact ih hd p.sim hr fun w' p' => hR w' (p.trans p' (.put _ _ _) (takeAll_kept d hr))
      · cases hr

/-! results -/
theorem resultsOf_sim (hE : EnvOK E P) {nt : Nat} {t : Fr} {tmps : Array Value} (h : Sim E β s w) (ht : TR β nt t tmps) : ∀ (l : List ResultVar) {vs : List Value}, resultsOf E s t l = some vs →
    ∃ vs', (l.mapM fun x => (match x with
        | .tmp t => pure (tmps.getD t undef)
        | .cell a t => do Go.loadVar t (← asAddr (tmps.getD a undef)) : Sem Value)).run P w = .ok vs' w ∧ All2 (VR β) vs vs' := by
  intro l
  induction l with
  | nil => intro vs hr; cases hr; exact ⟨[], rfl, .nil⟩
  | cons r l ih =>
    intro vs hr
    obtain ⟨v, h1, hr⟩ := obind_some (show obind (resultOf E s t r) _ = some vs from hr)
    obtain ⟨vs1, h2, hr⟩ := obind_some hr
    cases hr
    obtain ⟨vs', h3, h4⟩ := ih h2
    have hone : ∃ v', ((match r with
        | .tmp t => pure (tmps.getD t undef)
        | .cell a t => do Go.loadVar t (← asAddr (tmps.getD a undef)) : Sem Value)).run P w = .ok v' w ∧ VR β v v' := by
      cases r with
      | tmp i =>
        obtain ⟨v', e, r⟩ := ht.get i v h1
        refine ⟨v', ?_, r⟩
        show (pure (tmps.getD i undef) : Sem Value).run P w = _
        rw [Array.getD_eq_getD_getElem?, e]; rfl
      | cell a ty =>
        obtain ⟨u, e, h5⟩ := obind_some (show obind (t.get a) _ = some v from h1)
        obtain ⟨v', e', hv⟩ := ht.get a u e
        cases u with
        | pointer q =>
          cases q with
          | none => cases h5
          | some ad =>
            obtain ⟨a', x, rfl, h6, h7⟩ := loadVar_sim hE h hv (show loadVar E s ty ad = some v from h5)
            refine ⟨x, ?_, h7⟩
            show (do Go.loadVar ty (← asAddr (tmps.getD a undef)) : Sem Value).run P w = _
            rw [Array.getD_eq_getD_getElem?, e', Sem.run_bind]
            exact h6
        | _ => cases h5
    obtain ⟨v', h5, h6⟩ := hone
    refine ⟨v' :: vs', ?_, .cons h6 h4⟩
    rw [List.mapM_cons, Sem.run_bind, h5, Result.andThen_ok, Sem.run_bind, h3, Result.andThen_ok]
    rfl
theorem oneOf_sim {vs vs' : List Value} (h : All2 (VR β) vs vs') : VR β (oneOf vs) (if h : vs'.toArray.size = 1 then vs'.toArray[0] else .tuple vs'.toArray) := by
  cases h with
  | nil => exact .tupleL .nil
  | cons h1 h2 =>
    cases h2 with
    | nil => exact h1
    | cons h2 h3 =>
      rw [dif_neg (by simp)]
      exact .tupleL (.cons h1 (.cons h2 h3))
theorem results_sim (hE : EnvOK E P) {nt : Nat} {t : Fr} {tmps : Array Value} {fn : Func} (h : Sim E β s w) (ht : TR β nt t tmps) {vs : List Value} (hr : resultsOf E s t fn.results.toList = some vs) :
    ∃ v', (results fn tmps).run P w = .ok v' w ∧ VR β (oneOf vs) v' := by
  obtain ⟨vs', h1, h2⟩ := resultsOf_sim hE h ht _ hr
  refine ⟨_, ?_, oneOf_sim h2⟩
  unfold results
  rw [Sem.run_bind, Array.mapM_eq_mapM_toList, Sem.run_map]
  erw [h1]
  rfl
end Go.Ev
/- Code, but for regions that draw their order (they are asked for). -/
namespace Go.Ev
variable {E : Env} {β β' : Bond} {s s' : AS} {w w' : World} {P : Program}

/-- A region that draws its order. -/
def DrawOK (E : Env) (P : Program) (H : Hand) : Prop := ∀ (rnd' : Option Nat) (n nt id : Nat) (ops : Array Oper) (β : Bond) (s : AS) (w : World) (t : Fr) (a : Act) (r : Fr × AS) (Q : Exit → Act → World → Prop),
  tidy ops = true → Sim E β s w → TR β nt t a.tmps → aopsD E H nt ops ops.toList (Region.before ops).toList 0 ⟨[], [], []⟩ t s = some r →
  (∀ a' w' β', a'.defers = a.defers → Post E β s w β' r.2 w' → TR β' nt r.1 a'.tmps → Q .normal a' w') → (Code.region id ops true).wpIn (Fw rnd') n P Q a w

theorem invokeF_sim {H : Hand} (hH : HandOK E P H) (h : Sim E β s w) {fv fv' : Value} {args args' : List Value} {r : Value × AS} (hf : VR β fv fv') (ha : All2 (VR β) args args') (hr : invokeF H fv args s = some r) :
    ∃ d f as, (Deferred.ofValue fv' args'.toArray).run P w = .ok d w ∧ (Go.invoke d.target d.args).run P w = .ok (.enter f as) w ∧ ∀ n, CallsIn (Fw none) n P f as w (Ends E β s w r) := by
  unfold invokeF at hr
  split at hr
  · rename_i g first captured
    cases hf with
    | func _ h1 h2 h3 h4 =>
      rename_i first' captured'
      have hall : All2 (VR β) (first.toList ++ args ++ captured.toList) (first'.toList ++ args' ++ captured'.toList) :=
        ((All2.of_get (by simpa using h1) fun i x y hx hy => h3 i x y (by simpa using hx) (by simpa using hy)).append ha).append (All2.of_get (by simpa using h2) fun i x y hx hy => h4 i x y (by simpa using hx) (by simpa using hy))
      obtain ⟨h5, h6⟩ := hH.call _ _ _ _ hr β w _ h hall
      have e : (first' ++ args'.toArray) ++ captured' = (first'.toList ++ args' ++ captured'.toList).toArray := by apply Array.ext'; simp
      refine ⟨{ target := .fn (.func g) captured', args := first' ++ args'.toArray }, g, _, rfl, ?_, h6⟩
      rw [← h5, ← e]
      rfl
  · cases hr

theorem enter_sim {rnd rnd' : Option Nat} (h : Sim E β s w) (hr : RR β rnd rnd') {dd : Nat} {q : List Nat × AS} (hq : defsOf rnd s = some (dd, q)) {nt : Nat} {t : Fr} {tmps : Array Value} (ht : TR β nt t tmps) (fn : FuncId) (ps : Array Tmp) (as bd : Code) (hfine : fine as = true ∧ fine bd = true) :
    ∃ c mark W β1, (Instr.enterLoop fn tmps ps as bd rnd').run P w = .ok (c, mark) W ∧ Post E β s w β1 (q.2.alloc (.loop t nt ps.toList as bd .ready none dd)) W ∧ DR β1 q.1 mark ∧ β1 q.2.next = some (c, 0, none) := by
  cases rnd with
  | none =>
    cases rnd' with
    | some c => exact hr.elim
    | none =>
      cases hq
      have p1 : Post E β s w (upd β s.next (w.heap.size, 0, none)) (s.alloc .defs) (push w (.deferred (some []))) := Post.made h .defs (fun f rel n e => by cases e)
      have p2 := Post.made (g := none) (b := .loop t nt ps.toList as bd .ready none s.next) (o := .loop { state := .ready, pending := none, fn, tmps, params := ps, assign := as, body := bd, defers := w.heap.size }) p1.sim
        (.loop ((ht.ext p1.ext).ext (.upd (p1.sim.unset (Nat.le_refl _)))) rfl rfl rfl rfl rfl ((Ext.upd (p1.sim.unset (Nat.le_refl _))) _ _ (upd_eq _ _ _)) rfl hfine) (fun f rel n e => by cases e)
      have hsz : (push w (.deferred (some []))).heap.size = w.heap.size + 1 := by simp [push]
      refine ⟨_, _, _, upd (upd β s.next (w.heap.size, 0, none)) (s.alloc .defs).next ((push w (.deferred (some []))).heap.size, 0, none), run_enterLoop_outer _ _ _ _ _, p1.trans p2 (.alloc _ _) (.alloc _ _),
        .cons ⟨w.heap.size, 0, none, (Ext.upd (p1.sim.unset (Nat.le_refl _))) _ _ (upd_eq _ _ _), rfl⟩ .nil, ?_⟩
      rw [← hsz]; exact upd_eq _ _ _
  | some l =>
    cases rnd' with
    | none => exact hr.elim
    | some c0 =>
      obtain ⟨sh, g, hl⟩ := hr
      unfold defsOf at hq
      dsimp only at hq
      split at hq
      · rename_i hb
        cases hq
        obtain ⟨L, ho, _, _, _, _, _, _, ⟨c', sh', g', hd, hdd⟩, _⟩ := loop_wrote h hl hb
        have p2 := Post.made (g := none) (b := .loop t nt ps.toList as bd .ready none dd) (o := .loop { state := .ready, pending := none, fn, tmps, params := ps, assign := as, body := bd, defers := L.defers }) h
          (.loop (ht.ext (.upd (h.unset (Nat.le_refl _)))) rfl rfl rfl rfl rfl ((Ext.upd (h.unset (Nat.le_refl _))) _ _ hd) hdd hfine) (fun f rel n e => by cases e)
        exact ⟨_, _, _, _, run_enterLoop_inner ho _ _ _ _ _, p2, .nil, upd_eq _ _ _⟩
      · cases hq

theorem rangeOver_sim {H : Hand} (hH : HandOK E P H) {rnd rnd' : Option Nat} (hrr : RR β rnd rnd') {n nt : Nat} {f : Operand} {ps : Array Tmp} {as bd : Code} {t : Fr} {d : List Nat} {a : Act} {x : AExit × Fr × List Nat × AS} {Q : Exit → Act → World → Prop} (hfine : fine as = true ∧ fine bd = true)
    (h : Sim E β s w) (ht : TR β nt t a.tmps) (hd : DR β d a.defers) (hx : rangeOver E H nt rnd f ps.toList as bd t d s = some x) (hQ : Behind E β s w nt x Q) : (Code.rangeFunc f ps as bd).wpIn (Fw rnd') n P Q a w := by
  obtain ⟨fv, hf, hx⟩ := obind_some hx
  obtain ⟨dd, q, h1, hx⟩ := pbind_some hx
  obtain ⟨v, s2, h2, h3⟩ := pbind_some hx
  have k1 : Kept s q.2 := by
    unfold defsOf at h1
    split at h1
    · cases h1; exact .alloc _ _
    · split at h1
      · cases h1; exact .refl s
      · cases h1
  refine wpIn_rangeFunc fun fn _ => ?_
  obtain ⟨c, mark, W, β1, he, p1, hm, hc⟩ := enter_sim (P := P) h hrr h1 ht fn ps as bd hfine
  obtain ⟨D, g, gs, h4, h5, h6⟩ := invokeF_sim hH p1.sim ((aval_sim h ht hf).ext p1.ext) (.cons (.yield hc) .nil) h2
  have h7 := h6 (n - 1)
  have h8 : CallsIn (Fw rnd') (n - 1) P g gs W (Ends E β1 (q.2.alloc (.loop t nt ps.toList as bd .ready none dd)) W (v, s2)) := ⟨trivial, h7.2⟩
  refine ⟨c, mark, W, D, W, g, gs, W, he, ?_, fun _ _ => fw_fn _ _, h5, fw_depth rnd', h8.mono ?_⟩
  · have em : Array.map a.eval #[Operand.const (.func (.yield c) #[] #[])] = #[.func (.yield c) #[] #[]] := by
      apply Array.ext'; simp only [Array.toList_map, List.map_cons, List.map_nil]; rfl
    simp only [resolve]
    rw [em]
    exact h4
  · rintro e w3 ⟨v', β2, rfl, p2, _⟩
    have hl := p2.ext _ _ hc
    unfold overAt at h3
    split at h3
    · rename_i t1 nt1 ps1 as1 bd1 st pend dd1 hb
      obtain ⟨L, ho, _, _, _, _, hs, hp, _, hw⟩ := loop_wrote p2.sim hl hb
      have hbusy : st ≠ .busy := by
        rintro rfl
        cases h3
      have p3 := hw .exhausted pend
      have hend := run_endLoop (P := P) ho (by rw [hs]; exact hbusy)
      refine ⟨L.pending, _, hend, ?_⟩
      have hpost : Post E β s w β2 (s2.put q.2.next (.loop t1 nt1 ps1 as1 bd1 .exhausted pend dd1)) (w3.putObj c (.loop { L with state := .exhausted, pending := pend })) := by
        have k2 := invokeF_kept hH.kept h2
        exact (p1.trans p2 (k1.trans (.alloc _ _)) k2).trans p3 ((k1.trans (.alloc _ _)).trans k2) (.put _ _ _)
      have hdr : DR β2 (q.1 ++ d) (mark ++ a.defers) := (hm.ext p2.ext).append ((hd.ext p1.ext).ext p2.ext)
      have htr : TR β2 nt t a.tmps := (ht.ext p1.ext).ext p2.ext
      split at h3
      · exact absurd rfl hbusy
      · cases h3
        rw [hp]
        exact hQ { a with defers := mark ++ a.defers } _ β2 hpost htr hdr
      · cases h3
        rw [hp]
        exact wpIn_ret (hQ { a with defers := mark ++ a.defers } _ β2 hpost htr hdr)
      · cases h3
        rw [hp]
        exact wpIn_exit (hQ { a with defers := mark ++ a.defers } _ β2 hpost htr hdr)
      · cases h3
    · cases h3

theorem Behind.mono {nt : Nat} {r : AExit × Fr × List Nat × AS} {s1 : AS} {w1 : World} {β1 : Bond} {Q : Exit → Act → World → Prop} (p : Post E β s w β1 s1 w1) (hk : Kept s s1) (hk' : Kept s1 r.2.2.2) (h : Behind E β s w nt r Q) : Behind E β1 s1 w1 nt r Q :=
  fun a' w' β' p' ht hd => h a' w' β' (p.trans p' hk hk') ht hd

theorem acode_sim (hE : EnvOK E P) {H : Hand} (hH : HandOK E P H) (hD : DrawOK E P H) {rnd rnd' : Option Nat} {n nt : Nat} (c : Code) (hfine : fine c = true) : ∀ (β : Bond) (s : AS) (w : World) (t : Fr) (d : List Nat) (a : Act) (x : AExit × Fr × List Nat × AS) (Q : Exit → Act → World → Prop),
    RR β rnd rnd' → Sim E β s w → TR β nt t a.tmps → DR β d a.defers → acode E H nt rnd c t d s = some x → Behind E β s w nt x Q → c.wpIn (Fw rnd') n P Q a w := by
  induction c with
  | skip => intro β s w t d a x Q _ h ht hd hx hQ; cases hx; exact wpIn_skip (hQ a w β (.refl h) ht hd)
  | label l => intro β s w t d a x Q _ h ht hd hx hQ; cases hx; exact wpIn_label (hQ a w β (.refl h) ht hd)
  | exit id => intro β s w t d a x Q _ h ht hd hx hQ; cases hx; exact wpIn_exit (hQ a w β (.refl h) ht hd)
  | ret => intro β s w t d a x Q _ h ht hd hx hQ; cases hx; exact wpIn_ret (hQ a w β (.refl h) ht hd)
  | goto l => intro β s w t d a x Q _ h ht hd hx hQ; cases hx
  | refuse y => intro β s w t d a x Q _ h ht hd hx hQ; cases hx
  | scope b ih => intro β s w t d a x Q _ h ht hd hx hQ; cases hx
  | region id ops draw =>
    intro β s w t d a x Q _ h ht hd hx hQ
    have hx : region E H nt ops draw t d s = some x := hx
    unfold region at hx
    obtain ⟨t', s', h1, h2⟩ := pbind_some hx
    cases h2
    have hQ' : ∀ a' w' β', a'.defers = a.defers → Post E β s w β' s' w' → TR β' nt t' a'.tmps → Q .normal a' w' := fun a' w' β' e p ht' => hQ a' w' β' p ht' (by rw [e]; exact hd.ext p.ext)
    cases draw with
    | true => exact hD rnd' n nt id ops β s w t a (t', s') Q (by simpa [fine] using hfine) h ht h1 hQ'
    | false => exact wpIn_region (aops_sim hE hH ops.toList 0 rfl h ht (show aops E H nt ops ops.toList t s = some (t', s') from h1) hQ')
  | seq a1 b1 iha ihb =>
    have hf2 : fine a1 = true ∧ fine b1 = true := by simpa [fine] using hfine
    replace iha := iha hf2.1
    replace ihb := ihb hf2.2
    intro β s w t d a x Q hr h ht hd hx hQ
    obtain ⟨ex, t1, d1, s1, h1, h2⟩ := after_some (show after (acode E H nt rnd a1 t d s) (acode E H nt rnd b1) out = some x from hx)
    refine wpIn_seq (iha β s w t d a _ _ hr h ht hd h1 ?_)
    intro a' w' β' p ht' hd'
    rcases h2 with ⟨he, h2⟩ | ⟨he, h2⟩
    · subst he
      exact ihb β' s1 w' t1 d1 a' x Q (hr.ext p.ext) p.sim ht' hd' h2 (hQ.mono p (acode_kept hH.kept a1 _ _ _ _ h1) (acode_kept hH.kept b1 _ _ _ _ h2))
    · cases h2
      have hq := hQ a' w' β' p ht' hd'
      cases ex with
      | normal => exact absurd rfl he
      | exit id => exact hq
      | ret => exact hq
  | cond y a1 b1 iha ihb =>
    have hf2 : fine a1 = true ∧ fine b1 = true := by simpa [fine] using hfine
    replace iha := iha hf2.1
    replace ihb := ihb hf2.2
    intro β s w t d a x Q hr h ht hd hx hQ
    have hx : branch E y (acode E H nt rnd a1) (acode E H nt rnd b1) t d s = some x := hx
    unfold branch at hx
    split at hx
    · rename_i c hc
      have hv := aval_sim h ht hc
      generalize hev : a.eval y = ev at hv
      cases hv
      refine wpIn_cond hev ?_
      cases c with
      | true => exact iha β s w t d a x Q hr h ht hd hx hQ
      | false => exact ihb β s w t d a x Q hr h ht hd hx hQ
    · cases hx
  | block id c ih =>
    replace ih := ih hfine
    intro β s w t d a x Q hr h ht hd hx hQ
    obtain ⟨ex, t1, d1, s1, h1, h2⟩ := after_some (show after (acode E H nt rnd c t d s) (out .normal) (inBlock id) = some x from hx)
    refine wpIn_block (ih β s w t d a _ _ hr h ht hd h1 ?_)
    intro a' w' β' p ht' hd'
    rcases h2 with ⟨he, h2⟩ | ⟨he, h2⟩
    · subst he
      cases h2
      exact hQ a' w' β' p ht' hd'
    · cases ex with
      | normal => exact absurd rfl he
      | ret => cases h2; exact hQ a' w' β' p ht' hd'
      | exit j =>
        cases h2
        have hq := hQ a' w' β' p ht' hd'
        show if j = id then Q .normal a' w' else Q (.exit j) a' w'
        by_cases e : j = id
        · rw [if_pos e]
          subst e
          have hb : Nat.beq j j = true := Nat.beq_refl j
          simp only [hb, cond_true] at hq
          exact hq
        · rw [if_neg e]
          have hb : Nat.beq j id = false := Bool.eq_false_iff.2 fun h => e (Nat.eq_of_beq_eq_true h)
          simp only [hb, cond_false] at hq
          exact hq
  | loop c ih =>
    replace ih := ih hfine
    intro β s w t d a x Q hr h ht hd hx hQ
    refine wpIn_loop_rounds H.fuel ?_
    have key : ∀ m β s w t d a x, RR β rnd rnd' → Sim E β s w → TR β nt t a.tmps → DR β d a.defers → loopN (acode E H nt rnd c) m t d s = some x → Behind E β s w nt x Q → Code.roundsIn (Fw rnd') n P c Q m a w := by
      intro m
      induction m with
      | zero => intro β s w t d a x hr h ht hd hx; cases hx
      | succ m ihm =>
        intro β s w t d a x hr h ht hd hx hQ
        obtain ⟨ex, t1, d1, s1, h1, h2⟩ := after_some (show after (acode E H nt rnd c t d s) (loopN (acode E H nt rnd c) m) out = some x from hx)
        rw [roundsIn_succ]
        refine ih β s w t d a _ _ hr h ht hd h1 ?_
        intro a' w' β' p ht' hd'
        rcases h2 with ⟨he, h2⟩ | ⟨he, h2⟩
        · subst he
          exact ihm β' s1 w' t1 d1 a' x (hr.ext p.ext) p.sim ht' hd' h2 (hQ.mono p (acode_kept hH.kept c _ _ _ _ h1) (loopN_kept (fun t d s x h => acode_kept hH.kept c t d s x h) _ _ _ _ _ h2))
        · cases h2
          have hq := hQ a' w' β' p ht' hd'
          cases ex with
          | normal => exact absurd rfl he
          | exit id => exact hq
          | ret => exact hq
    exact key _ β s w t d a x hr h ht hd hx hQ
  | rangeFunc f ps as bd _ _ =>
    intro β s w t d a x Q hr h ht hd hx hQ
    exact rangeOver_sim hH hr (by simpa [fine] using hfine) h ht hd (show rangeOver E H nt rnd f ps.toList as bd t d s = some x from hx) hQ
end Go.Ev
/- Calls, rounds; the machine by fuel. -/
namespace Go.Ev
variable {E : Env} {β β' : Bond} {s s' : AS} {w w' : World} {P : Program}

theorem ofList_tr {args args' : List Value} (ha : All2 (VR β) args args') (m : Nat) :
    TR β (Nat.add args.length (Nat.sub m args.length)) (ofList args 0 .nil) (args'.toArray ++ Array.replicate (m - args'.toArray.size) undef) := by
  have hl := ha.len
  refine ⟨?_, fun i v e => ?_⟩
  · show _ = args.length + (m - args.length)
    simp [hl]
  · rw [get_ofList] at e
    split at e
    · rename_i hi
      obtain ⟨b, h1, h2⟩ := ha.get e
      have hi' : i < args'.length := by omega
      refine ⟨b, ?_, h2⟩
      rw [Array.getElem?_append_left (by simpa using hi')]
      simpa using h1
    · cases e
theorem enter_run (hE : EnvOK E P) {f : FuncId} {fn : Func} {c : Code} (hf : E.fn f = some fn) (hc : fn.body = some c) (args : Array Value) (w : World) : (callFunc f args).run P w = .ok (.enter f args) w := by
  simp [callFunc, hE.fn _ _ hf, hE.name _ _ hf, hc]
theorem acallF_sim (hE : EnvOK E P) {H : Hand} (hH : HandOK E P H) (hD : DrawOK E P H) {f : FuncId} {args args' : List Value} {r : Value × AS} (hr : acallF E H f args s = some r) (h : Sim E β s w) (ha : All2 (VR β) args args') :
    (callFunc f args'.toArray).run P w = .ok (.enter f args'.toArray) w ∧ ∀ n, CallsIn (Fw none) n P f args'.toArray w (Ends E β s w r) := by
  obtain ⟨fn, hf, hr⟩ := obind_some hr
  obtain ⟨c, hc, hr⟩ := obind_some hr
  refine ⟨enter_run hE hf hc _ _, fun n => callsIn_of_wp_marks (hE.fn _ _ hf) hc trivial ?_ rfl⟩
  unfold ended at hr
  cases hx : acode E H (Nat.add args.length (Nat.sub fn.ntmps args.length)) none c (ofList args 0 .nil) [] s with
  | none => rw [hx] at hr; cases hr
  | some p =>
    rw [hx] at hr
    obtain ⟨ex, t, d, s1⟩ := p
    have k := acode_kept hH.kept c _ _ _ _ hx
    refine acode_sim hE hH hD (rnd := none) (rnd' := none) c (hE.fine _ _ _ hf hc) β s w _ [] _ _ _ trivial h (ofList_tr ha fn.ntmps) .nil hx ?_
    intro a' w' β' p ht hd
    have fin : leave E fn.results.toList (out .ret) t d s1 = some r → LeavesInM (Fw none) n P fn a'.tmps (Ends E β s w r) a'.defers .returning w' := by
      intro hr
      obtain ⟨s2, h1, hr⟩ := obind_some hr
      obtain ⟨vs, h2, hr⟩ := obind_some hr
      cases hr
      refine takeAll_sim d hd p.sim h1 fun w'' p' => ?_
      obtain ⟨v', h3, h4⟩ := results_sim hE p'.sim ht h2
      exact ⟨v', h3, v', β', rfl, p.trans p' k (takeAll_kept d h1), h4⟩
    cases ex with
    | normal => exact fin hr
    | ret => exact fin hr
    | exit id => cases hr

theorem setParams_sim {nt : Nat} : ∀ (ps : List Tmp) {vs vs' : List Value} {t t' : Fr} {tmps : Array Value}, setParams nt ps vs t = some t' → All2 (VR β) vs vs' → TR β nt t tmps →
    ps.length = vs'.length ∧ TR β nt t' ((ps.zip vs').foldl (fun tmps x => tmps.setIfInBounds x.1 x.2) tmps) := by
  intro ps
  induction ps with
  | nil =>
    intro vs vs' t t' tmps hr ha ht
    cases ha with
    | nil => cases hr; exact ⟨rfl, ht⟩
    | cons _ _ => cases hr
  | cons p ps ih =>
    intro vs vs' t t' tmps hr ha ht
    cases ha with
    | nil => cases hr
    | cons hv ha =>
      obtain ⟨h1, h2⟩ := only_some hr
      obtain ⟨h3, h4⟩ := ih h2 ha (ht.put (le_of_ble h1) hv)
      exact ⟨by simpa using h3, h4⟩
theorem run_yield {c : Nat} {L : Loop} (ho : w.heap[c]? = some (.loop L)) {args : List Value} (hl : L.params.toList.length = args.length) :
    (Instr.yield c args.toArray).run P w = .ok (.round c L.fn ((L.params.toList.zip args).foldl (fun tmps x => tmps.setIfInBounds x.1 x.2) L.tmps) L.assign L.body) w := by
  have h1 : ¬ args.toArray.size ≠ L.params.size := by simpa using hl.symm
  have h2 : (L.params.zip args.toArray).foldl (fun tmps (x : Tmp × Value) => tmps.setIfInBounds x.1 x.2) L.tmps = (L.params.toList.zip args).foldl (fun tmps x => tmps.setIfInBounds x.1 x.2) L.tmps := by
    rw [← Array.foldl_toList, Array.toList_zip]
  unfold Instr.yield
  rw [Sem.run_bind, run_getLoop ho, Result.andThen_ok, if_neg h1, ← h2]
  rfl

theorem endRound_sim (h : Sim E β s w) {l c sh : Nat} {g : Gr} (hl : β l = some (c, sh, g)) {e : AExit} {r : Value × AS} (hr : endRound l e s = some r) {a : Act} {R : Ending → World → Prop}
    (hR : ∀ v w', Post E β s w β r.2 w' → VR β r.1 v → R (.returned v) w') : roundPost P c R (exitOf e) a w := by
  unfold endRound at hr
  split at hr
  · rename_i hb
    obtain ⟨L, ho, _, _, _, _, _, _, _, hw⟩ := loop_wrote h hl hb
    cases e with
    | normal => cases hr; exact ⟨_, _, run_endRound none ho, hR _ _ (hw _ _) (.bool _)⟩
    | ret => cases hr; exact ⟨_, _, run_endRound (some .ret) ho, hR _ _ (hw _ _) (.bool _)⟩
    | exit id => cases hr; exact ⟨_, _, run_endRound (some (.exit id)) ho, hR _ _ (hw _ _) (.bool _)⟩
  · cases hr
theorem around_sim (hE : EnvOK E P) {H : Hand} (hH : HandOK E P H) (hD : DrawOK E P H) {l : Nat} {args args' : List Value} {r : Value × AS} (hr : around E H l args s = some r) (h : Sim E β s w) {c sh : Nat} {g : Gr} (hl : β l = some (c, sh, g)) (ha : All2 (VR β) args args') :
    ∃ f tmps as bd, (Instr.yield c args'.toArray).run P w = .ok (.round c f tmps as bd) w ∧ ∀ n, RoundIn (Fw none) n P c f tmps as bd w (Ends E β s w r) := by
  unfold around at hr
  split at hr
  · rename_i t nt ps as bd st pend dd hb
    obtain ⟨t1, h1, hr⟩ := obind_some hr
    obtain ⟨L, ho, ht, hp, has, hbd, _, _, _, _⟩ := loop_wrote h hl hb
    have hfine := loop_fine h hl hb
    obtain ⟨hlen, ht1⟩ := setParams_sim ps h1 ha ht
    refine ⟨L.fn, _, L.assign, L.body, run_yield ho (by rw [hp]; exact hlen), fun n => roundIn_of_wpIn trivial ?_⟩
    rw [hp, has, hbd]
    split at hr
    · rename_i t2 s2 hc
      have k1 := acode_kept hH.kept as _ _ _ _ hc
      refine acode_sim hE hH hD (rnd := some l) (rnd' := some c) as hfine.1 β s w t1 [] _ _ _ ⟨sh, g, hl⟩ h ht1 .nil hc ?_
      intro a1 w1 β1 p1 ht2 hd2
      unfold bodyOf at hr
      split at hr
      · rename_i t0 nt0 ps0 as0 bd0 pend0 dd0 hb0
        obtain ⟨L2, ho2, _, _, _, _, hs2, hq2, _, hw2⟩ := loop_wrote p1.sim (p1.ext _ _ hl) hb0
        have p2 := hw2 .busy pend0
        refine ⟨_, run_beginRound ho2 hs2, ?_⟩
        split at hr
        · rename_i e t3 s3 hc3
          have k3 := acode_kept hH.kept bd _ _ _ _ hc3
          subst hq2
          refine acode_sim hE hH hD (rnd := some l) (rnd' := some c) bd hfine.2 β1 _ _ t2 [] _ _ _ ⟨sh, g, p1.ext _ _ hl⟩ p2.sim ht2 hd2 hc3 ?_
          intro a3 w3 β3 p3 ht3 hd3
          refine endRound_sim p3.sim (p3.ext _ _ (p1.ext _ _ hl)) hr fun v w4 p4 hv => ?_
          have kp : Kept s2 (s2.put l (.loop t0 nt0 ps0 as0 bd0 .busy L2.pending dd0)) := .put _ _ _
          have k4 := endRound_kept hr
          exact ⟨v, β3, rfl, ((p1.trans p2 k1 kp).trans p3 (k1.trans kp) k3).trans p4 ((k1.trans kp).trans k3) k4, hv⟩
        · cases hr
      · cases hr
    · cases hr
  · cases hr

/-- Calls that are told by themselves. -/
structure PrimOK (E : Env) (P : Program) : Prop where
  kept : ∀ f p args s r, E.prim f = some p → p args s = some r → Kept s r.2
  call : ∀ f p args s r, E.prim f = some p → p args s = some r → ∀ β w args', Sim E β s w → All2 (VR β) args args' →
    (callFunc f args'.toArray).run P w = .ok (.enter f args'.toArray) w ∧ ∀ n, CallsIn (Fw none) n P f args'.toArray w (Ends E β s w r)
theorem acall_some {H : Hand} {f : FuncId} {args : List Value} {r : Value × AS} (hr : acall E H f args s = some r) : (∃ p, E.prim f = some p ∧ p args s = some r) ∨ acallF E H f args s = some r := by
  unfold acall at hr
  cases hp : E.prim f with
  | none => rw [hp] at hr; exact .inr hr
  | some p => rw [hp] at hr; exact .inl ⟨p, rfl, hr⟩
theorem hand_ok (hE : EnvOK E P) (hP : PrimOK E P) (hD : ∀ H, HandOK E P H → DrawOK E P H) : ∀ n, HandOK E P (hand E n) := by
  intro n
  induction n with
  | zero => exact ⟨⟨fun f args s r h => (by cases h), fun l args s r h => (by cases h)⟩, fun f args s r h => (by cases h), fun l args s r h => (by cases h)⟩
  | succ n ih =>
    refine ⟨⟨fun f args s r h => ?_, fun l args s r h => around_kept ih.kept h⟩, fun f args s r h β w args' hs ha => ?_, fun l args s r h β w args' c sh g hs hl ha => around_sim hE ih (hD _ ih) h hs hl ha⟩
    · rcases acall_some h with ⟨p, h1, h2⟩ | h
      · exact hP.kept f p args s r h1 h2
      · exact acallF_kept ih.kept h
    · rcases acall_some h with ⟨p, h1, h2⟩ | h
      · exact hP.call f p args s r h1 h2 β w args' hs ha
      · exact acallF_sim hE ih (hD _ ih) h hs ha
/-- What the evaluator tells of a call is so. -/
theorem hand_calls (hE : EnvOK E P) (hP : PrimOK E P) (hD : ∀ H, HandOK E P H → DrawOK E P H) {n : Nat} {f : FuncId} {args args' : List Value} {r : Value × AS} (hr : (hand E n).call f args s = some r) (h : Sim E β s w) (ha : All2 (VR β) args args') :
    Calls P f args'.toArray w (Ends E β s w r) :=
  callsIn_wide.1 (((hand_ok hE hP hD n).call f args s r hr β w args' h ha).2 0)
end Go.Ev
/- What operations look at: where the foot is none, or one block, the operation changes nothing, and its answer is told by that block. -/
namespace Go.Ev
variable {E : Env} {s s2 : AS}

/-- Two memories agree on what a value's foot names. -/
def AtFoot (s s2 : AS) (f : Foot) : Prop := ∀ b, f = .one b → s2.heap.get b = s.heap.get b
theorem loadVar_at {ty : TypeId} {a : Addr} (h : s2.heap.get a.block = s.heap.get a.block) : loadVar E s2 ty a = loadVar E s ty a := by
  have h1 : ∀ n, cells s2 a.block a.off n = cells s a.block a.off n := fun n => by
    cases n with
    | zero => rfl
    | succ n => unfold cells; dsimp only; rw [h]
  have h2 : cell s2 a.block a.off = cell s a.block a.off := by unfold cell; rw [h]
  unfold loadVar
  simp only [h1, h2]
theorem lookup_at {ty : TypeId} {x k : Value} {ok : Bool} (h : AtFoot s s2 (footOf (some x))) : lookup E s2 ty x k ok = lookup E s ty x k ok := by
  have h1 : entriesOf s2 x = entriesOf s x := by
    unfold entriesOf
    split
    · rfl
    · rw [h _ rfl]
    · rfl
  unfold lookup
  rw [h1]
theorem lenB_at {ty : TypeId} {x : Value} (h : AtFoot s s2 (footOf (some x))) : lenB E s2 ty x = lenB E s ty x := by
  unfold lenB
  split <;> first | rfl | rw [h _ rfl]
theorem sliceS_at {e : TypeId} {z : Nat} {x : Value} {lo hi mx : Option Value} (h : AtFoot s s2 (footOf (some x))) : sliceS s2 e z x lo hi mx = sliceS s e z x lo hi mx := by
  unfold sliceS
  split
  · rfl
  · rename_i b o len cap
    have := h b rfl
    unfold sliceOf
    rw [this]
  · rfl
theorem sliceArr_at {z : Nat} {x : Value} {l h1 m : Nat} (h : AtFoot s s2 (footOf (some x))) : (ptr x fun b o => sliceArr s2 z b o l h1 m) = ptr x fun b o => sliceArr s z b o l h1 m := by
  unfold ptr
  split
  · rename_i b o
    have := h b rfl
    unfold sliceArr
    dsimp only
    rw [this]
  · rfl
theorem slice_at {t : TypeId} {x : Value} {lo hi mx : Option Value} (h : AtFoot s s2 (footOf (some x))) : slice E s2 t x lo hi mx = slice E s t x lo hi mx := by
  unfold slice
  split
  · rfl
  · simp only [sliceS_at h]
  · simp only [sliceArr_at h]
  · rfl
theorem footOf_any {v : Option Value} (h : footOf v ≠ .any) : ∃ x, v = some x := by
  cases v with
  | none => exact absurd rfl h
  | some x => exact ⟨x, rfl⟩

theorem val_at {u u2 : Option Value} {r : Option Value × AS} (hu : u2 = u) (h : val u s = some r) : r.2 = s ∧ val u2 s2 = some (r.1, s2) := by
  obtain ⟨v, h1, rfl⟩ := val_some h
  subst hu
  refine ⟨rfl, ?_⟩
  rw [h1]
  rfl
theorem val_at2 {u : Option Value} {r : Option Value × AS} (h : val u s = some r) : r.2 = s ∧ val u s2 = some (r.1, s2) := val_at rfl h
theorem obind_at {α β γ : Type} {o : Option α} {f : α → Option β} {g : α → Option γ} {r : β} {Q : Prop} {r2 : γ} (h : obind o f = some r) (hf : ∀ a, o = some a → f a = some r → Q ∧ g a = some r2) : Q ∧ obind o g = some r2 := by
  obtain ⟨a, h1, h2⟩ := obind_some h
  obtain ⟨q, h3⟩ := hf a h1 h2
  exact ⟨q, by rw [h1]; exact h3⟩

theorem aop_foot {H : Hand} {o : Op} {t : Fr} {r : Option Value × AS} (hf : foot E t o ≠ .any) (hb : AtFoot s s2 (foot E t o)) (h : aop o E H t s = some r) : r.2 = s ∧ aop o E H t s2 = some (r.1, s2) := by
  cases o with
  | move x => exact val_at2 (show val (aval E t x) s = some r from h)
  | assign x => exact val_at2 (show val (aval E t x) s = some r from h)
  | pick c a b =>
    have h : oPick c a b E H t s = some r := h
    show _ ∧ oPick c a b E H t s2 = _
    unfold oPick at h ⊢
    split at h
    · cases h; exact ⟨rfl, rfl⟩
    · cases h
  | build ty ps => exact obind_at (show obind (pairsOf E t ps.toList) _ = some r from h) fun a _ h => val_at2 h
  | nilCheck x =>
    have h : oNilCheck x E H t s = some r := h
    show _ ∧ oNilCheck x E H t s2 = _
    unfold oNilCheck at h ⊢
    split at h
    · cases h
    · cases h
    · cases h
    · cases h
    · cases h; exact ⟨rfl, rfl⟩
    · cases h
  | binOp op ty x y p => exact obind_at (show obind (aval E t x) _ = some r from h) fun a _ h => obind_at h fun b _ h => val_at2 h
  | unOp op ty x =>
    have h : oUn op x E H t s = some r := h
    show _ ∧ oUn op x E H t s2 = _
    unfold oUn at h ⊢
    split at h
    · exact val_at2 h
    · exact val_at2 h
    · cases h
  | makeInterface ty x =>
    have h : oIface ty x E H t s = some r := h
    show _ ∧ oIface ty x E H t s2 = _
    unfold oIface at h ⊢
    split at h
    · cases h
    · cases h; exact ⟨rfl, rfl⟩
    · cases h
  | makeFunc fn first captured =>
    have h : oFunc fn first captured E H t s = some r := h
    show _ ∧ oFunc fn first captured E H t s2 = _
    unfold oFunc at h ⊢
    split at h
    · exact obind_at h fun a _ h => obind_at h fun b _ h => by cases h; exact ⟨rfl, rfl⟩
    · cases h
  | fieldAddr ty x f => exact obind_at (show obind (aval E t x) _ = some r from h) fun a _ h => val_at2 h
  | field ty x f => exact obind_at (show obind (aval E t x) _ = some r from h) fun a _ h => val_at2 h
  | indexAddr ty x i => exact obind_at (show obind (aval E t x) _ = some r from h) fun a _ h => obind_at h fun b _ h => val_at2 h
  | index ty x i => exact obind_at (show obind (aval E t x) _ = some r from h) fun a _ h => obind_at h fun b _ h => val_at2 h
  | typeAssert x y u ok => exact obind_at (show obind (aval E t x) _ = some r from h) fun a _ h => val_at2 h
  | extract x i =>
    have h : oExtract x i E H t s = some r := h
    show _ ∧ oExtract x i E H t s2 = _
    unfold oExtract at h ⊢
    split at h
    · exact val_at2 h
    · cases h
  | load ty x =>
    refine obind_at (show obind (aval E t x) _ = some r from h) fun v hv h => ?_
    have hb : AtFoot s s2 (footOf (aval E t x)) := hb
    rw [hv] at hb
    unfold addr at h ⊢
    split at h
    · rename_i a
      exact val_at (loadVar_at (hb a.block rfl)) h
    · cases h
  | lookup ty x k ok =>
    refine obind_at (show obind (aval E t x) _ = some r from h) fun v hv h => ?_
    have hb : AtFoot s s2 (footOf (aval E t x)) := hb
    rw [hv] at hb
    exact obind_at h fun k _ h => val_at (lookup_at hb) h
  | slice ty x lo hi mx =>
    refine obind_at (show obind (aval E t x) _ = some r from h) fun v hv h => ?_
    have hb : AtFoot s s2 (footOf (aval E t x)) := hb
    rw [hv] at hb
    exact obind_at h fun lo _ h => obind_at h fun hi _ h => obind_at h fun mx _ h => val_at (slice_at hb) h
  | call c =>
    have hf : footCall E t c ≠ .any := hf
    have hb : AtFoot s s2 (footCall E t c) := hb
    unfold footCall at hf hb
    split at hf
    · rename_i x hc hx
      rw [hc, hx] at hb
      have h : oCall c E H t s = some r := h
      show _ ∧ oCall c E H t s2 = _
      unfold oCall at h ⊢
      rw [hx, hc] at h ⊢
      refine obind_at h fun args ha h => ?_
      obtain ⟨v, h1, h2⟩ := obind_some (show obind (aval E t x) _ = some args from ha)
      obtain ⟨vs, h3, h4⟩ := obind_some h2
      cases h3
      cases h4
      have hb : AtFoot s s2 (footOf (aval E t x)) := hb
      rw [h1] at hb
      have h : builtin E .len c.argTypes.toList [v] s = some r := h
      show _ ∧ builtin E .len c.argTypes.toList [v] s2 = _
      cases hts : c.argTypes.toList with
      | nil => rw [hts] at h; cases h
      | cons ty l =>
        rw [hts] at h
        exact val_at (lenB_at hb) (show val (lenB E s ty v) s = some r from h)
    · exact absurd rfl hf
  | _ => exact absurd rfl hf
end Go.Ev
