/- Code, but for regions that draw their order (they are asked for). -/
import Derived.Test.YtgglmmipdfcbpaaDoorEvC3
namespace Go.Ev
variable {E : Env} {β β' : Bond} {s s' : AS} {w w' : World} {P : Program}

/-- A region that draws its order. -/
def DrawOK (E : Env) (P : Program) (H : Hand) : Prop := ∀ (rnd' : Option Nat) (n nt id : Nat) (ops : Array Oper) (β : Bond) (s : AS) (w : World) (t : Fr) (a : Act) (r : Fr × AS) (Q : Exit → Act → World → Prop),
  tidy ops = true → Sim E β s w → TR β nt t a.tmps → aopsD E H nt ops ops.toList (Region.before ops).toList 0 ⟨[], [], []⟩ t s = some r →
  (∀ a' w' β', a'.defers = a.defers → Post E β s w β' r.2 w' → TR β' nt r.1 a'.tmps → Q .normal a' w') → (Code.region id ops true).wpIn (Fw rnd') n P Q a w

theorem invokeF_sim {H : Hand} (hH : HandOK E P H) (h : Sim E β s w) {fv fv' : Value} {args args' : List Value} {r : Value × AS} (hf : VR β fv fv') (ha : All2 (VR β) args args') (hr : invokeF H fv args s = some r) :
    ∃ d f as, (Deferred.ofValue fv' args'.toArray).run P w = .ok d w ∧ (Go.invoke d.target d.args).run P w = .ok (.enter f as) w ∧ ∀ n, CallsIn (Fw none) n P f as w (Ends E β s w r) := by
  unfold invokeF at hr
  split at hr
  · rename_i g first captured
    cases hf with
    | func _ h1 h2 h3 h4 =>
      rename_i first' captured'
      have hall : All2 (VR β) (first.toList ++ args ++ captured.toList) (first'.toList ++ args' ++ captured'.toList) :=
        ((All2.of_get (by simpa using h1) fun i x y hx hy => h3 i x y (by simpa using hx) (by simpa using hy)).append ha).append (All2.of_get (by simpa using h2) fun i x y hx hy => h4 i x y (by simpa using hx) (by simpa using hy))
      obtain ⟨h5, h6⟩ := hH.call _ _ _ _ hr β w _ h hall
      have e : (first' ++ args'.toArray) ++ captured' = (first'.toList ++ args' ++ captured'.toList).toArray := by apply Array.ext'; simp
      refine ⟨{ target := .fn (.func g) captured', args := first' ++ args'.toArray }, g, _, rfl, ?_, h6⟩
      rw [← h5, ← e]
      rfl
  · cases hr

theorem enter_sim {rnd rnd' : Option Nat} (h : Sim E β s w) (hr : RR β rnd rnd') {dd : Nat} {q : List Nat × AS} (hq : defsOf rnd s = some (dd, q)) {nt : Nat} {t : Fr} {tmps : Array Value} (ht : TR β nt t tmps) (fn : FuncId) (ps : Array Tmp) (as bd : Code) (hfine : fine as = true ∧ fine bd = true) :
    ∃ c mark W β1, (Instr.enterLoop fn tmps ps as bd rnd').run P w = .ok (c, mark) W ∧ Post E β s w β1 (q.2.alloc (.loop t nt ps.toList as bd .ready none dd)) W ∧ DR β1 q.1 mark ∧ β1 q.2.next = some (c, 0, none) := by
  cases rnd with
  | none =>
    cases rnd' with
    | some c => exact hr.elim
    | none =>
      cases hq
      have p1 : Post E β s w (upd β s.next (w.heap.size, 0, none)) (s.alloc .defs) (push w (.deferred (some []))) := Post.made h .defs (fun f rel n e => by cases e)
      have p2 := Post.made (g := none) (b := .loop t nt ps.toList as bd .ready none s.next) (o := .loop { state := .ready, pending := none, fn, tmps, params := ps, assign := as, body := bd, defers := w.heap.size }) p1.sim
        (.loop ((ht.ext p1.ext).ext (.upd (p1.sim.unset (Nat.le_refl _)))) rfl rfl rfl rfl rfl ((Ext.upd (p1.sim.unset (Nat.le_refl _))) _ _ (upd_eq _ _ _)) rfl hfine) (fun f rel n e => by cases e)
      have hsz : (push w (.deferred (some []))).heap.size = w.heap.size + 1 := by simp [push]
      refine ⟨_, _, _, upd (upd β s.next (w.heap.size, 0, none)) (s.alloc .defs).next ((push w (.deferred (some []))).heap.size, 0, none), run_enterLoop_outer _ _ _ _ _, p1.trans p2 (.alloc _ _) (.alloc _ _),
        .cons ⟨w.heap.size, 0, none, (Ext.upd (p1.sim.unset (Nat.le_refl _))) _ _ (upd_eq _ _ _), rfl⟩ .nil, ?_⟩
      rw [← hsz]; exact upd_eq _ _ _
  | some l =>
    cases rnd' with
    | none => exact hr.elim
    | some c0 =>
      obtain ⟨sh, g, hl⟩ := hr
      unfold defsOf at hq
      dsimp only at hq
      split at hq
      · rename_i hb
        cases hq
        obtain ⟨L, ho, _, _, _, _, _, _, ⟨c', sh', g', hd, hdd⟩, _⟩ := loop_wrote h hl hb
        have p2 := Post.made (g := none) (b := .loop t nt ps.toList as bd .ready none dd) (o := .loop { state := .ready, pending := none, fn, tmps, params := ps, assign := as, body := bd, defers := L.defers }) h
          (.loop (ht.ext (.upd (h.unset (Nat.le_refl _)))) rfl rfl rfl rfl rfl ((Ext.upd (h.unset (Nat.le_refl _))) _ _ hd) hdd hfine) (fun f rel n e => by cases e)
        exact ⟨_, _, _, _, run_enterLoop_inner ho _ _ _ _ _, p2, .nil, upd_eq _ _ _⟩
      · cases hq

theorem rangeOver_sim {H : Hand} (hH : HandOK E P H) {rnd rnd' : Option Nat} (hrr : RR β rnd rnd') {n nt : Nat} {f : Operand} {ps : Array Tmp} {as bd : Code} {t : Fr} {d : List Nat} {a : Act} {x : AExit × Fr × List Nat × AS} {Q : Exit → Act → World → Prop} (hfine : fine as = true ∧ fine bd = true)
    (h : Sim E β s w) (ht : TR β nt t a.tmps) (hd : DR β d a.defers) (hx : rangeOver E H nt rnd f ps.toList as bd t d s = some x) (hQ : Behind E β s w nt x Q) : (Code.rangeFunc f ps as bd).wpIn (Fw rnd') n P Q a w := by
  obtain ⟨fv, hf, hx⟩ := obind_some hx
  obtain ⟨dd, q, h1, hx⟩ := pbind_some hx
  obtain ⟨v, s2, h2, h3⟩ := pbind_some hx
  have k1 : Kept s q.2 := by
    unfold defsOf at h1
    split at h1
    · cases h1; exact .alloc _ _
    · split at h1
      · cases h1; exact .refl s
      · cases h1
  refine wpIn_rangeFunc fun fn _ => ?_
  obtain ⟨c, mark, W, β1, he, p1, hm, hc⟩ := enter_sim (P := P) h hrr h1 ht fn ps as bd hfine
  obtain ⟨D, g, gs, h4, h5, h6⟩ := invokeF_sim hH p1.sim ((aval_sim h ht hf).ext p1.ext) (.cons (.yield hc) .nil) h2
  have h7 := h6 (n - 1)
  have h8 : CallsIn (Fw rnd') (n - 1) P g gs W (Ends E β1 (q.2.alloc (.loop t nt ps.toList as bd .ready none dd)) W (v, s2)) := ⟨trivial, h7.2⟩
  refine ⟨c, mark, W, D, W, g, gs, W, he, ?_, fun _ _ => fw_fn _ _, h5, fw_depth rnd', h8.mono ?_⟩
  · have em : Array.map a.eval #[Operand.const (.func (.yield c) #[] #[])] = #[.func (.yield c) #[] #[]] := by
      apply Array.ext'; simp only [Array.toList_map, List.map_cons, List.map_nil]; rfl
    simp only [resolve]
    rw [em]
    exact h4
  · rintro e w3 ⟨v', β2, rfl, p2, _⟩
    have hl := p2.ext _ _ hc
    unfold overAt at h3
    split at h3
    · rename_i t1 nt1 ps1 as1 bd1 st pend dd1 hb
      obtain ⟨L, ho, _, _, _, _, hs, hp, _, hw⟩ := loop_wrote p2.sim hl hb
      have hbusy : st ≠ .busy := by
        rintro rfl
        cases h3
      have p3 := hw .exhausted pend
      have hend := run_endLoop (P := P) ho (by rw [hs]; exact hbusy)
      refine ⟨L.pending, _, hend, ?_⟩
      have hpost : Post E β s w β2 (s2.put q.2.next (.loop t1 nt1 ps1 as1 bd1 .exhausted pend dd1)) (w3.putObj c (.loop { L with state := .exhausted, pending := pend })) := by
        have k2 := invokeF_kept hH.kept h2
        exact (p1.trans p2 (k1.trans (.alloc _ _)) k2).trans p3 ((k1.trans (.alloc _ _)).trans k2) (.put _ _ _)
      have hdr : DR β2 (q.1 ++ d) (mark ++ a.defers) := (hm.ext p2.ext).append ((hd.ext p1.ext).ext p2.ext)
      have htr : TR β2 nt t a.tmps := (ht.ext p1.ext).ext p2.ext
      split at h3
      · exact absurd rfl hbusy
      · cases h3
        rw [hp]
        exact hQ { a with defers := mark ++ a.defers } _ β2 hpost htr hdr
      · cases h3
        rw [hp]
        exact wpIn_ret (hQ { a with defers := mark ++ a.defers } _ β2 hpost htr hdr)
      · cases h3
        rw [hp]
        exact wpIn_exit (hQ { a with defers := mark ++ a.defers } _ β2 hpost htr hdr)
      · cases h3
    · cases h3

theorem Behind.mono {nt : Nat} {r : AExit × Fr × List Nat × AS} {s1 : AS} {w1 : World} {β1 : Bond} {Q : Exit → Act → World → Prop} (p : Post E β s w β1 s1 w1) (hk : Kept s s1) (hk' : Kept s1 r.2.2.2) (h : Behind E β s w nt r Q) : Behind E β1 s1 w1 nt r Q :=
  fun a' w' β' p' ht hd => h a' w' β' (p.trans p' hk hk') ht hd

theorem acode_sim (hE : EnvOK E P) {H : Hand} (hH : HandOK E P H) (hD : DrawOK E P H) {rnd rnd' : Option Nat} {n nt : Nat} (c : Code) (hfine : fine c = true) : ∀ (β : Bond) (s : AS) (w : World) (t : Fr) (d : List Nat) (a : Act) (x : AExit × Fr × List Nat × AS) (Q : Exit → Act → World → Prop),
    RR β rnd rnd' → Sim E β s w → TR β nt t a.tmps → DR β d a.defers → acode E H nt rnd c t d s = some x → Behind E β s w nt x Q → c.wpIn (Fw rnd') n P Q a w := by
  induction c with
  | skip => intro β s w t d a x Q _ h ht hd hx hQ; cases hx; exact wpIn_skip (hQ a w β (.refl h) ht hd)
  | label l => intro β s w t d a x Q _ h ht hd hx hQ; cases hx; exact wpIn_label (hQ a w β (.refl h) ht hd)
  | exit id => intro β s w t d a x Q _ h ht hd hx hQ; cases hx; exact wpIn_exit (hQ a w β (.refl h) ht hd)
  | ret => intro β s w t d a x Q _ h ht hd hx hQ; cases hx; exact wpIn_ret (hQ a w β (.refl h) ht hd)
  | goto l => intro β s w t d a x Q _ h ht hd hx hQ; cases hx
  | refuse y => intro β s w t d a x Q _ h ht hd hx hQ; cases hx
  | scope b ih => intro β s w t d a x Q _ h ht hd hx hQ; cases hx
  | region id ops draw =>
    intro β s w t d a x Q _ h ht hd hx hQ
    have hx : region E H nt ops draw t d s = some x := hx
    unfold region at hx
    obtain ⟨t', s', h1, h2⟩ := pbind_some hx
    cases h2
    have hQ' : ∀ a' w' β', a'.defers = a.defers → Post E β s w β' s' w' → TR β' nt t' a'.tmps → Q .normal a' w' := fun a' w' β' e p ht' => hQ a' w' β' p ht' (by rw [e]; exact hd.ext p.ext)
    cases draw with
    | true => exact hD rnd' n nt id ops β s w t a (t', s') Q (by simpa [fine] using hfine) h ht h1 hQ'
    | false => exact wpIn_region (aops_sim hE hH ops.toList 0 rfl h ht (show aops E H nt ops ops.toList t s = some (t', s') from h1) hQ')
  | seq a1 b1 iha ihb =>
    have hf2 : fine a1 = true ∧ fine b1 = true := by simpa [fine] using hfine
    replace iha := iha hf2.1
    replace ihb := ihb hf2.2
    intro β s w t d a x Q hr h ht hd hx hQ
    obtain ⟨ex, t1, d1, s1, h1, h2⟩ := after_some (show after (acode E H nt rnd a1 t d s) (acode E H nt rnd b1) out = some x from hx)
    refine wpIn_seq (iha β s w t d a _ _ hr h ht hd h1 ?_)
    intro a' w' β' p ht' hd'
    rcases h2 with ⟨he, h2⟩ | ⟨he, h2⟩
    · subst he
      exact ihb β' s1 w' t1 d1 a' x Q (hr.ext p.ext) p.sim ht' hd' h2 (hQ.mono p (acode_kept hH.kept a1 _ _ _ _ h1) (acode_kept hH.kept b1 _ _ _ _ h2))
    · cases h2
      have hq := hQ a' w' β' p ht' hd'
      cases ex with
      | normal => exact absurd rfl he
      | exit id => exact hq
      | ret => exact hq
  | cond y a1 b1 iha ihb =>
    have hf2 : fine a1 = true ∧ fine b1 = true := by simpa [fine] using hfine
    replace iha := iha hf2.1
    replace ihb := ihb hf2.2
    intro β s w t d a x Q hr h ht hd hx hQ
    have hx : branch E y (acode E H nt rnd a1) (acode E H nt rnd b1) t d s = some x := hx
    unfold branch at hx
    split at hx
    · rename_i c hc
      have hv := aval_sim h ht hc
      generalize hev : a.eval y = ev at hv
      cases hv
      refine wpIn_cond hev ?_
      cases c with
      | true => exact iha β s w t d a x Q hr h ht hd hx hQ
      | false => exact ihb β s w t d a x Q hr h ht hd hx hQ
    · cases hx
  | block id c ih =>
    replace ih := ih hfine
    intro β s w t d a x Q hr h ht hd hx hQ
    obtain ⟨ex, t1, d1, s1, h1, h2⟩ := after_some (show after (acode E H nt rnd c t d s) (out .normal) (inBlock id) = some x from hx)
    refine wpIn_block (ih β s w t d a _ _ hr h ht hd h1 ?_)
    intro a' w' β' p ht' hd'
    rcases h2 with ⟨he, h2⟩ | ⟨he, h2⟩
    · subst he
      cases h2
      exact hQ a' w' β' p ht' hd'
    · cases ex with
      | normal => exact absurd rfl he
      | ret => cases h2; exact hQ a' w' β' p ht' hd'
      | exit j =>
        cases h2
        have hq := hQ a' w' β' p ht' hd'
        show if j = id then Q .normal a' w' else Q (.exit j) a' w'
        by_cases e : j = id
        · rw [if_pos e]
          subst e
          have hb : Nat.beq j j = true := Nat.beq_refl j
          simp only [hb, cond_true] at hq
          exact hq
        · rw [if_neg e]
          have hb : Nat.beq j id = false := Bool.eq_false_iff.2 fun h => e (Nat.eq_of_beq_eq_true h)
          simp only [hb, cond_false] at hq
          exact hq
  | loop c ih =>
    replace ih := ih hfine
    intro β s w t d a x Q hr h ht hd hx hQ
    refine wpIn_loop_rounds H.fuel ?_
    have key : ∀ m β s w t d a x, RR β rnd rnd' → Sim E β s w → TR β nt t a.tmps → DR β d a.defers → loopN (acode E H nt rnd c) m t d s = some x → Behind E β s w nt x Q → Code.roundsIn (Fw rnd') n P c Q m a w := by
      intro m
      induction m with
      | zero => intro β s w t d a x hr h ht hd hx; cases hx
      | succ m ihm =>
        intro β s w t d a x hr h ht hd hx hQ
        obtain ⟨ex, t1, d1, s1, h1, h2⟩ := after_some (show after (acode E H nt rnd c t d s) (loopN (acode E H nt rnd c) m) out = some x from hx)
        rw [roundsIn_succ]
        refine ih β s w t d a _ _ hr h ht hd h1 ?_
        intro a' w' β' p ht' hd'
        rcases h2 with ⟨he, h2⟩ | ⟨he, h2⟩
        · subst he
          exact ihm β' s1 w' t1 d1 a' x (hr.ext p.ext) p.sim ht' hd' h2 (hQ.mono p (acode_kept hH.kept c _ _ _ _ h1) (loopN_kept (fun t d s x h => acode_kept hH.kept c t d s x h) _ _ _ _ _ h2))
        · cases h2
          have hq := hQ a' w' β' p ht' hd'
          cases ex with
          | normal => exact absurd rfl he
          | exit id => exact hq
          | ret => exact hq
    exact key _ β s w t d a x hr h ht hd hx hQ
  | rangeFunc f ps as bd _ _ =>
    intro β s w t d a x Q hr h ht hd hx hQ
    exact rangeOver_sim hH hr (by simpa [fine] using hfine) h ht hd (show rangeOver E H nt rnd f ps.toList as bd t d s = some x from hx) hQ
end Go.Ev
