/- Calls, rounds; the machine by fuel. -/
import Derived.Test.YtgglmmipdfcbpaaDoorEvC4
namespace Go.Ev
variable {E : Env} {β β' : Bond} {s s' : AS} {w w' : World} {P : Program}

theorem ofList_tr {args args' : List Value} (ha : All2 (VR β) args args') (m : Nat) :
    TR β (Nat.add args.length (Nat.sub m args.length)) (ofList args 0 .nil) (args'.toArray ++ Array.replicate (m - args'.toArray.size) undef) := by
  have hl := ha.len
  refine ⟨?_, fun i v e => ?_⟩
  · show _ = args.length + (m - args.length)
    simp [hl]
  · rw [get_ofList] at e
    split at e
    · rename_i hi
      obtain ⟨b, h1, h2⟩ := ha.get e
      have hi' : i < args'.length := by omega
      refine ⟨b, ?_, h2⟩
      rw [Array.getElem?_append_left (by simpa using hi')]
      simpa using h1
    · cases e
theorem enter_run (hE : EnvOK E P) {f : FuncId} {fn : Func} {c : Code} (hf : E.fn f = some fn) (hc : fn.body = some c) (args : Array Value) (w : World) : (callFunc f args).run P w = .ok (.enter f args) w := by
  simp [callFunc, hE.fn _ _ hf, hE.name _ _ hf, hc]
theorem acallF_sim (hE : EnvOK E P) {H : Hand} (hH : HandOK E P H) (hD : DrawOK E P H) {f : FuncId} {args args' : List Value} {r : Value × AS} (hr : acallF E H f args s = some r) (h : Sim E β s w) (ha : All2 (VR β) args args') :
    (callFunc f args'.toArray).run P w = .ok (.enter f args'.toArray) w ∧ ∀ n, CallsIn (Fw none) n P f args'.toArray w (Ends E β s w r) := by
  obtain ⟨fn, hf, hr⟩ := obind_some hr
  obtain ⟨c, hc, hr⟩ := obind_some hr
  refine ⟨enter_run hE hf hc _ _, fun n => callsIn_of_wp_marks (hE.fn _ _ hf) hc trivial ?_ rfl⟩
  unfold ended at hr
  cases hx : acode E H (Nat.add args.length (Nat.sub fn.ntmps args.length)) none c (ofList args 0 .nil) [] s with
  | none => rw [hx] at hr; cases hr
  | some p =>
    rw [hx] at hr
    obtain ⟨ex, t, d, s1⟩ := p
    have k := acode_kept hH.kept c _ _ _ _ hx
    refine acode_sim hE hH hD (rnd := none) (rnd' := none) c (hE.fine _ _ _ hf hc) β s w _ [] _ _ _ trivial h (ofList_tr ha fn.ntmps) .nil hx ?_
    intro a' w' β' p ht hd
    have fin : leave E fn.results.toList (out .ret) t d s1 = some r → LeavesInM (Fw none) n P fn a'.tmps (Ends E β s w r) a'.defers .returning w' := by
      intro hr
      obtain ⟨s2, h1, hr⟩ := obind_some hr
      obtain ⟨vs, h2, hr⟩ := obind_some hr
      cases hr
      refine takeAll_sim d hd p.sim h1 fun w'' p' => ?_
      obtain ⟨v', h3, h4⟩ := results_sim hE p'.sim ht h2
      exact ⟨v', h3, v', β', rfl, p.trans p' k (takeAll_kept d h1), h4⟩
    cases ex with
    | normal => exact fin hr
    | ret => exact fin hr
    | exit id => cases hr

theorem setParams_sim {nt : Nat} : ∀ (ps : List Tmp) {vs vs' : List Value} {t t' : Fr} {tmps : Array Value}, setParams nt ps vs t = some t' → All2 (VR β) vs vs' → TR β nt t tmps →
    ps.length = vs'.length ∧ TR β nt t' ((ps.zip vs').foldl (fun tmps x => tmps.setIfInBounds x.1 x.2) tmps) := by
  intro ps
  induction ps with
  | nil =>
    intro vs vs' t t' tmps hr ha ht
    cases ha with
    | nil => cases hr; exact ⟨rfl, ht⟩
    | cons _ _ => cases hr
  | cons p ps ih =>
    intro vs vs' t t' tmps hr ha ht
    cases ha with
    | nil => cases hr
    | cons hv ha =>
      obtain ⟨h1, h2⟩ := only_some hr
      obtain ⟨h3, h4⟩ := ih h2 ha (ht.put (le_of_ble h1) hv)
      exact ⟨by simpa using h3, h4⟩
theorem run_yield {c : Nat} {L : Loop} (ho : w.heap[c]? = some (.loop L)) {args : List Value} (hl : L.params.toList.length = args.length) :
    (Instr.yield c args.toArray).run P w = .ok (.round c L.fn ((L.params.toList.zip args).foldl (fun tmps x => tmps.setIfInBounds x.1 x.2) L.tmps) L.assign L.body) w := by
  have h1 : ¬ args.toArray.size ≠ L.params.size := by simpa using hl.symm
  have h2 : (L.params.zip args.toArray).foldl (fun tmps (x : Tmp × Value) => tmps.setIfInBounds x.1 x.2) L.tmps = (L.params.toList.zip args).foldl (fun tmps x => tmps.setIfInBounds x.1 x.2) L.tmps := by
    rw [← Array.foldl_toList, Array.toList_zip]
  unfold Instr.yield
  rw [Sem.run_bind, run_getLoop ho, Result.andThen_ok, if_neg h1, ← h2]
  rfl

theorem endRound_sim (h : Sim E β s w) {l c sh : Nat} {g : Gr} (hl : β l = some (c, sh, g)) {e : AExit} {r : Value × AS} (hr : endRound l e s = some r) {a : Act} {R : Ending → World → Prop}
    (hR : ∀ v w', Post E β s w β r.2 w' → VR β r.1 v → R (.returned v) w') : roundPost P c R (exitOf e) a w := by
  unfold endRound at hr
  split at hr
  · rename_i hb
    obtain ⟨L, ho, _, _, _, _, _, _, _, hw⟩ := loop_wrote h hl hb
    cases e with
    | normal => cases hr; exact ⟨_, _, run_endRound none ho, hR _ _ (hw _ _) (.bool _)⟩
    | ret => cases hr; exact ⟨_, _, run_endRound (some .ret) ho, hR _ _ (hw _ _) (.bool _)⟩
    | exit id => cases hr; exact ⟨_, _, run_endRound (some (.exit id)) ho, hR _ _ (hw _ _) (.bool _)⟩
  · cases hr
theorem around_sim (hE : EnvOK E P) {H : Hand} (hH : HandOK E P H) (hD : DrawOK E P H) {l : Nat} {args args' : List Value} {r : Value × AS} (hr : around E H l args s = some r) (h : Sim E β s w) {c sh : Nat} {g : Gr} (hl : β l = some (c, sh, g)) (ha : All2 (VR β) args args') :
    ∃ f tmps as bd, (Instr.yield c args'.toArray).run P w = .ok (.round c f tmps as bd) w ∧ ∀ n, RoundIn (Fw none) n P c f tmps as bd w (Ends E β s w r) := by
  unfold around at hr
  split at hr
  · rename_i t nt ps as bd st pend dd hb
    obtain ⟨t1, h1, hr⟩ := obind_some hr
    obtain ⟨L, ho, ht, hp, has, hbd, _, _, _, _⟩ := loop_wrote h hl hb
    have hfine := loop_fine h hl hb
    obtain ⟨hlen, ht1⟩ := setParams_sim ps h1 ha ht
    refine ⟨L.fn, _, L.assign, L.body, run_yield ho (by rw [hp]; exact hlen), fun n => roundIn_of_wpIn trivial ?_⟩
    rw [hp, has, hbd]
    split at hr
    · rename_i t2 s2 hc
      have k1 := acode_kept hH.kept as _ _ _ _ hc
      refine acode_sim hE hH hD (rnd := some l) (rnd' := some c) as hfine.1 β s w t1 [] _ _ _ ⟨sh, g, hl⟩ h ht1 .nil hc ?_
      intro a1 w1 β1 p1 ht2 hd2
      unfold bodyOf at hr
      split at hr
      · rename_i t0 nt0 ps0 as0 bd0 pend0 dd0 hb0
        obtain ⟨L2, ho2, _, _, _, _, hs2, hq2, _, hw2⟩ := loop_wrote p1.sim (p1.ext _ _ hl) hb0
        have p2 := hw2 .busy pend0
        refine ⟨_, run_beginRound ho2 hs2, ?_⟩
        split at hr
        · rename_i e t3 s3 hc3
          have k3 := acode_kept hH.kept bd _ _ _ _ hc3
          subst hq2
          refine acode_sim hE hH hD (rnd := some l) (rnd' := some c) bd hfine.2 β1 _ _ t2 [] _ _ _ ⟨sh, g, p1.ext _ _ hl⟩ p2.sim ht2 hd2 hc3 ?_
          intro a3 w3 β3 p3 ht3 hd3
          refine endRound_sim p3.sim (p3.ext _ _ (p1.ext _ _ hl)) hr fun v w4 p4 hv => ?_
          have kp : Kept s2 (s2.put l (.loop t0 nt0 ps0 as0 bd0 .busy L2.pending dd0)) := .put _ _ _
          have k4 := endRound_kept hr
          exact ⟨v, β3, rfl, ((p1.trans p2 k1 kp).trans p3 (k1.trans kp) k3).trans p4 ((k1.trans kp).trans k3) k4, hv⟩
        · cases hr
      · cases hr
    · cases hr
  · cases hr

/-- Calls that are told by themselves. -/
structure PrimOK (E : Env) (P : Program) : Prop where
  kept : ∀ f p args s r, E.prim f = some p → p args s = some r → Kept s r.2
  call : ∀ f p args s r, E.prim f = some p → p args s = some r → ∀ β w args', Sim E β s w → All2 (VR β) args args' →
    (callFunc f args'.toArray).run P w = .ok (.enter f args'.toArray) w ∧ ∀ n, CallsIn (Fw none) n P f args'.toArray w (Ends E β s w r)
theorem acall_some {H : Hand} {f : FuncId} {args : List Value} {r : Value × AS} (hr : acall E H f args s = some r) : (∃ p, E.prim f = some p ∧ p args s = some r) ∨ acallF E H f args s = some r := by
  unfold acall at hr
  cases hp : E.prim f with
  | none => rw [hp] at hr; exact .inr hr
  | some p => rw [hp] at hr; exact .inl ⟨p, rfl, hr⟩
theorem hand_ok (hE : EnvOK E P) (hP : PrimOK E P) (hD : ∀ H, HandOK E P H → DrawOK E P H) : ∀ n, HandOK E P (hand E n) := by
  intro n
  induction n with
  | zero => exact ⟨⟨fun f args s r h => (by cases h), fun l args s r h => (by cases h)⟩, fun f args s r h => (by cases h), fun l args s r h => (by cases h)⟩
  | succ n ih =>
    refine ⟨⟨fun f args s r h => ?_, fun l args s r h => around_kept ih.kept h⟩, fun f args s r h β w args' hs ha => ?_, fun l args s r h β w args' c sh g hs hl ha => around_sim hE ih (hD _ ih) h hs hl ha⟩
    · rcases acall_some h with ⟨p, h1, h2⟩ | h
      · exact hP.kept f p args s r h1 h2
      · exact acallF_kept ih.kept h
    · rcases acall_some h with ⟨p, h1, h2⟩ | h
      · exact hP.call f p args s r h1 h2 β w args' hs ha
      · exact acallF_sim hE ih (hD _ ih) h hs ha
/-- What the evaluator tells of a call is so. -/
theorem hand_calls (hE : EnvOK E P) (hP : PrimOK E P) (hD : ∀ H, HandOK E P H → DrawOK E P H) {n : Nat} {f : FuncId} {args args' : List Value} {r : Value × AS} (hr : (hand E n).call f args s = some r) (h : Sim E β s w) (ha : All2 (VR β) args args') :
    Calls P f args'.toArray w (Ends E β s w r) :=
  callsIn_wide.1 (((hand_ok hE hP hD n).call f args s r hr β w args' h ha).2 0)
end Go.Ev
