/- Calls; regions in the text's order. -/
import Derived.Test.YtgglmmipdfcbpaaDoorEvK
namespace Go.Ev
variable {E : Env} {β β' : Bond} {s s' : AS} {w w' : World} {P : Program}

/-- The fence that lets all in; in a round, or not. -/
def Fw (rnd : Option Nat) : Fence := { Fence.wide with round := rnd }
theorem fw_fn (rnd : Option Nat) (f : FuncId) : (Fw rnd).fn f := trivial
theorem fw_depth (rnd : Option Nat) {n : Nat} : (Fw rnd).depth.isSome = true → 1 ≤ n := fun h => by cases h

/-- How a call ends that the evaluator tells. -/
def Ends (E : Env) (β : Bond) (s : AS) (w : World) (r : Value × AS) : Ending → World → Prop := fun e w' => ∃ v' β', e = .returned v' ∧ Post E β s w β' r.2 w' ∧ VR β' r.1 v'
structure HandOK (E : Env) (P : Program) (H : Hand) : Prop where
  kept : HandKept H
  call : ∀ f args s r, H.call f args s = some r → ∀ β w args', Sim E β s w → All2 (VR β) args args' →
    (callFunc f args'.toArray).run P w = .ok (.enter f args'.toArray) w ∧ ∀ n, CallsIn (Fw none) n P f args'.toArray w (Ends E β s w r)
  round : ∀ l args s r, H.round l args s = some r → ∀ β w args' c sh g, Sim E β s w → β l = some (c, sh, g) → All2 (VR β) args args' →
    ∃ f tmps as bd, (Instr.yield c args'.toArray).run P w = .ok (.round c f tmps as bd) w ∧ ∀ n, RoundIn (Fw none) n P c f tmps as bd w (Ends E β s w r)

/-- What is to be shown behind an operation. -/
def Goes (E : Env) (β : Bond) (s : AS) (w : World) (a : Act) (dst : Option Tmp) (r : Option Value × AS) (K : Act → World → Prop) : Prop :=
  ∀ v' w' β', Post E β s w β' r.2 w' → (∀ v, r.1 = some v → VR β' v v') → (r.1 = none → v' = undef) → K (a.put dst v') w'

theorem invoke_sim {H : Hand} (hH : HandOK E P H) (h : Sim E β s w) {fv fv' : Value} {args args' : List Value} {r : Value × AS} (hf : VR β fv fv') (ha : All2 (VR β) args args') (hr : Ev.invoke H fv args s = some r) :
    ∃ d, (Deferred.ofValue fv' args'.toArray).run P w = .ok d w ∧
      ((∃ f as, (Go.invoke d.target d.args).run P w = .ok (.enter f as) w ∧ ∀ n, CallsIn (Fw none) n P f as w (Ends E β s w r)) ∨
       (∃ l f tmps as bd, (Go.invoke d.target d.args).run P w = .ok (.round l f tmps as bd) w ∧ ∀ n, RoundIn (Fw none) n P l f tmps as bd w (Ends E β s w r))) := by
  unfold Ev.invoke at hr
  split at hr
  · rename_i g first captured
    cases hf with
    | func _ h1 h2 h3 h4 =>
      rename_i first' captured'
      have hall : All2 (VR β) (first.toList ++ args ++ captured.toList) (first'.toList ++ args' ++ captured'.toList) :=
        ((All2.of_get (by simpa using h1) fun i x y hx hy => h3 i x y (by simpa using hx) (by simpa using hy)).append ha).append (All2.of_get (by simpa using h2) fun i x y hx hy => h4 i x y (by simpa using hx) (by simpa using hy))
      obtain ⟨h5, h6⟩ := hH.call _ _ _ _ hr β w _ h hall
      have e : (first' ++ args'.toArray) ++ captured' = (first'.toList ++ args' ++ captured'.toList).toArray := by apply Array.ext'; simp
      refine ⟨{ target := .fn (.func g) captured', args := first' ++ args'.toArray }, rfl, .inl ⟨g, _, ?_, h6⟩⟩
      rw [← h5, ← e]
      rfl
  · rename_i l first captured
    cases hf with
    | yield hb =>
      obtain ⟨f, tmps, as, bd, h5, h6⟩ := hH.round _ _ _ _ hr β w _ _ _ _ h hb (show All2 (VR β) ((#[] : Array Value).toList ++ args) args' from ha)
      refine ⟨{ target := .fn (.yield _) #[], args := #[] ++ args'.toArray }, rfl, .inr ⟨_, f, tmps, as, bd, ?_, h6⟩⟩
      rw [← h5]
      simp [Go.invoke]
  · cases hr
theorem oper_wp (hE : EnvOK E P) {H : Hand} (hH : HandOK E P H) {rnd : Option Nat} {n nt : Nat} {o : Oper} {t : Fr} {a : Act} {Q : Exit → Act → World → Prop} {K : Act → World → Prop} (h : Sim E β s w) (ht : TR β nt t a.tmps)
    {r : Option Value × AS} (hr : aop o.op E H t s = some r) (hK : Goes E β s w a o.dst r K) : o.wpIn (Fw rnd) n P a w K Q := by
  refine ⟨fun f _ => fw_fn rnd f, ?_⟩
  have hnd : ∀ c, o.op ≠ .defer c := fun c e => by rw [e] at hr; cases hr
  have hrnd : (Fw rnd).round = rnd := rfl
  rw [Oper.semAt_eq _ _ _ hnd]
  by_cases hcall : ∃ c f, o.op = .call c ∧ c.callee = .value f
  · obtain ⟨c, f, hop, hc⟩ := hcall
    rw [hop] at hr
    obtain ⟨args, hargs, hr⟩ := obind_some (show oCall c E H t s = some r from hr)
    have hr : callOf c.callee c.argTypes.toList args E H t s = some r := hr
    rw [hc] at hr
    obtain ⟨fv, hf, hr⟩ := obind_some (show obind (aval E t f) _ = some r from hr)
    obtain ⟨v1, s1, h1, rfl⟩ := vals_some hr
    have ha := avals_sim h ht hargs
    obtain ⟨d, hd, hinv⟩ := invoke_sim hH h (aval_sim h ht hf) ha h1
    have hargs' : c.args.map a.eval = (c.args.toList.map a.eval).toArray := by apply Array.ext'; simp
    have hex : (execOp a.eval o).run P w = (Go.invoke d.target d.args).run P w := by
      simp only [execOp, hop, resolve, hc, hargs', Sem.run_bind, hd, Result.andThen_ok]
    have hends : ∀ e w', Ends E β s w (v1, s1) e w' → (match e, w' with
        | .returned v, w'' => K (a.put o.dst v) w''
        | .panicked chain, w'' => Q (.panic chain) a w''
        | .outgrown, _ => LetsOut Q) := by
      rintro e w' ⟨v', β', rfl, p, hv⟩
      exact hK v' w' β' p (fun v e => by cases e; exact hv) (fun e => by cases e)
    rw [hex]
    rcases hinv with ⟨f', as, h2, h3⟩ | ⟨l, f', tmps, as, bd, h2, h3⟩
    · rw [h2]
      refine ⟨fw_depth rnd, ?_⟩
      have h4 := h3 (n - 1)
      refine ⟨trivial, fun cs hroom => ?_⟩
      obtain ⟨e, w', fr, h5, h6⟩ := h4.2 cs hroom
      exact ⟨e, w', fr, by have := hends e w' h5; cases e <;> exact this, h6⟩
    · rw [h2]
      refine ⟨fw_depth rnd, ?_⟩
      have h4 := h3 (n - 1)
      exact RoundIn.mono h4 fun e w' h5 => by have := hends e w' h5; cases e <;> exact this
  · obtain ⟨res, w', β', h1, h2, h3⟩ := aop_sim (P := P) hE H h ht hr (fun c f e1 e2 => hcall ⟨c, f, e1, e2⟩)
    rw [h1]
    generalize hr1 : r.1 = r1 at h2
    cases h2 with
    | value hv => exact hK _ w' β' h3 (fun v e => by rw [hr1] at e; cases e; exact hv) (fun e => by rw [hr1] at e; cases e)
    | skip => exact hK _ w' β' h3 (fun v e => by rw [hr1] at e; cases e) (fun _ => rfl)

/-! guards, slots -/
theorem putDst_sim {nt : Nat} {t t' : Fr} {a : Act} {dst : Option Tmp} {v : Option Value} {v' : Value} (ht : TR β nt t a.tmps) (hp : putDst nt t dst v = some t') (hv : ∀ u, v = some u → VR β u v') (hn : v = none → v' = undef) : TR β nt t' (a.put dst v').tmps := by
  cases dst with
  | none => cases hp; exact ht
  | some d =>
    obtain ⟨h1, h2⟩ := only_some hp
    cases h2
    refine ht.put (le_of_ble h1) ?_
    cases v with
    | none => rw [hn rfl]; exact .tuple rfl (fun i v v' h => by simp at h)
    | some u => exact hv u rfl
theorem wanted_sim {nt : Nat} {t : Fr} {a : Act} {all : Array Oper} {o : Oper} {b : Bool} (ht : TR β nt t a.tmps) (hw : wanted all t o.guard = some b) : Region.wanted o (yielded all a.tmps) = b := by
  unfold Region.wanted
  cases hg : o.guard with
  | none => rw [hg] at hw; cases hw; rfl
  | some p =>
    obtain ⟨j, want⟩ := p
    rw [hg] at hw
    have hw : yieldedAt all.toList t j want = some b := hw
    unfold yieldedAt at hw
    split at hw
    · rename_i q hq
      split at hw
      · rename_i d hd
        have hy : ∀ v', a.tmps[d]? = some v' → yielded all a.tmps j = match v' with | .bool b => some b | _ => none := by
          intro v' hv'
          unfold yielded
          rw [show all[j]? = some q by simpa using hq]
          simp only [Option.bind_some, hd, hv']
          cases v' <;> rfl
        split at hw
        · rename_i b' hb
          cases hw
          obtain ⟨v', h1, h2⟩ := ht.get d _ hb
          cases h2
          show (yielded all a.tmps j == some want) = (b' == want)
          rw [hy _ h1]
          rfl
        · rename_i vs hb
          cases hw
          obtain ⟨v', h1, h2⟩ := ht.get d _ hb
          obtain ⟨vs', rfl, _⟩ := h2.of_tuple
          show (yielded all a.tmps j == some want) = false
          rw [hy _ h1]
          rfl
        · cases hw
      · cases hw
    · cases hw

/-- A region in the text's order. -/
theorem aops_sim (hE : EnvOK E P) {H : Hand} (hH : HandOK E P H) {rnd : Option Nat} {n nt : Nat} {all : Array Oper} {Q : Exit → Act → World → Prop} : ∀ (l : List Oper) (k : Nat) {β : Bond} {s : AS} {w : World} {t : Fr} {a : Act} {r : Fr × AS},
    l = all.toList.drop k → Sim E β s w → TR β nt t a.tmps → aops E H nt all l t s = some r →
    (∀ a' w' β', a'.defers = a.defers → Post E β s w β' r.2 w' → TR β' nt r.1 a'.tmps → Q .normal a' w') → wpOpsIn (Fw rnd) n P all Q ((List.range all.size).drop k) a w := by
  intro l
  induction l with
  | nil =>
    intro k β s w t a r hl h ht hr hQ
    cases hr
    have hk : all.size ≤ k := by
      have := congrArg List.length hl
      simp at this
      omega
    rw [List.drop_eq_nil_of_le (by simpa using hk)]
    exact hQ a w β rfl (.refl h) ht
  | cons o l ih =>
    intro k β s w t a r hl h ht hr hQ
    have hlen := congrArg List.length hl
    simp at hlen
    have hk : k < all.size := by omega
    have ho : all[k]? = some o := by
      have : (all.toList.drop k)[0]? = some o := by rw [← hl]; rfl
      simpa using this
    have hl' : l = all.toList.drop (k + 1) := by
      have := congrArg List.tail hl
      simpa using this
    have hdrop : (List.range all.size).drop k = k :: (List.range all.size).drop (k + 1) := by
      rw [List.drop_eq_getElem_cons (by simpa using hk)]; simp
    rw [hdrop]
    obtain ⟨b, hw, hr⟩ := obind_some (show obind (wanted all t o.guard) _ = some r from hr)
    have hwant := wanted_sim ht hw
    simp only [wpOpsIn, ho]
    rw [hwant]
    cases b with
    | false =>
      obtain ⟨t', hp, hr⟩ := obind_some (show obind (putDst nt t o.dst none) _ = some r from hr)
      rw [if_neg (by decide)]
      refine ⟨fun f _ => fw_fn rnd f, ?_⟩
      refine ih (k + 1) hl' h (putDst_sim ht hp (fun u e => by cases e) (fun _ => rfl)) hr fun a' w' β' hd p ht' => hQ a' w' β' ?_ p ht'
      rw [hd]; cases o.dst <;> rfl
    | true =>
      obtain ⟨v, s1, h1, hr⟩ := pbind_some (show pbind (aop o.op E H t s) _ = some r from hr)
      obtain ⟨t', hp, hr⟩ := obind_some hr
      rw [if_pos rfl]
      have hk1 := aop_kept hH.kept h1
      refine oper_wp hE hH h ht h1 fun v' w' β' p hv hn => ?_
      refine ih (k + 1) hl' p.sim (putDst_sim (ht.ext p.ext) hp hv hn) hr fun a' w'' β'' hd p' ht' => hQ a' w'' β'' ?_ (p.trans p' hk1 ?_) ht'
      · rw [hd]; cases o.dst <;> rfl
      · exact aops_kept hH.kept l hr
end Go.Ev
