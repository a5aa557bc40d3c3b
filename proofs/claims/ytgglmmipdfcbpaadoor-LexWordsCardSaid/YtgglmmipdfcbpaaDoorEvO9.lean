/- All operations but calls of functions. -/
import Derived.Test.YtgglmmipdfcbpaaDoorEvO8
namespace Go.Ev
variable {E : Env} {β β' : Bond} {s s' : AS} {w w' : World} {P : Program}

theorem DidV.next {r : Option Value × AS} {x : Sem Value} (h : DidV E P β s w r x) : Did E P β s w r.2 (do pure (.value (← x))) r.1 := by
  obtain ⟨v', w', β', u, h1, h2, h3, h4⟩ := h
  exact ⟨.value v', w', β', by simp only [Sem.run_bind, h1, Result.andThen_ok, Sem.run_pure], by rw [h3]; exact .value h4, h2⟩
theorem two {α α' : Type} {R : α → α' → Prop} {a b : α} {l : List α'} (h : All2 R [a, b] l) : ∃ a' b', l = [a', b'] ∧ R a a' ∧ R b b' := by
  cases h with
  | cons h1 h2 => cases h2 with
    | cons h3 h4 => cases h4; exact ⟨_, _, rfl, h1, h3⟩
theorem one1 {α α' : Type} {R : α → α' → Prop} {a : α} {l : List α'} (h : All2 R [a] l) : ∃ a', l = [a'] ∧ R a a' := by
  cases h with
  | cons h1 h2 => cases h2; exact ⟨_, rfl, h1⟩
theorem builtin_sim (hE : EnvOK E P) (h : Sim E β s w) {b : Builtin} {ts : Array TypeId} {ty : TypeId} {cs : Array Bool} {args args' : List Value} {r : Option Value × AS} (ha : All2 (VR β) args args') (hr : Ev.builtin E b ts.toList args s = some r) :
    Did E P β s w r.2 (Go.builtin b ts ty cs args'.toArray) r.1 := by
  obtain ⟨tl⟩ := ts
  unfold Ev.builtin at hr
  split at hr
  · rename_i t ts x heq
    cases heq
    obtain ⟨v, h1, rfl⟩ := val_some hr
    obtain ⟨x', rfl, hx⟩ := one1 ha
    obtain ⟨h2, h3⟩ := len_sim (P := P) (ts := (t :: ts).toArray) (ty := ty) hE h (by simp) hx h1
    exact DidV.next (r := (some v, s)) (.same h h2 (.bare h3))
  · rename_i t ts x heq
    cases heq
    obtain ⟨v, h1, rfl⟩ := val_some hr
    obtain ⟨x', rfl, hx⟩ := one1 ha
    obtain ⟨h2, h3⟩ := cap_sim (P := P) (ts := (t :: ts).toArray) (ty := ty) hE h (by simp) hx h1
    exact DidV.next (r := (some v, s)) (.same h h2 (.bare h3))
  · rename_i t us x y heq
    cases heq
    obtain ⟨v, s1, h1, rfl⟩ := vals_some hr
    obtain ⟨x', y', rfl, hx, hy⟩ := two ha
    obtain ⟨e, he, h1⟩ := obind_some h1
    obtain ⟨z, hz, h1⟩ := obind_some h1
    cases z with
    | true => exact DidV.next (r := (some v, s1)) (append_simZ (ts := (t :: us).toArray) hE h (by simp) hz he hx hy h1)
    | false => exact DidV.next (r := (some v, s1)) (append_simV (ts := (t :: us).toArray) hE h (by simp) hz he hx hy h1)
  · rename_i t us x y heq
    cases heq
    obtain ⟨x', y', rfl, hx, hy⟩ := two ha
    exact DidV.next (copy_sim (ts := (t :: us).toArray) hE h (by simp) hx hy hr)
  · rename_i k x k' y
    obtain ⟨hk, hr⟩ := only_some hr
    obtain ⟨v, h1, rfl⟩ := val_some hr
    cases h1
    have := kno_inj _ _ hk
    subst this
    obtain ⟨x', y', rfl, hx, hy⟩ := two ha
    cases hx; cases hy
    refine DidV.next (r := (_, s)) (.same h (v' := .int k (if y < x then y else x)) (by simp [Builtin.min_, Builtin.min2]) ?_)
    rw [ilt_eq]
    by_cases hlt : y < x
    · simp only [hlt, decide_true, cond_true, if_true]; exact .int _ _
    · simp only [hlt, decide_false, cond_false, if_false]; exact .int _ _
  · rename_i k x k' y
    obtain ⟨hk, hr⟩ := only_some hr
    obtain ⟨v, h1, rfl⟩ := val_some hr
    cases h1
    have := kno_inj _ _ hk
    subst this
    obtain ⟨x', y', rfl, hx, hy⟩ := two ha
    cases hx; cases hy
    refine DidV.next (r := (_, s)) (.same h (v' := .int k (if y > x then y else x)) (by simp [Builtin.max_, Builtin.max2]) ?_)
    rw [ilt_eq]
    by_cases hlt : x < y
    · simp only [hlt, decide_true, cond_true, if_true]; exact .int _ _
    · simp only [hlt, decide_false, cond_false, if_false]; exact .int _ _
  · cases hr

theorem did_mk (hs : Sim E β s w) {y : Sem Value} {u : Option Value} {r : Option Value × AS} (hr : val u s = some r) (hy : ∀ v, u = some v → ∃ v', y.run P w = .ok v' w ∧ VR β v v') : Did E P β s w r.2 (do pure (.value (← y))) r.1 := by
  obtain ⟨v, h1, rfl⟩ := val_some hr
  obtain ⟨v', h2, h3⟩ := hy v h1
  exact DidV.next (r := (some v, s)) (.same hs h2 h3)
theorem opt_sim {nt : Nat} {t : Fr} {a : Act} (h : Sim E β s w) (ht : TR β nt t a.tmps) {x : Option Operand} {v : Option Value} (hx : opt E t x = some v) : OR β v (x.map a.eval) := by
  unfold opt at hx
  cases x with
  | none => cases hx; exact .none
  | some x =>
    obtain ⟨u, h1, h2⟩ := obind_some hx
    cases h2
    exact .some (aval_sim h ht h1)

/-- An operation that calls no function. -/
theorem aop_sim (hE : EnvOK E P) (H : Hand) {o : Oper} {nt : Nat} {t : Fr} {a : Act} (h : Sim E β s w) (ht : TR β nt t a.tmps) {r : Option Value × AS} (hr : aop o.op E H t s = some r)
    (hnc : ∀ c f, o.op = .call c → c.callee ≠ .value f) : Did E P β s w r.2 (execOp a.eval o) r.1 := by
  have ev := fun {x : Operand} {v : Value} (hx : aval E t x = some v) => aval_sim (x := x) h ht hx
  have ae : ∀ ps : Array (Nat × Operand), Array.map (fun x => (x.fst, a.eval x.snd)) ps = (List.map (fun p => (p.fst, a.eval p.snd)) ps.toList).toArray := fun ps => by apply Array.ext'; simp
  cases hop : o.op <;> rw [hop] at hr <;> simp only [execOp, hop]
  case move x =>
    obtain ⟨v, h1, rfl⟩ := val_some (show val (aval E t x) s = some r from hr)
    exact ⟨_, w, β, rfl, .value (ev h1), .refl h⟩
  case assign x =>
    obtain ⟨v, h1, rfl⟩ := val_some (show val (aval E t x) s = some r from hr)
    exact ⟨_, w, β, rfl, .value (ev h1), .refl h⟩
  case pick c x y =>
    have hr : oPick c x y E H t s = some r := hr
    unfold oPick at hr
    split at hr
    · rename_i cb xv yv h1 h2 h3
      cases hr
      have hc := ev h1
      generalize a.eval c = c' at hc
      cases hc
      cases cb
      · exact ⟨_, w, β, by simp [asBool], .value (ev h3), .refl h⟩
      · exact ⟨_, w, β, by simp [asBool], .value (ev h2), .refl h⟩
    · cases hr
  case alloc e =>
    obtain ⟨z, hz, hr⟩ := obind_some (show oAlloc e E H t s = some r from hr)
    obtain ⟨hp, hr⟩ := only_some hr
    obtain ⟨β', h1, p, u, h2, h3⟩ := newVar_sim (P := P) (v' := z) h (by rw [parts_eq]; exact plain_parts hp) hr
    exact DidV.next ⟨_, _, β', u, by simp [Instr.alloc, run_zero hE hz, h1], p, h2, h3⟩
  case box e x =>
    obtain ⟨v, hv, hr⟩ := obind_some (show oBox e x E H t s = some r from hr)
    obtain ⟨β', h1, p, u, h2, h3⟩ := newVar_sim (P := P) (v' := a.eval x) h (by rw [parts_eq]; exact (ev hv).parts) hr
    exact DidV.next ⟨_, _, β', u, by simp [Instr.box, h1], p, h2, h3⟩
  case build ty ps =>
    obtain ⟨vs, hv, hr⟩ := obind_some (show oBuild ty ps E H t s = some r from hr)
    refine did_mk h hr fun v hb => ?_
    have := build_sim (P := P) (w := w) hE (pairs_sim h ht hv) hb
    simpa [ae] using this
  case buildSlice ty len ps =>
    obtain ⟨vs, hv, hr⟩ := obind_some (show oBuildSlice ty len ps E H t s = some r from hr)
    obtain ⟨e, he, hr⟩ := obind_some hr
    obtain ⟨z, n, hz, hr⟩ := pbind_some hr
    obtain ⟨sz, hs, hr⟩ := obind_some hr
    obtain ⟨c, hc, hr⟩ := obind_some hr
    cases hr
    obtain ⟨w', β', h1, h2, h3⟩ := buildSlice_sim (P := P) hE h (pairs_sim h ht hv) he hz hs hc
    refine DidV.next (r := (some _, _)) ⟨_, w', β', _, ?_, h2, rfl, h3⟩
    rw [← h1]
    simp [ae]
  case insert ty m k x =>
    obtain ⟨mv, hm, hr⟩ := obind_some (show oMapUpdate ty m k x E H t s = some r from hr)
    obtain ⟨kv, hk, hr⟩ := obind_some hr
    obtain ⟨xv, hx, hr⟩ := obind_some hr
    obtain ⟨s1, h1, rfl⟩ := nothing_some hr
    obtain ⟨w', h2, p⟩ := mapUpdate_sim (P := P) hE h (ev hm) (ev hk) (ev hx) h1
    exact ⟨.skip, w', β, by simp [h2], .skip, p⟩
  case mapUpdate ty m k x =>
    obtain ⟨mv, hm, hr⟩ := obind_some (show oMapUpdate ty m k x E H t s = some r from hr)
    obtain ⟨kv, hk, hr⟩ := obind_some hr
    obtain ⟨xv, hx, hr⟩ := obind_some hr
    obtain ⟨s1, h1, rfl⟩ := nothing_some hr
    obtain ⟨w', h2, p⟩ := mapUpdate_sim (P := P) hE h (ev hm) (ev hk) (ev hx) h1
    exact ⟨.skip, w', β, by simp [h2], .skip, p⟩
  case load ty x =>
    obtain ⟨v, hv, hr⟩ := obind_some (show oLoad ty x E H t s = some r from hr)
    unfold addr at hr
    split at hr
    · rename_i ad
      refine did_mk h hr fun u hl => ?_
      obtain ⟨a', u', h1, h2, h3⟩ := loadVar_sim (P := P) hE h (ev hv) hl
      exact ⟨u', by simp [Instr.loadAt, h1, Instr.sureAddr, h2], h3⟩
    · cases hr
  case store ty x y =>
    obtain ⟨v, hv, hr⟩ := obind_some (show oStore ty x y E H t s = some r from hr)
    unfold addr at hr
    split at hr
    · rename_i ad
      obtain ⟨u, hu, hr⟩ := obind_some hr
      obtain ⟨s1, h1, rfl⟩ := nothing_some hr
      obtain ⟨h2, h1⟩ := only_some h1
      obtain ⟨n, hn, h1⟩ := obind_some h1
      obtain ⟨h3, h1⟩ := only_some h1
      have h3 := eq_of_beq h3
      have hx := ev hv
      generalize a.eval x = x' at hx
      cases hx with
      | ptr o hb =>
        have hy := ev hu
        obtain ⟨w', h4, p⟩ := store_sim (P := P) h hb hy.parts h1
        refine ⟨.skip, w', β, ?_, .skip, p⟩
        have : (a.eval y).cells.size = n := by rw [parts_size, ← hy.parts.len, h3]
        simp [Instr.storeAt, Instr.sureAddr, Go.storeVar, run_size hE hn, this, parts_eq, h4]
    · cases hr
  case nilCheck x =>
    have hr : oNilCheck x E H t s = some r := hr
    unfold oNilCheck at hr
    split at hr
    · cases hr
    · cases hr
    · cases hr
    · cases hr
    · rename_i v h1 h2 h3 h4 hv
      cases hr
      have hx := ev hv
      generalize a.eval x = x' at hx
      refine ⟨.value x', w, β, ?_, .value hx, .refl h⟩
      cases hx <;> first | rfl | exact (h1 rfl).elim | exact (h2 rfl).elim | exact (h3 rfl).elim
    · cases hr
  case binOp op ty x y yt =>
    obtain ⟨u, hu, hr⟩ := obind_some (show oBin op ty x y E H t s = some r from hr)
    obtain ⟨v, hv, hr⟩ := obind_some hr
    refine did_mk h hr fun z hz => ?_
    obtain ⟨h1, h2⟩ := binOp_sim (P := P) (w := w) hE (ev hu) (ev hv) hz
    exact ⟨z, h1, .bare h2⟩
  case unOp op ty x =>
    have hr : oUn op x E H t s = some r := hr
    unfold oUn at hr
    split at hr
    · rename_i k n hv
      refine did_mk h hr fun z hz => ?_
      have hx := ev hv
      generalize a.eval x = x' at hx
      cases hx
      refine ⟨z, run_ofSem hz, ?_⟩
      cases op <;> first | (cases hz; exact .int _ _) | (cases hz; done)
    · rename_i b hv
      refine did_mk h hr fun z hz => ?_
      have hx := ev hv
      generalize a.eval x = x' at hx
      cases hx
      refine ⟨z, run_ofSem hz, ?_⟩
      cases op <;> first | (cases hz; exact .bool _) | (cases hz; done)
    · cases hr
  case convert src dst x =>
    obtain ⟨v, hv, hr⟩ := obind_some (show oConvert src dst x E H t s = some r from hr)
    have hx := ev hv
    generalize a.eval x = x' at hx
    split at hr
    · rename_i e base len cap hs hd
      refine did_mk h hr fun z hz => ?_
      exact toStr_sim (P := P) hE h hd hx hz
    · rename_i e b hs hd
      obtain ⟨v1, s1, h1, rfl⟩ := vals_some hr
      cases hx
      obtain ⟨v', w', β', h2, h3, h4⟩ := ofStr_sim (P := P) hE h hs h1
      exact DidV.next (r := (some v1, s1)) ⟨v', w', β', v1, h2, h3, rfl, h4⟩
    · refine did_mk h hr fun z hz => ?_
      obtain ⟨h1, h2⟩ := convert_sim (P := P) (w := w) hE hx hz
      exact ⟨z, h1, .bare h2⟩
  case makeInterface ty x =>
    have hr : oIface ty x E H t s = some r := hr
    unfold oIface at hr
    split at hr
    · cases hr
    · rename_i v d hni hv hu
      cases hr
      refine DidV.next (r := (some _, s)) (.same h (v' := .iface ty (a.eval x)) ?_ (.iface ty (ev hv)))
      simp only [Instr.makeInterface, Sem.run_bind, run_und hE hu, Result.andThen_ok]
      cases d <;> first | rfl | exact (hni _ _ hv hu).elim
    · cases hr
  case makeFunc fn first captured =>
    have hr : oFunc fn first captured E H t s = some r := hr
    unfold oFunc at hr
    split at hr
    · rename_i f _
      obtain ⟨as, h1, hr⟩ := obind_some hr
      obtain ⟨bs, h2, hr⟩ := obind_some hr
      cases hr
      have ha := avals_sim h ht h1
      have hb := avals_sim h ht h2
      refine DidV.next (r := (some _, s)) (.same h (v' := .func (.func f) (first.map a.eval) (captured.map a.eval)) rfl ?_)
      refine .func f (by simpa using ha.len) (by simpa using hb.len) (fun i v v' hv hv' => ?_) (fun i v v' hv hv' => ?_)
      · obtain ⟨u, h3, r⟩ := ha.get (show as[i]? = some v by simpa using hv)
        rw [show (first.map a.eval)[i]? = (first.toList.map a.eval)[i]? by simp, h3] at hv'
        cases hv'; exact r
      · obtain ⟨u, h3, r⟩ := hb.get (show bs[i]? = some v by simpa using hv)
        rw [show (captured.map a.eval)[i]? = (captured.toList.map a.eval)[i]? by simp, h3] at hv'
        cases hv'; exact r
    · cases hr
  case makeMap ty rs =>
    have hr : oMap ty rs E H t s = some r := hr
    obtain ⟨hm, hr⟩ := only_some hr
    cases hr
    have p := Post.made (o := .map #[] 0) (b := .map [] 0) (g := none) h (.map 0 .nil) (fun f rel n e => by cases e)
    refine DidV.next (r := (some _, _)) ⟨.map (some w.heap.size), _, _, _, ?_, p, rfl, .map (upd_eq _ _ _)⟩
    cases rs with
    | none => simp [Instr.makeMap, newObj, Sem.run, push]
    | some x =>
      obtain ⟨hm1, hm2⟩ : isMapT E ty = true ∧ ∃ k n, x = .const (.int k n) := by
        simp only [mapOk, Bool.and_eq_true] at hm
        refine ⟨hm.1, ?_⟩
        unfold isIntC at hm
        split at hm
        · exact ⟨_, _, rfl⟩
        · cases hm.2
      obtain ⟨k, n, rfl⟩ := hm2
      unfold isMapT at hm1
      split at hm1
      · rename_i kt et hu
        simp [Instr.makeMap, run_und hE hu, Act.eval, asInt, asIntOf, newObj, Sem.run, push]
      · cases hm1
  case makeSlice ty l c =>
    obtain ⟨lv, hl, hr1⟩ := obind_some (show oMakeSlice ty l c E H t s = some r from hr)
    obtain ⟨len, hn, hr2⟩ := obind_some hr1
    obtain ⟨cv, hc, hr3⟩ := obind_some hr2
    obtain ⟨cap, hm, hr4⟩ := obind_some hr3
    obtain ⟨e, he, hr5⟩ := obind_some hr4
    clear hr hr1 hr2 hr3 hr4
    obtain ⟨k, rfl⟩ := nat_some hn
    obtain ⟨k', rfl⟩ := nat_some hm
    have hx := ev hl
    generalize a.eval l = x' at hx
    cases hx
    have hy := ev hc
    generalize a.eval c = y' at hy
    cases hy
    obtain ⟨w', β', h1, h2, u, h3, h4⟩ := makeRow_sim (P := P) (k := k) (k' := k') hE h he hr5
    exact DidV.next ⟨_, w', β', u, h1, h2, h3, h4⟩
  case slice ty x lo hi mx =>
    obtain ⟨v, hv, hr⟩ := obind_some (show oSlice ty x lo hi mx E H t s = some r from hr)
    obtain ⟨lo', hlo, hr⟩ := obind_some hr
    obtain ⟨hi', hhi, hr⟩ := obind_some hr
    obtain ⟨mx', hmx, hr⟩ := obind_some hr
    exact did_mk h hr fun z hz => slice_sim (P := P) hE h (ev hv) (opt_sim h ht hlo) (opt_sim h ht hhi) (opt_sim h ht hmx) hz
  case fieldAddr ty x f =>
    obtain ⟨v, hv, hr⟩ := obind_some (show oFieldAddr ty x f E H t s = some r from hr)
    exact did_mk h hr fun z hz => fieldAddr_sim hE (ev hv) hz
  case field ty x f =>
    obtain ⟨v, hv, hr⟩ := obind_some (show oField ty x f E H t s = some r from hr)
    exact did_mk h hr fun z hz => field_sim hE (ev hv) hz
  case indexAddr ty x i =>
    obtain ⟨v, hv, hr⟩ := obind_some (show oIndexAddr ty x i E H t s = some r from hr)
    obtain ⟨iv, hi, hr⟩ := obind_some hr
    exact did_mk h hr fun z hz => indexAddr_sim hE (ev hv) (ev hi) hz
  case index ty x i =>
    obtain ⟨v, hv, hr⟩ := obind_some (show oIndex ty x i E H t s = some r from hr)
    obtain ⟨iv, hi, hr⟩ := obind_some hr
    exact did_mk h hr fun z hz => index_sim hE (ev hv) (ev hi) hz
  case lookup ty x k ok =>
    obtain ⟨v, hv, hr⟩ := obind_some (show oLookup ty x k ok E H t s = some r from hr)
    obtain ⟨kv, hk, hr⟩ := obind_some hr
    exact did_mk h hr fun z hz => lookup_sim hE h (ev hv) (ev hk) hz
  case range ty x =>
    have hr : oRange ty x E H t s = some r := hr
    unfold oRange at hr
    split at hr
    · rename_i b hu hv
      cases hr
      have hx := ev hv
      generalize a.eval x = x' at hx
      cases hx
      obtain ⟨w', β', h1, h2, h3⟩ := range_sim (P := P) (b := b) hE h hu
      exact DidV.next (r := (some _, _)) ⟨_, w', β', _, h1, h2, rfl, h3⟩
    · cases hr
  case next it str =>
    obtain ⟨hs, hr1⟩ := only_some (show oNext it str E H t s = some r from hr)
    clear hr
    subst hs
    split at hr1
    · rename_i rr hv
      split at hr1
      · rename_i b pos hb
        obtain ⟨v', w', h1, h2, u, h3, h4⟩ := next_sim (P := P) (ty := o.type) h (ev hv) hb hr1
        exact DidV.next ⟨v', w', β, u, h1, h2, h3, h4⟩
      · cases hr1
    · cases hr1
  case typeAssert x xt u ok =>
    obtain ⟨v, hv, hr⟩ := obind_some (show oAssert x u ok E H t s = some r from hr)
    exact did_mk h hr fun z hz => typeAssert_sim hE (ev hv) hz
  case extract x i =>
    have hr : oExtract x i E H t s = some r := hr
    unfold oExtract at hr
    split at hr
    · rename_i vs hv
      refine did_mk h hr fun z hz => ?_
      obtain ⟨vs', h1, h2⟩ := (ev hv).of_tuple
      obtain ⟨z', h3, h4⟩ := h2.get hz
      exact ⟨z', by rw [h1]; simp [Instr.extract, show vs'[i]? = some z' by simpa using h3], h4⟩
    · cases hr
  case call c =>
    obtain ⟨args, hargs, hr⟩ := obind_some (show oCall c E H t s = some r from hr)
    have hr : callOf c.callee c.argTypes.toList args E H t s = some r := hr
    unfold callOf at hr
    split at hr
    · rename_i f hf
      exact (hnc c f hop (by assumption)).elim
    · rename_i b hb
      have ha := avals_sim h ht hargs
      have := builtin_sim (P := P) (ty := o.type) (cs := c.args.map fun | .const _ => true | _ => false) hE h ha hr
      obtain ⟨res, w', β', h1, h2, h3⟩ := this
      refine ⟨res, w', β', ?_, h2, h3⟩
      rw [← h1]
      have hargs' : c.args.map a.eval = (c.args.toList.map a.eval).toArray := by apply Array.ext'; simp
      simp only [resolve, hb, Sem.run_bind, Sem.run_pure, Result.andThen_ok, hargs']
      rfl
    · cases hr
  all_goals (cases hr)
end Go.Ev
