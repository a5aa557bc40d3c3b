/- The evaluator, closed: what it tells of a call is so. -/
import Derived.Test.YtgglmmipdfcbpaaDoorEvD7
namespace Go.Ev
variable {E : Env} {P : Program} {β : Bond} {s : AS} {w : World}
theorem tells (hE : EnvOK E P) (hP : PrimOK E P) (hm : P.follows .mixedOrders = true) {n : Nat} {f : FuncId} {args args' : List Value} {r : Value × AS} (hr : (hand E n).call f args s = some r) (h : Sim E β s w) (ha : All2 (VR β) args args') :
    Calls P f args'.toArray w (Ends E β s w r) := hand_calls hE hP (fun _ hH => drawOK hE hH hm) hr h ha
theorem primNone (h : ∀ f, E.prim f = Option.none) : PrimOK E P := ⟨fun f p args s r e => (by rw [h] at e; cases e), fun f p args s r e => (by rw [h] at e; cases e)⟩
/-- Functions that the evaluator may run. -/
def runnable (x : Func) : Bool := x.name != "runtime.NumGoroutine" && (match x.body with | some c => fine c | Option.none => true)
theorem EnvOK.of (hf : ∀ f x, E.fn f = some x → P.funcs[f]? = some x) (ht : ∀ t i, E.ty t = some i → P.info? t = some i) (h : P.funcs.toList.all runnable = true) (hc : ∀ t, E.calm t = true → P.stoodInHeld t = false ∧ P.eqGuardType P.depth t = false) : EnvOK E P := by
  have key : ∀ f x, E.fn f = some x → runnable x = true := fun f x e => List.all_eq_true.1 h x (Array.mem_toList_iff.2 (Array.mem_of_getElem? (hf f x e)))
  refine ⟨hf, ht, fun f x e => ?_, fun f x c e hc => ?_, hc⟩
  · have := key f x e
    unfold runnable at this
    rw [Bool.and_eq_true] at this
    simpa using this.1
  · have := key f x e
    unfold runnable at this
    rw [Bool.and_eq_true, hc] at this
    exact this.2
/-- Blocks of the callee's own, that nothing of ours names. -/
theorem Post.more {w' : World} (h : Sim E β s w) (hs : w.heap.size ≤ w'.heap.size) (hb : ∀ k, k < w.heap.size → w'.heap[k]? = w.heap[k]?) (hm : Same w w') : Post E β s w β s w' := by
  have get : ∀ (k : Nat) (o : Obj), w.heap[k]? = some o → w'.heap[k]? = some o := fun k o e => by rw [hb k (Array.getElem?_eq_some_iff.1 e).1]; exact e
  refine ⟨.refl β, fun i x e n => (by rw [n] at e; cases e), ⟨fun i c sh g e => ?_, fun i c sh g b e hbb => ?_, h.inj, h.fam, h.ng, h.glob, fun c hc => ?_⟩, hs, fun c hc _ => hb c hc, fun i c sh g e n => (by rw [n] at e; cases e), hm⟩
  · have := h.lt i c sh g e
    exact ⟨this.1, Nat.lt_of_lt_of_le this.2 hs⟩
  · obtain ⟨o, h1, h2⟩ := h.blk i c sh g b e hbb
    exact ⟨o, get c o h1, h2⟩
  · obtain ⟨⟨o, h1, h2⟩, h3⟩ := h.laid c hc
    exact ⟨⟨o, get c o h1, h2⟩, h3⟩
/-- A prim that leaves our memory as it is, out of its contract. -/
theorem PrimOK.of_calls (hE : EnvOK E P) {f : FuncId} {fn : Func} {c : Code} (hf : E.fn f = some fn) (hc : fn.body = some c) {args' : List Value} {v' : Value} (h : Sim E β s w)
    (hcall : Calls P f args'.toArray w fun e w' => e = .returned v' ∧ w.heap.size ≤ w'.heap.size ∧ (∀ k, k < w.heap.size → w'.heap[k]? = w.heap[k]?) ∧ Same w w') {v : Value} (hv : VR β v v') :
    (callFunc f args'.toArray).run P w = .ok (.enter f args'.toArray) w ∧ ∀ n, CallsIn (Fw none) n P f args'.toArray w (Ends E β s w (v, s)) := by
  refine ⟨enter_run hE hf hc _ w, fun n => callsIn_wide.2 (hcall.mono ?_)⟩
  rintro e w' ⟨rfl, h1, h2, h3⟩
  exact ⟨v', β, rfl, Post.more h h1 h2 h3, hv⟩
/-- Nothing is bound. -/
def bare0 : Bond := fun _ => none
theorem Sim.start {n : Nat} (hn : E.ng ≤ n) (h0 : E.ng = 0) (hl : ∀ c, E.isLaid c = true → ∃ o, w.heap[c]? = some o ∧ E.laidP c o) : Sim E bare0 (start n) w :=
  ⟨fun i c sh g e => (by cases e), fun i c sh g b e => (by cases e), fun i j c sh g sh' g' e => (by cases e), fun i x f rel n e => (by cases e), hn, fun g hg => (by omega), fun c hc => ⟨hl c hc, fun i x e => (by cases e)⟩⟩
/-- What the evaluator tells of a call that begins with nothing of ours: all older memory stays. -/
theorem tells0 (hE : EnvOK E P) (hP : PrimOK E P) (hm : P.follows .mixedOrders = true) (h0 : E.ng = 0) {n : Nat} {f : FuncId} {args args' : List Value} {r : Value × AS} (hr : (hand E n).call f args (start 0) = some r)
    (hl : ∀ c, E.isLaid c = true → ∃ o, w.heap[c]? = some o ∧ E.laidP c o) (ha : All2 (VR bare0) args args') :
    Calls P f args'.toArray w fun e w' => (∃ v' β', e = .returned v' ∧ VR β' r.1 v' ∧ Sim E β' r.2 w') ∧ w.heap.size ≤ w'.heap.size ∧ (∀ k, k < w.heap.size → w'.heap[k]? = w.heap[k]?) ∧ Same w w' := by
  refine (tells hE hP hm hr (Sim.start (by omega) h0 hl) ha).mono ?_
  rintro e w' ⟨v', β', rfl, p, hv⟩
  exact ⟨⟨v', β', rfl, hv, p.sim⟩, p.size, fun k hk => p.frame k hk fun i x e => (by cases e), p.same⟩
end Go.Ev
