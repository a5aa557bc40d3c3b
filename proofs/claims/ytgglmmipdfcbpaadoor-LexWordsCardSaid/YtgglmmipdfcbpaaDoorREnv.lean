/-
  The evaluator at this program: its functions and types; errors are told by their contract.
-/
import Derived.Test.YtgglmmipdfcbpaaDoorEvD8
import Derived.Test.YtgglmmipdfcbpaaDoorZTold2
import Derived.KernelRfl
namespace Go.Proofs.YtgglmmipdfcbpaaDoor
open Go Go.Ev Go.RowKit

/-- The value of errors.errorType. -/
def handle : Value := .iface 96 (.agg #[.pointer (some ⟨1, 28, none⟩)])
def twoInts (x y : Value) (s : AS) : Option (Value × AS) :=
  match x, y with
  | .int .i64 m, .int .i64 k => some (.agg #[.int .i64 m, .int .i64 k], s)
  | _, _ => none
/-- api.Told: of no error; of an error of lex. -/
def toldP (args : List Value) (s : AS) : Option (Value × AS) :=
  match args with
  | [.nilIface] => some (.agg #[.int .i64 0, .int .i64 0], s)
  | [.iface t (.pointer (some ⟨b, o, none⟩))] => only (Nat.beq t 91) (obind (cell s b o) fun x => obind (cell s b (Nat.succ o)) fun y => twoInts x y s)
  | _ => none
noncomputable def env : Env where
  fn f := Tryd.prog.funcs[f]?
  ty := Tryd.prog.info?
  ng := 0
  prim f := bif Nat.beq f 24 then some toldP else none
  calm t := !Tryd.prog.stoodInHeld t && !Tryd.prog.eqGuardType Tryd.prog.depth t
  isLaid c := Nat.beq c 0
  laidP _ o := ∃ cs t fr, o = .cells cs t fr ∧ cs[0]? = some handle
set_option maxRecDepth 100000 in
theorem envOK : EnvOK env Tryd.prog := .of (fun _ _ e => e) (fun _ _ e => e) (by kernel_rfl) fun t h => by
  have h : (!Tryd.prog.stoodInHeld t && !Tryd.prog.eqGuardType Tryd.prog.depth t) = true := h
  simpa using h
theorem mixed : Tryd.prog.follows .mixedOrders = true := by kernel_rfl
theorem cell_of_laid {β : Bond} {s : AS} {w : World} (h : Sim env β s w) : w.cell? ⟨0, 0, none⟩ = some handle := by
  obtain ⟨o, h1, cs, t, fr, rfl, h2⟩ := (h.laid 0 rfl).1
  rw [cell_at h1 0]
  exact h2
theorem laid_of_cell {w : World} (h : w.cell? ⟨0, 0, none⟩ = some handle) : ∀ c, env.isLaid c = true → ∃ o, w.heap[c]? = some o ∧ env.laidP c o := by
  intro c hc
  have hc : c = 0 := Nat.eq_of_beq_eq_true hc
  subst hc
  cases hb : w.heap[0]? with
  | none => simp [World.cell?, hb] at h
  | some o =>
    cases o with
    | cells cs t fr => rw [cell_at hb 0] at h; exact ⟨_, rfl, cs, t, fr, rfl, h⟩
    | _ => simp [World.cell?, hb] at h
theorem primOK : PrimOK env Tryd.prog := by
  have is : ∀ f p, env.prim f = some p → f = 24 ∧ p = toldP := fun f p e => by
    have e : (bif Nat.beq f 24 then some toldP else none) = some p := e
    cases hb : Nat.beq f 24 with
    | false => rw [hb] at e; cases e
    | true => rw [hb] at e; exact ⟨Nat.eq_of_beq_eq_true hb, (Option.some.inj e).symm⟩
  refine ⟨fun f p args s r e h => ?_, fun f p args s r e h β w args' hs ha => ?_⟩
  · obtain ⟨rfl, rfl⟩ := is f p e
    unfold toldP at h
    split at h
    · cases h; exact .refl s
    · obtain ⟨_, h⟩ := only_some h
      obtain ⟨x, _, h⟩ := obind_some h
      obtain ⟨y, _, h⟩ := obind_some h
      unfold twoInts at h
      split at h
      · cases h; exact .refl s
      · cases h
    · cases h
  · obtain ⟨rfl, rfl⟩ := is f p e
    have low : ∀ {w w' : World}, Below w.heap.size w w' → w.heap.size ≤ w'.heap.size ∧ (∀ k, k < w.heap.size → w'.heap[k]? = w.heap[k]?) ∧ Same w w' := fun b => ⟨b.size, b.block, b.os, b.tape, b.output⟩
    unfold toldP at h
    split at h
    · cases h
      cases ha with
      | cons h1 h2 =>
        cases h1; cases h2
        refine PrimOK.of_calls envOK Tryd.func24 rfl hs ((told_nil w).mono ?_) (VR.plain (n := 6) (by rfl))
        rintro e w' ⟨rfl, b⟩
        exact ⟨rfl, low b⟩
    · rename_i t b o
      obtain ⟨ht, h⟩ := only_some h
      have ht := Nat.eq_of_beq_eq_true ht
      subst ht
      obtain ⟨x, hx, h⟩ := obind_some h
      obtain ⟨y, hy, h⟩ := obind_some h
      unfold twoInts at h
      split at h
      · cases h
        cases ha with
        | cons h1 h2 =>
          cases h2
          cases h1 with
          | iface _ h1 =>
            cases h1 with
            | ptr _ hb =>
              rename_i c sh g
              obtain ⟨x', h3, h4, _⟩ := cell_sim hs hb hx
              obtain ⟨y', h5, h6, _⟩ := cell_sim hs hb hy
              cases h4; cases h6
              refine PrimOK.of_calls envOK Tryd.func24 rfl hs ((told_wrong c (sh + o) _ _ w (cell_of_laid hs) h3 h5).mono ?_) (VR.plain (n := 6) (by rfl))
              rintro e w' ⟨rfl, b⟩
              exact ⟨rfl, low b⟩
      · cases h
    · cases h
end Go.Proofs.YtgglmmipdfcbpaaDoor
