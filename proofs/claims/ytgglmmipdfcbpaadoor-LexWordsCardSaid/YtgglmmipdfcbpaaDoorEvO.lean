/- The operations, one by one. -/
import Derived.Test.YtgglmmipdfcbpaaDoorEvW
namespace Go.Ev
variable {E : Env} {β β' : Bond} {s s' : AS} {w w' : World} {P : Program}

inductive ResOK (β : Bond) : Option Value → Next → Prop
  | value {v v' : Value} (h : VR β v v') : ResOK β (some v) (.value v')
  | skip : ResOK β none .skip
/-- The program's side does as the evaluator's. -/
def Did (E : Env) (P : Program) (β : Bond) (s : AS) (w : World) (s' : AS) (x : Sem Next) (r : Option Value) : Prop :=
  ∃ res w' β', x.run P w = .ok res w' ∧ ResOK β' r res ∧ Post E β s w β' s' w'
theorem Did.val (h : Sim E β s w) {y : Sem Value} {v v' : Value} (hr : y.run P w = .ok v' w) (hv : VR β v v') : Did E P β s w s (do pure (.value (← y))) (some v) :=
  ⟨_, w, β, by simp only [Sem.run_bind, hr, Result.andThen_ok, Sem.run_pure], .value hv, .refl h⟩
theorem val_some {v : Option Value} {r : Option Value × AS} (h : val v s = some r) : ∃ u, v = some u ∧ r = (some u, s) := by
  obtain ⟨u, h1, h2⟩ := obind_some h
  cases h2
  exact ⟨u, h1, rfl⟩

section
variable {nt : Nat} {t : Fr} {a : Act} (h : Sim E β s w) (ht : TR β nt t a.tmps)
include h ht
theorem aval_sim {x : Operand} {v : Value} (hx : aval E t x = some v) : VR β v (a.eval x) := by
  cases x with
  | tmp i =>
    obtain ⟨v', h1, r⟩ := ht.get i v hx
    show VR β v (a.tmps.getD i undef)
    rw [Array.getD_eq_getD_getElem?, h1]; exact r
  | const c =>
    obtain ⟨h1, h2⟩ := only_some (show only (plain 6 c) (some c) = some v from hx)
    cases h2
    exact .plain h1
  | global g =>
    obtain ⟨h1, h2⟩ := only_some (show only (Nat.ble (Nat.succ g) E.ng && !E.isLaid g) _ = some v from hx)
    cases h2
    rw [Bool.and_eq_true, Bool.not_eq_true'] at h1
    have := VR.ptr (o := 0) (h.glob g (le_of_ble h1.1) h1.2)
    exact this
  | func f =>
    cases hx
    exact .func f rfl rfl (fun i v v' hv => by simp at hv) (fun i v v' hv => by simp at hv)
theorem avals_sim {l : List Operand} {vs : List Value} (hx : avals E t l = some vs) : All2 (VR β) vs (l.map a.eval) := by
  induction l generalizing vs with
  | nil => cases hx; exact .nil
  | cons x l ih =>
    obtain ⟨v, h1, h2⟩ := obind_some (show obind (aval E t x) _ = some vs from hx)
    obtain ⟨us, h3, h4⟩ := obind_some h2
    cases h4
    exact .cons (aval_sim h ht h1) (ih h3)
theorem pairs_sim {l : List (Nat × Operand)} {vs : List (Nat × Value)} (hx : pairsOf E t l = some vs) : All2 (fun p q => p.1 = q.1 ∧ VR β p.2 q.2) vs (l.map fun p => (p.1, a.eval p.2)) := by
  induction l generalizing vs with
  | nil => cases hx; exact .nil
  | cons x l ih =>
    obtain ⟨v, h1, h2⟩ := obind_some (show obind (aval E t x.2) _ = some vs from hx)
    obtain ⟨us, h3, h4⟩ := obind_some h2
    cases h4
    exact .cons ⟨rfl, aval_sim h ht h1⟩ (ih h3)
end

/-! New variables. -/
theorem rowAt_sim (h : Sim E β s w) (t : TypeId) {vs vs' : List Value} (hv : All2 (VR β) vs vs') (h1 : allOne vs = true) :
    Post E β s w (upd β s.next (w.heap.size, 0, none)) (rowAt s t vs) (push w (.cells vs'.toArray t)) := by
  have hext : Ext β (upd β s.next (w.heap.size, 0, none)) := .upd (h.unset (Nat.le_refl _))
  exact Post.made h (.cells rfl (fun N z e => by cases e) (fun _ => ⟨rfl, by simp [hv.len]⟩) (by simp [hv.len]) (fun i v hi hg => by
    rw [get_ofList, if_pos (by omega)] at hg
    obtain ⟨v', h2, r⟩ := hv.get (show vs[i]? = some v by simpa using hg)
    exact ⟨v', by simpa using h2, r.ext hext, allOne_get h1 (show vs[i]? = some v by simpa using hg)⟩) (fun k _ _ h2 => by simp at h2)) (fun f rel n e => by cases e)
theorem newVar_sim (h : Sim E β s w) {t : TypeId} {vs : List Value} {v' : Value} {r : Option Value × AS} (hv : All2 (VR β) vs v'.cells.toList) (hr : Ev.newVar s t vs = some r) :
    ∃ β', (Go.newVar t v').run P w = .ok ⟨w.heap.size, 0, none⟩ (push w (.cells v'.cells t)) ∧ Post E β s w β' r.2 (push w (.cells v'.cells t)) ∧ ∃ u, r.1 = some u ∧ VR β' u (.pointer (some ⟨w.heap.size, 0, none⟩)) := by
  obtain ⟨h1, h2⟩ := only_some hr
  cases h2
  have p := rowAt_sim h t hv h1
  exact ⟨_, by simp [Go.newVar, Go.newRow, newObj, Sem.run, push], by simpa using p, _, rfl, .ptr (sh := 0) 0 (upd_eq _ _ _)⟩

/-! Parts. -/
theorem field_sim (hE : EnvOK E P) {t : TypeId} {x x' : Value} {i : Nat} {v : Value} (hx : VR β x x') (hf : Ev.field E t x i = some v) :
    ∃ v', (Instr.field t x' i).run P w = .ok v' w ∧ VR β v v' := by
  obtain ⟨f, h1, h2⟩ := obind_some hf
  unfold Env.fieldOf at h1
  split at h1
  · rename_i fs hu
    split at h2
    · rename_i cs
      obtain ⟨cs', rfl, hc⟩ := hx.of_agg
      obtain ⟨v', h3, r⟩ := part_sim (P := P) (w := w) hE hc h2
      exact ⟨v', by simp [Instr.field, run_und hE hu, show fs[i]? = some f by simpa using h1, asAgg]; simpa using h3, r⟩
    · cases h2
  · cases h1
theorem fieldAddr_sim (hE : EnvOK E P) {t : TypeId} {x x' : Value} {i : Nat} {v : Value} (hx : VR β x x') (hf : Ev.fieldAddr E t x i = some v) :
    ∃ v', (Instr.fieldAt t x' i).run P w = .ok v' w ∧ VR β v v' := by
  obtain ⟨n, h1, h2⟩ := obind_some hf
  obtain ⟨f, h3, h4⟩ := obind_some h1
  obtain ⟨z, h5, h6⟩ := obind_some h4
  obtain ⟨h7, h8⟩ := only_some h6
  cases h8
  have h7 : 1 ≤ z := le_of_ble h7
  unfold Env.fieldOf at h3
  split at h3
  · rename_i fs hu
    unfold ptr at h2
    split at h2
    · rename_i b o
      cases h2
      cases hx with
      | ptr _ hb =>
        refine ⟨_, ?_, .ptr (Nat.add o f.offset) hb⟩
        simp [Instr.fieldAt, run_und hE hu, show fs[i]? = some f by simpa using h3, Instr.sureAddr, fieldPlace, run_size hE h5, show ¬ z = 0 by omega, add_addr, Nat.add_assoc]
    · cases h2
  · cases h3
theorem nat_some {v : Value} {n : Nat} (h : nat v = some n) : ∃ k, v = .int k (n : Int) := by
  unfold nat at h
  split at h
  · cases h; exact ⟨_, rfl⟩
  · cases h
theorem idx_some {v : Value} {n k : Nat} (h : idx v n = some k) : k < n ∧ ∃ kk, v = .int kk (k : Int) := by
  obtain ⟨i, h1, h2⟩ := obind_some h
  obtain ⟨h3, h4⟩ := only_some h2
  cases h4
  exact ⟨le_of_ble h3, nat_some h1⟩
theorem indexAddr_sim (hE : EnvOK E P) {t : TypeId} {x x' i i' : Value} {v : Value} (hx : VR β x x') (hi : VR β i i') (hf : Ev.indexAddr E t x i = some v) :
    ∃ v', (Instr.indexAt t x' i').run P w = .ok v' w ∧ VR β v v' := by
  obtain ⟨n, z, h1, h2⟩ := pbind_some hf
  unfold Env.elemOf at h1
  split at h1
  · rename_i n0 e hu
    obtain ⟨z0, h3, h4⟩ := obind_some h1
    cases h4
    simp only at h2
    unfold ptr at h2
    split at h2
    · rename_i b o
      obtain ⟨k, h5, h6⟩ := obind_some h2
      cases h6
      obtain ⟨hk, kk, rfl⟩ := idx_some h5
      cases hi
      cases hx with
      | ptr _ hb =>
        refine ⟨_, ?_, .ptr (Nat.add o (Nat.mul k z)) hb⟩
        simp [Instr.indexAt, asIntOf, run_und hE hu, Instr.sureAddr, hk, run_size hE h3, add_addr, Nat.add_assoc]
    · cases h2
  · rename_i e hu
    obtain ⟨z0, h3, h4⟩ := obind_some h1
    cases h4
    simp only at h2
    unfold inSlice at h2
    split at h2
    · rename_i b o len cap
      obtain ⟨k, h5, h6⟩ := obind_some h2
      cases h6
      obtain ⟨hk, kk, rfl⟩ := idx_some h5
      cases hi
      cases hx with
      | slice _ _ hb =>
        refine ⟨_, ?_, .ptr (Nat.add o (Nat.mul k z)) hb⟩
        simp [Instr.indexAt, asIntOf, run_und hE hu, hk, run_size hE h3, add_addr, Nat.add_assoc]
      | tail => omega
    · cases h2
  · cases h1
theorem index_sim (hE : EnvOK E P) {t : TypeId} {x x' i i' : Value} {v : Value} (hx : VR β x x') (hi : VR β i i') (hf : Ev.index E t x i = some v) :
    ∃ v', (Instr.index t x' i').run P w = .ok v' w ∧ VR β v v' := by
  unfold Ev.index at hf
  split at hf
  · rename_i n e cs hu
    obtain ⟨k, h5, h6⟩ := obind_some hf
    obtain ⟨z, h7, h8⟩ := obind_some h6
    obtain ⟨hk, kk, rfl⟩ := idx_some h5
    cases hi
    obtain ⟨cs', rfl, hc⟩ := hx.of_agg
    obtain ⟨v', h3, r⟩ := part_sim (P := P) (w := w) hE hc h8
    refine ⟨v', ?_, r⟩
    simp [Instr.index, asIntOf, run_und hE hu, hk, run_size hE h7]
    simpa using h3
  · rename_i b hu
    obtain ⟨k, h5, h6⟩ := obind_some hf
    obtain ⟨c, h7, h8⟩ := obind_some h6
    cases h8
    obtain ⟨hk, kk, rfl⟩ := idx_some h5
    cases hi
    cases hx
    refine ⟨_, ?_, .int .u8 _⟩
    have : b[k]? = some c := by
      have h9 : k < b.size := hk
      rw [getElem?_pos b k h9]
      have h7 : b.data[k]? = some c := by simpa using h7
      rw [Array.getElem?_eq_getElem h9] at h7
      exact h7
    simp [Instr.index, asIntOf, run_und hE hu, this]
  · cases hf
end Go.Ev
