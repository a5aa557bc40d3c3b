/- A store, a new variable, a new row, a row made longer. -/
import Derived.Test.YtgglmmipdfcbpaaDoorEvM
namespace Go.Ev
variable {E : Env} {β β' : Bond} {s s' : AS} {w w' : World} {P : Program}

theorem kill_rec (s : AS) (j : Nat) {f : Nat} {ids : List (Nat × Nat)} (h : s.heap.get f = some (.fam ids)) : (Ev.kill s j).heap.get f = some (.fam ids) := by
  unfold Ev.kill
  split
  · rename_i hj
    rw [show (s.put j .dead).heap.get f = s.heap.get f from Tr.get_set_ne _ _ fun e => by subst e; rw [h] at hj; cases hj]
    exact h
  · exact h
theorem killAll_rec (id : Nat) (l : List (Nat × Nat)) : ∀ (s : AS) {f : Nat} {ids : List (Nat × Nat)}, s.heap.get f = some (.fam ids) → (Ev.killAll id l s).heap.get f = some (.fam ids) := by
  induction l with
  | nil => exact fun _ _ _ h => h
  | cons y l ih =>
    intro s f ids h
    unfold Ev.killAll
    cases Nat.beq y.1 id with
    | true => exact ih s h
    | false => exact ih _ (kill_rec s y.1 h)

theorem store_kept {b o : Nat} {vs : List Value} (hs : store s b o vs = some s') : Kept s s' := by
  cases vs with
  | nil => cases hs; exact .refl s
  | cons v vs =>
    obtain ⟨n, t, e, fro, fam, hc, hs⟩ := inCells_some (show inCells _ _ = some s' from hs)
    obtain ⟨_, hs⟩ := only_some hs
    cases fam with
    | none => cases hs; exact .put _ _ _
    | some p =>
      obtain ⟨f, rel⟩ := p
      unfold storeAs at hs
      split at hs
      · cases hs; rename_i h _; cases h
      · rename_i h
        cases h
        split at hs
        · cases hs
          exact (Kept.killAll _ _ _).trans ((Kept.put _ _ _).trans (.put _ _ _))
        · cases hs
theorem store_sim (h : Sim E β s w) {b c sh : Nat} {g : Gr} (hb : β b = some (c, sh, g)) {o : Nat} {vs vs' : List Value} (hv : All2 (VR β) vs vs') (hs : store s b o vs = some s') :
    ∃ w', (storeCells ⟨c, sh + o, none⟩ vs').run P w = .ok () w' ∧ Post E β s w β s' w' := by
  cases vs with
  | nil =>
    cases hs; cases hv
    exact ⟨w, by simp [storeCells], .refl h⟩
  | cons v vs =>
    obtain ⟨n, t, e, fro, fam, hc, hs⟩ := inCells_some (show inCells _ _ = some s' from hs)
    obtain ⟨hk, hs⟩ := only_some hs
    simp only [Bool.and_eq_true] at hk
    obtain ⟨⟨hk1, hk2⟩, hk3⟩ := hk
    have hk1 : o + (v :: vs).length ≤ n := le_of_ble hk1
    obtain ⟨arr, fro', ha, hg, hN, hz, hn, hcell, hfro⟩ := h.row hb hc
    have hrun := run_stores (P := P) (sh + o) vs' 0 arr w ha (by rw [← hv.len]; omega) (by rw [hv.one]; exact hk3) (fun k h1 h2 => outside_ok hfro hk2 (by omega) (by rw [← hv.len] at h2; omega) (by rw [← hv.len] at h2; omega))
    have hbr := BR.stored (e := e) hg hN hz hn hcell hfro hv hk3 hk1
    refine ⟨_, hrun, ?_⟩
    cases fam with
    | none =>
      cases hs
      refine Post.wrote h hb hbr (fun j sh' g' hj e => ?_) (by rw [hc]; rfl) (fun ids e => by rw [hc] at e; cases e)
      cases hal : alive (s.heap.get j) with
      | false => rfl
      | true =>
        obtain ⟨f, ri, ni, rj, nj, h1, _⟩ := h.inj b j c sh g sh' g' hb e (Ne.symm hj) (by rw [hc]; rfl) hal
        rw [hc] at h1; cases h1
    | some p =>
      obtain ⟨f, rel⟩ := p
      unfold storeAs at hs
      split at hs
      · rename_i hx; cases hx
      · rename_i f' rel' h0
        cases h0
        split at hs
        · rename_i ids hids
          cases hs
          have hfam := fun (i : Nat) (x : Nat × Nat × Gr) (rel' n' : Nat) (hi : β i = some x) (hf : famOf (s.heap.get i) = some (f, rel', n')) => h.fam i x f rel' n' hi hf
          have p1 := Post.killAll (E := E) (β := β) (w := w) b ids h
          have hb1 : (Ev.killAll b ids s).heap.get b = s.heap.get b := (killAll_get b ids s b).resolve_right fun e => e.2 rfl
          have hf1 := killAll_rec b ids s hids
          have h0 := h.fam b _ f rel n hb (by rw [hc]; rfl)
          have hm : ∀ i x rel' n', β i = some x → famOf ((Ev.killAll b ids s).heap.get i) = some (f, rel', n') → (i, rel' + n') ∈ [(b, rel + n)] := by
            intro i x rel' n' hi hf
            have hsame : (Ev.killAll b ids s).heap.get i = s.heap.get i := (killAll_get b ids s i).resolve_right fun e => by rw [e.1] at hf; cases hf
            by_cases hib : i = b
            · subst hib
              rw [hsame, hc] at hf; cases hf
              exact List.mem_singleton.2 rfl
            · rw [hsame] at hf
              obtain ⟨_, _, ids0, h3, h4, _⟩ := h.fam i x f rel' n' hi hf
              rw [hids] at h3; cases h3
              have := killAll_fam b ids s h4 hib
              rw [hsame, hf] at this; cases this
          have p2 := Post.turned p1.sim hf1 (ids' := [(b, rel + n)]) ⟨fun x hx => by simp at hx, trivial⟩ hm h0.2.1
          have hfb : f ≠ b := by have := h0.1; omega
          have hb2 : ((Ev.killAll b ids s).put f (.fam [(b, rel + n)])).heap.get b = some (.cells n t e fro (some (f, rel))) := by
            rw [show ((Ev.killAll b ids s).put f (.fam [(b, rel + n)])).heap.get b = (Ev.killAll b ids s).heap.get b from Tr.get_set_ne _ _ hfb, hb1, hc]
          have hrec : ((Ev.killAll b ids s).put f (.fam [(b, rel + n)])).heap.get f = some (.fam [(b, rel + n)]) := Tr.get_set_eq _ _ _
          refine (p1.trans p2 (.killAll _ _ _) (.put _ _ _)).trans (Post.wrote p2.sim hb hbr (fun j sh' g' hj e => ?_) (by rw [hb2]; rfl) (fun ids e => by rw [hb2] at e; cases e)) ((Kept.killAll _ _ _).trans (.put _ _ _)) (.put _ _ _)
          cases hal : alive (((Ev.killAll b ids s).put f (.fam [(b, rel + n)])).heap.get j) with
          | false => rfl
          | true =>
            obtain ⟨f2, ri, ni, rj, nj, h1, h2, _⟩ := p2.sim.inj b j c sh g sh' g' hb e (Ne.symm hj) (by rw [hb2]; rfl) hal
            rw [hb2] at h1; cases h1
            obtain ⟨_, _, ids3, h3, h4, _⟩ := p2.sim.fam j _ f _ _ e h2
            rw [hrec] at h3; cases h3
            simp at h4
            exact absurd h4.1 hj
        · cases hs
end Go.Ev
