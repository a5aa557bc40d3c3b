/- Slices of slices; composite values. -/
import Derived.Test.YtgglmmipdfcbpaaDoorEvO
namespace Go.Ev
variable {E : Env} {β β' : Bond} {s s' : AS} {w w' : World} {P : Program}

inductive OR (β : Bond) : Option Value → Option Value → Prop
  | none : OR β none none
  | some {v v' : Value} (h : VR β v v') : OR β (some v) (some v')
theorem bound_run {v v' : Option Value} {d top top' n : Nat} {code : BoundsCode} (hv : OR β v v') (ht : top ≤ top') (h : bound v d top = some n) :
    (match v' with | some v => Instr.sliceBound v top' code | none => (pure d : Sem Nat)).run P w = .ok n w ∧ (v = none → n = d) := by
  cases hv with
  | none => cases h; exact ⟨rfl, fun _ => rfl⟩
  | some hv =>
    obtain ⟨i, h1, h2⟩ := obind_some (show obind _ _ = Option.some n from h)
    obtain ⟨h3, h4⟩ := only_some h2
    cases h4
    have h3 := le_of_ble h3
    obtain ⟨k, rfl⟩ := nat_some h1
    cases hv
    refine ⟨?_, fun e => by cases e⟩
    simp [Instr.sliceBound, asIntOf]
    intro h9
    omega
theorem bounds_run {lo hi mx lo' hi' mx' : Option Value} {len cap cap' l hh m : Nat} {isS : Bool} (hlo : OR β lo lo') (hhi : OR β hi hi') (hmx : OR β mx mx') (hc : cap ≤ cap') (h : bounds lo hi mx len cap = some (l, hh, m)) :
    ∃ m', (Instr.sliceBounds isS len cap' lo' hi' mx').run P w = .ok (l, hh, m') w ∧ m ≤ m' ∧ l ≤ hh ∧ hh ≤ m ∧ (cap = cap' → m' = m) ∧ (mx ≠ none → m' = m) ∧ m' ≤ cap' := by
  obtain ⟨h0, h⟩ := only_some h
  obtain ⟨m1, h1, h⟩ := obind_some h
  obtain ⟨h2, h3, h⟩ := obind_some h
  obtain ⟨l1, h4, h⟩ := obind_some h
  obtain ⟨h5, h6⟩ := only_some h
  cases h6
  simp only [Bool.and_eq_true] at h5
  have h51 := le_of_ble h5.1
  have h52 := le_of_ble h5.2
  have r4 := bound_run (P := P) (w := w) (code := if mx'.isSome then .slice3C else .sliceB) hlo (Nat.le_refl hh) h4
  cases hmx with
  | none =>
    cases h1
    have r3 := bound_run (P := P) (w := w) (code := if isS then .sliceAcap else .sliceAlen) hhi hc h3
    refine ⟨cap', ?_, hc, h52, h51, fun e => e.symm, fun e => absurd rfl e, Nat.le_refl _⟩
    cases hhi with
    | none =>
      cases hlo with
      | none => cases h3; cases h4; simp [Instr.sliceBounds]
      | some hlo =>
        cases h3
        have := r4.1
        simp at this
        simp [Instr.sliceBounds, this]
    | some hhi =>
      have r31 := r3.1
      simp only at r31
      cases hlo with
      | none => cases h4; simp [Instr.sliceBounds, r31]
      | some hlo =>
        have := r4.1
        simp at this
        simp [Instr.sliceBounds, this, r31]
  | some hmx =>
    have r1 := bound_run (P := P) (w := w) (d := cap) (code := if isS then .slice3Acap else .slice3Alen) (.some hmx) hc h1
    have hm : m ≤ cap := by
      obtain ⟨i, h8, h9⟩ := obind_some (show obind _ _ = some m from h1)
      obtain ⟨h10, h11⟩ := only_some h9
      cases h11
      exact le_of_ble h10
    have r3 := bound_run (P := P) (w := w) (code := .slice3B) hhi (Nat.le_refl m) h3
    refine ⟨m, ?_, Nat.le_refl _, h52, h51, fun _ => rfl, fun _ => rfl, Nat.le_trans hm hc⟩
    have r11 := r1.1
    simp only at r11
    cases hhi with
    | none => simp at h0
    | some hhi =>
      have r31 := r3.1
      simp only at r31
      cases hlo with
      | none => cases h4; simp [Instr.sliceBounds, r11, r31]
      | some hlo =>
        have := r4.1
        simp at this
        simp [Instr.sliceBounds, this, r11, r31]
theorem slice_sim (hE : EnvOK E P) (h : Sim E β s w) {t : TypeId} {x x' : Value} {lo hi mx lo' hi' mx' : Option Value} {v : Value} (hx : VR β x x') (hlo : OR β lo lo') (hhi : OR β hi hi') (hmx : OR β mx mx') (hf : Ev.slice E s t x lo hi mx = some v) :
    ∃ v', (Instr.sliceAt t x' lo' hi' mx').run P w = .ok v' w ∧ VR β v v' := by
  unfold Ev.slice at hf
  split at hf
  · rename_i hu
    unfold sliceStr at hf
    split at hf
    · obtain ⟨h1, hf⟩ := only_some hf
      obtain ⟨l, p, h2, hf⟩ := pbind_some hf
      cases hf
      cases hx
      obtain ⟨m', hr, _⟩ := bounds_run (P := P) (w := w) (isS := false) hlo hhi .none (Nat.le_refl _) h2
      cases hmx with
      | some _ => simp at h1
      | none => exact ⟨_, by simp [Instr.sliceAt, run_und hE hu, Instr.slice, hr], .string _⟩
    · cases hf
  · rename_i e hu
    obtain ⟨z, hz, hf⟩ := obind_some hf
    unfold sliceS at hf
    split at hf
    · rename_i len cap
      obtain ⟨l, ⟨hh, m⟩, h2, hf⟩ := pbind_some hf
      cases hf
      cases hx
      obtain ⟨m', hr, hm1, hl, hhm, hm2, _⟩ := bounds_run (P := P) (w := w) (isS := true) hlo hhi hmx (Nat.le_refl _) h2
      have := hm2 rfl
      subst this
      refine ⟨_, ?_, .nilSlice (hh - l) (m' - l)⟩
      simp [Instr.sliceAt, run_und hE hu, Instr.slice, hr, run_size hE hz]
    · rename_i b o len cap hfx
      obtain ⟨l, ⟨hh, m⟩, h2, hf⟩ := pbind_some hf
      obtain ⟨n, tb, e', fro, fam, hbc, hf⟩ := inCells_some (show inCells _ _ = some v from hf)
      cases hx with
      | slice _ _ hb hm hg hN =>
        rename_i c sh cap' g
        obtain ⟨m', hr, hm1, hl, hhm, hm2, hm3, hm4⟩ := bounds_run (P := P) (w := w) (isS := true) hlo hhi hmx hm h2
        obtain ⟨arr, fro', ha, hg0, hN0, hz0, hn0, hc0, hfr0⟩ := h.row hb hbc
        have run : (Instr.sliceAt t (.slice (some ⟨c, sh + o, none⟩) len cap') lo' hi' mx').run P w = .ok (.slice (some (if m' = l then ⟨c, sh + o, none⟩ else ⟨c, sh + o + l * z, none⟩)) (hh - l) (m' - l)) w := by
          by_cases e : m' = l
          · simp [Instr.sliceAt, run_und hE hu, Instr.slice, hr, run_size hE hz, e]
          · simp [Instr.sliceAt, run_und hE hu, Instr.slice, hr, run_size hE hz, e, add_addr]
        refine ⟨_, run, ?_⟩
        cases fam with
        | none =>
          have hgn : g = none := by cases g with | none => rfl | some G => cases hg0
          subst hgn
          have := hm2 (hg rfl).symm
          subst this
          cases hf
          by_cases e : m' = l
          · rw [if_pos e, show Nat.beq m' l = true by rw [e]; exact Nat.beq_refl l]
            exact .slice _ _ hb (Nat.le_refl _) (fun _ => rfl) (fun N z e => by cases e)
          · rw [if_neg e, show Nat.beq m' l = false from Bool.eq_false_iff.2 fun e' => e (eq_of_beq e'), Nat.add_assoc]
            exact .slice _ _ hb (Nat.le_refl _) (fun _ => rfl) (fun N z e => by cases e)
        | some q =>
          obtain ⟨hee, hf5⟩ := only_some (show only (Nat.beq e e') _ = some v from hf)
          clear hf
          have := eq_of_beq hee
          subst this
          cases hf5
          obtain ⟨⟨N, z1⟩, rfl⟩ : ∃ G, g = some G := by cases g with | none => cases hg0 | some G => exact ⟨G, rfl⟩
          obtain ⟨hsN, hz1⟩ := hN0 N z1 rfl
          rw [hz] at hz1; cases hz1
          by_cases e : m' = l
          · rw [if_pos e]
            have e1 : Nat.sub hh l = 0 := by show hh - l = 0; omega
            have e2 : Nat.sub m l = 0 := by show m - l = 0; omega
            have e3 : hh - l = 0 := by omega
            have e4 : m' - l = 0 := by omega
            rw [e1, e2, e3, e4]
            exact .tail _ hb
          · rw [if_neg e, Nat.add_assoc]
            refine .slice (o + l * z) (hh - l) hb (show m - l ≤ m' - l by omega) (fun e => by cases e) (fun N' z' e => ?_)
            cases e
            have := hN N z rfl
            have h9 : l * z + (m' - l) * z = m' * z := by rw [← Nat.add_mul]; congr 1; omega
            have h10 : m' * z ≤ cap' * z := Nat.mul_le_mul_right _ hm4
            omega
      | tail _ hb =>
        rename_i c sh c' o' G
        obtain ⟨m', hr, hm1, hl, hhm, hm2, hm3, hm4⟩ := bounds_run (P := P) (w := w) (isS := true) hlo hhi hmx (Nat.le_refl _) h2
        have : m' = 0 := by omega
        subst this
        have : m = 0 := by omega
        subst this
        have : hh = 0 := by omega
        subst this
        have : l = 0 := by omega
        subst this
        refine ⟨.slice (some ⟨c', o', none⟩) 0 0, by simp [Instr.sliceAt, run_und hE hu, Instr.slice, hr, run_size hE hz], ?_⟩
        cases fam with
        | none => cases hf; exact .tail _ hb
        | some q => obtain ⟨_, hf⟩ := only_some (show only _ _ = some v from hf); cases hf; exact .tail _ hb
    · cases hf
  · rename_i n e hu
    obtain ⟨z, hz, hf⟩ := obind_some hf
    obtain ⟨l, ⟨hh, m⟩, h2, hf⟩ := pbind_some hf
    unfold ptr at hf
    split at hf
    · rename_i b o hq1 hq2
      obtain ⟨n0, tb, e', fro, fam, hbc, hf⟩ := inCells_some (show inCells _ _ = some v from hf)
      obtain ⟨hfm, hf⟩ := only_some hf
      cases hf
      cases hx with
      | ptr _ hb =>
        rename_i c sh g
        obtain ⟨m', hr, hm1, hl, hhm, hm2, hm3, hm4⟩ := bounds_run (P := P) (w := w) (isS := false) hlo hhi hmx (Nat.le_refl _) h2
        have := hm2 rfl
        subst this
        obtain ⟨arr, fro', ha, hg0, _⟩ := h.row hb hbc
        have hgn : g = none := by
          cases g with
          | none => rfl
          | some G => cases fam with | none => cases hg0 | some q => cases hfm
        subst hgn
        by_cases e : m' = l
        · refine ⟨.slice (some ⟨c, sh + o, none⟩) (hh - l) 0, by simp [Instr.sliceAt, run_und hE hu, Instr.sureAddr, hr, run_size hE hz, e], ?_⟩
          rw [show Nat.beq m' l = true by rw [e]; exact Nat.beq_refl l]
          have e1 : Nat.sub m' l = 0 := by show m' - l = 0; omega
          rw [e1]
          exact .slice _ _ hb (Nat.le_refl _) (fun _ => rfl) (fun N z e => by cases e)
        · refine ⟨.slice (some ⟨c, sh + o + l * z, none⟩) (hh - l) (m' - l), by simp [Instr.sliceAt, run_und hE hu, Instr.sureAddr, hr, run_size hE hz, e, add_addr], ?_⟩
          rw [show Nat.beq m' l = false from Bool.eq_false_iff.2 fun e' => e (eq_of_beq e'), Nat.add_assoc]
          exact .slice _ _ hb (Nat.le_refl _) (fun _ => rfl) (fun N z e => by cases e)
    · cases hf
  · cases hf
end Go.Ev
