/- Regions that draw their order: what a step leaves. -/
import Derived.Test.YtgglmmipdfcbpaaDoorEvD5
namespace Go.Ev
variable {E : Env} {P : Program} {H : Hand} {nt : Nat} {ops : Array Oper} {A : Nat → Pt} {B : Nat → Dt}
variable {β0 : Bond} {w0 : World} {D D' : Nat → Bool} {β β1 : Bond} {w w' : World} {a : Act} {i : Nat} {o : Oper} {v' : Value}

theorem Inv.nopre (h : Inv E nt ops A B β0 w0 D β w a) {c : Nat} (hc : c < w0.heap.size) (hn : ∀ i x, β0 i = some x → x.1 ≠ c) : ∀ i x, β i = some x → x.1 ≠ c := by
  intro i x e ec
  obtain ⟨c', sh, g⟩ := x
  cases ec
  cases hb : β0 i with
  | none =>
    rcases h.fresh i _ sh g e hb with hf | ⟨b, sh', g', hb', _⟩
    · omega
    · exact hn b _ hb' rfl
  | some y =>
    have := h.ext i y hb
    rw [e] at this
    cases this
    exact hn i _ hb rfl
theorem Inv.quiet (hT : Told E H nt ops A B) (h : Inv E nt ops A B β0 w0 D β w a) (hr : Rdy ops B D i o) (hD : ∀ k, D' k = (k == i || D k)) (hf : (B i).ft ≠ .any)
    (hs : Sim E β (X ops A B D) w') (hg : w.heap.size ≤ w'.heap.size) (hfr : ∀ c, c < w.heap.size → (∀ i x, β i = some x → x.1 ≠ c) → w'.heap[c]? = w.heap[c]?)
    (hsm : Same w w') (hv : VR (cut β (nx A (i + 1))) (outcome (B i).v) v') : Inv E nt ops A B β0 w0 D' β w' (a.put o.dst v') := by
  have hi := get_lt hr.get
  have hw : ∀ id, lw ops A B D' id = lw ops A B D id := fun id => lst_congr fun k hk => by
    unfold wrote
    rw [hD]
    by_cases e : k = i
    · subst e
      rw [hT.quiet _ hi hf]
      simp [has]
    · have : (k == i) = false := by simpa using e
      rw [this, Bool.false_or]
  have hV : V ops A B D' = V ops A B D := by
    funext id
    unfold V
    rw [hw]
  have hX : X ops A B D' = X ops A B D := by
    unfold X
    rw [hV]
  obtain ⟨s1, s2⟩ := hT.slots_step hr hD h.size h.slots (Ext.refl β) hv
  exact {
    ext := h.ext
    sim := hX ▸ hs
    inB := fun id x b e hb => by
      rw [hw]
      exact h.inB id x b e (by rwa [hV] at hb)
    made := fun id x e e0 => by
      obtain ⟨k, h1, h2, h3, h4⟩ := h.made id x e e0
      exact ⟨k, by rw [hD, h1, Bool.or_true], h2, h3, h4⟩
    size := s1
    slots := s2
    share := h.share
    grow := Nat.le_trans h.grow hg
    frame := fun c hc hn => (hfr c (Nat.lt_of_lt_of_le hc h.grow) (h.nopre hc hn)).trans (h.frame c hc hn)
    fresh := h.fresh
    same := h.same.trans hsm }

/-- Two bonds, one below a number, one above. -/
def join (β β1 : Bond) (n : Nat) : Bond := fun id => if id < n then β1 id else β id
theorem Inv.loud (hT : Told E H nt ops A B) (hH : HandKept H) (h : Inv E nt ops A B β0 w0 D β w a) (hr : Rdy ops B D i o) (hD : ∀ k, D' k = (k == i || D k)) (hf : (B i).ft = .any)
    {s1 : AS} (p : Post E (cut β (nx A i)) (A i).S.anew w β1 s1 w') (h1 : s1.next = nx A (i + 1)) (h2 : ∀ id, s1.heap.get id = heapAt A (i + 1) id) (hW : s1.wr = (B i).W)
    (hS : ∀ f ∈ (B i).W, f < (A 0).S.mark → f ∈ (A ops.size).S.wr) (hng : E.ng ≤ nx A 0) (h0 : ∀ id x, β0 id = some x → id < nx A 0)
    (hv : VR β1 (outcome (B i).v) v') : Inv E nt ops A B β0 w0 D' (join β β1 (nx A (i + 1))) w' (a.put o.dst v') := by
  have hi := get_lt hr.get
  have hn01 : nx A i ≤ nx A (i + 1) := (hT.grow hH hi).1
  have hn0 : nx A 0 ≤ nx A i := hT.mono hH (by omega) (by omega)
  have hnm : nx A (i + 1) ≤ nx A ops.size := hT.mono hH (by omega) (by omega)
  have hD1 : D' i = true := by rw [hD]; simp
  have hDo : ∀ k, D k = true → D' k = true := fun k e => by rw [hD, e, Bool.or_true]
  have hDn : ∀ k, k ≠ i → D' k = D k := fun k e => by
    have : (k == i) = false := by simpa using e
    rw [hD, this, Bool.false_or]
  have F1 : ∀ k, k < i → (B k).W ≠ [] → D k = true := fun k hk e => hr.ahead k hk (.inl ⟨hf, e⟩)
  have F2 : ∀ k, i < k → k < ops.size → D k = true → (B k).W = [] := fun k hk hs hd => by
    apply Classical.byContradiction
    intro e
    exact hr.behind k hk hs hd (.inr (.inl ⟨e, hf⟩))
  have F3 : (B i).W ≠ [] → ∀ k, i < k → k < ops.size → D k = true → (B k).ft ≠ .any := fun e k hk hs hd ha => hr.behind k hk hs hd (.inl ⟨ha, e⟩)
  have uniq : ∀ k id, k < ops.size → nx A k ≤ id → id < nx A (k + 1) → nx A i ≤ id → id < nx A (i + 1) → k = i := fun k id hk l1 l2 l3 l4 => by
    rcases Nat.lt_trichotomy k i with e | e | e
    · have := hT.mono hH (show k + 1 ≤ i from e) (by omega); omega
    · exact e
    · have := hT.mono hH (show i + 1 ≤ k from e) (by omega); omega
  have b1lt : ∀ id x, β1 id = some x → id < nx A (i + 1) := fun id x e => by
    obtain ⟨c, sh, g⟩ := x
    exact h1 ▸ (p.sim.lt id c sh g e).1
  have eqB : ∀ id, id < nx A i → β1 id = β id := fun id hid => by
    cases hb : β id with
    | some y => exact p.ext id y (cut_some.2 ⟨hid, hb⟩)
    | none =>
      cases hb1 : β1 id with
      | none => rfl
      | some x =>
        have := p.new id x hb1 (by rw [cut_of hid, hb])
        have : nx A i ≤ id := this
        omega
  have gap : ∀ id, nx A i ≤ id → id < nx A (i + 1) → β id = none := fun id l1 l2 => by
    cases hb : β id with
    | none => rfl
    | some x =>
      cases hb0 : β0 id with
      | some y => have := h0 id y hb0; omega
      | none =>
        obtain ⟨k, h3, h4, h5, h6⟩ := h.made id x hb hb0
        have := uniq k id h4 h5 h6 l1 l2
        subst this
        rw [hr.new] at h3; cases h3
  have over : ∀ id x, nx A (i + 1) ≤ id → β id = some x → ∃ k, i < k ∧ k < ops.size ∧ D k = true ∧ nx A k ≤ id ∧ id < nx A (k + 1) := fun id x l1 hb => by
    cases hb0 : β0 id with
    | some y => have := h0 id y hb0; omega
    | none =>
      obtain ⟨k, h3, h4, h5, h6⟩ := h.made id x hb hb0
      refine ⟨k, ?_, h4, h3, h5, h6⟩
      apply Classical.byContradiction
      intro e
      have := hT.mono hH (show k + 1 ≤ i + 1 from by omega) (by omega)
      omega
  have jlo : ∀ id, id < nx A (i + 1) → join β β1 (nx A (i + 1)) id = β1 id := fun id e => if_pos e
  have jhi : ∀ id, ¬ id < nx A (i + 1) → join β β1 (nx A (i + 1)) id = β id := fun id e => if_neg e
  have hext : Ext β (join β β1 (nx A (i + 1))) := fun id x e => by
    by_cases l : id < nx A (i + 1)
    · rw [jlo id l]
      by_cases l2 : id < nx A i
      · rw [eqB id l2]; exact e
      · rw [gap id (by omega) l] at e; cases e
    · rw [jhi id l]; exact e
  have hext1 : Ext β1 (join β β1 (nx A (i + 1))) := fun id x e => by rw [jlo id (b1lt id x e)]; exact e
  have hext2 : Ext β1 (cut (join β β1 (nx A (i + 1))) (nx A (i + 1))) := fun id x e => cut_some.2 ⟨b1lt id x e, hext1 id x e⟩
  have V1 : ∀ id, id < nx A (i + 1) → lw ops A B D' id ≤ i + 1 ∧ V ops A B D' id = heapAt A (i + 1) id := fun id l => by
    refine hT.V_eq hH (by omega) l (fun k hk hw => ?_) (fun k hk hs hd hw => ?_)
    · by_cases e : k = i
      · rw [e]; exact hD1
      · exact hDo k (F1 k (by omega) (List.ne_nil_of_mem hw))
    · rw [hDn k (by omega)] at hd
      rw [F2 k (by omega) hs hd] at hw
      cases hw
  have V2 : ∀ id, (id ∈ (B i).W → nx A i ≤ id) → lw ops A B D' id = lw ops A B D id ∧ V ops A B D' id = V ops A B D id := fun id hw => by
    have : lw ops A B D' id = lw ops A B D id := lst_congr fun k hk => by
      by_cases e : k = i
      · subst e
        unfold wrote
        by_cases hm : id ∈ (B k).W
        · rw [Nat.ble_eq_true_of_le (hw hm), Bool.or_true, Bool.or_true]
        · rw [show has (B k).W id = false from Bool.eq_false_iff.2 fun e => hm (has_iff.1 e), Bool.and_false, Bool.and_false]
      · unfold wrote
        rw [hDn k e]
    refine ⟨this, ?_⟩
    unfold V
    rw [this]
  have noshare : ∀ id2 c sh g, nx A (i + 1) ≤ id2 → β id2 = some (c, sh, g) → ∀ id1 sh' g', id1 < nx A i → β id1 = some (c, sh', g') → False := fun id2 c sh g l hb id1 sh' g' l1 hb1 => by
    obtain ⟨k, k1, k2, k3, k4, k5⟩ := over id2 _ l hb
    have hk := hT.mono hH (show i ≤ k from by omega) (by omega)
    exact h.share id1 id2 c sh' g' sh g k hb1 hb k2 (by omega) k4 k5 (F2 k k1 k2 k3)
  have noshare1 : ∀ id2 c sh g, nx A (i + 1) ≤ id2 → β id2 = some (c, sh, g) → ∀ id1 sh' g', β1 id1 = some (c, sh', g') → False := fun id2 c sh g l hb id1 sh' g' hb1 => by
    by_cases l1 : id1 < nx A i
    · rw [eqB id1 l1] at hb1
      exact noshare id2 c sh g l hb id1 sh' g' l1 hb1
    · rcases p.fresh id1 c sh' g' hb1 (if_neg l1) with hc | ⟨b, sh2, g2, hb2, _⟩
      · have := (h.sim.lt id2 c sh g hb).2; omega
      · have := cut_some.1 hb2
        exact noshare id2 c sh g l hb b sh2 g2 this.1 this.2
  have XD : ∀ (D : Nat → Bool) id, (X ops A B D).heap.get id = if id < nx A ops.size then V ops A B D id else none := fun D id => get_mkT _ _ _
  have Xlo : ∀ id, id < nx A (i + 1) → (X ops A B D').heap.get id = s1.heap.get id := fun id l => by
    rw [XD, if_pos (by omega), (V1 id l).2, h2]
  have Xhi : ∀ id, nx A (i + 1) ≤ id → (X ops A B D').heap.get id = (X ops A B D).heap.get id := fun id l => by
    rw [XD, XD, (V2 id fun _ => by omega).2]
  obtain ⟨t1, t2⟩ := hT.slots_step hr hD h.size h.slots hext (hv.ext hext2)
  refine { ext := fun id x e => hext id x (h.ext id x e), sim := ?_, inB := ?_, made := ?_, size := t1, slots := t2, share := ?_, grow := Nat.le_trans h.grow p.size, frame := ?_, fresh := ?_, same := h.same.trans p.same }
  · refine ⟨?_, ?_, ?_, ?_, ?_, ?_, ?_⟩
    · intro id c sh g e
      by_cases l : id < nx A (i + 1)
      · rw [jlo id l] at e
        exact ⟨show id < nx A ops.size from by omega, (p.sim.lt id c sh g e).2⟩
      · rw [jhi id l] at e
        have := h.sim.lt id c sh g e
        exact ⟨this.1, Nat.lt_of_lt_of_le this.2 p.size⟩
    · intro id c sh g b e hb
      by_cases l : id < nx A (i + 1)
      · rw [jlo id l] at e
        rw [Xlo id l] at hb
        obtain ⟨ob, h3, h4⟩ := p.sim.blk id c sh g b e hb
        exact ⟨ob, h3, h4.ext hext1⟩
      · rw [jhi id l] at e
        rw [Xhi id (by omega)] at hb
        obtain ⟨ob, h3, h4⟩ := h.sim.blk id c sh g b e hb
        refine ⟨ob, ?_, h4.ext hext⟩
        rw [p.frame c (h.sim.lt id c sh g e).2 fun j x ej ec => ?_]
        · exact h3
        · obtain ⟨c', sh', g'⟩ := x
          cases ec
          have := cut_some.1 ej
          exact noshare id _ sh g (by omega) e j sh' g' this.1 this.2
    · intro j k c sh g sh' g' ej ek hne aj ak
      by_cases lj : j < nx A (i + 1)
      · rw [jlo j lj] at ej
        by_cases lk : k < nx A (i + 1)
        · rw [jlo k lk] at ek
          rw [Xlo j lj] at aj ⊢
          rw [Xlo k lk] at ak ⊢
          exact p.sim.inj j k c sh g sh' g' ej ek hne aj ak
        · rw [jhi k lk] at ek
          exact (noshare1 k c sh' g' (by omega) ek j sh g ej).elim
      · rw [jhi j lj] at ej
        by_cases lk : k < nx A (i + 1)
        · rw [jlo k lk] at ek
          exact (noshare1 j c sh g (by omega) ej k sh' g' ek).elim
        · rw [jhi k lk] at ek
          rw [Xhi j (by omega)] at aj ⊢
          rw [Xhi k (by omega)] at ak ⊢
          exact h.sim.inj j k c sh g sh' g' ej ek hne aj ak
    · intro id x f rel n e hfm
      by_cases l : id < nx A (i + 1)
      · rw [jlo id l] at e
        rw [Xlo id l] at hfm
        obtain ⟨g1, g2, ids, g3, g4, g5⟩ := p.sim.fam id x f rel n e hfm
        exact ⟨g1, by rw [jlo f (by omega)]; exact g2, ids, by rw [Xlo f (by omega)]; exact g3, g4, g5⟩
      · rw [jhi id l] at e
        rw [Xhi id (by omega)] at hfm
        obtain ⟨g1, g2, ids, g3, g4, g5⟩ := h.sim.fam id x f rel n e hfm
        have hidm := (h.sim.lt id x.1 x.2.1 x.2.2 e).1
        have hidm : id < nx A ops.size := hidm
        have hfx : f ∉ (B i).W := fun hw => by
          obtain ⟨k, k1, k2, k3, k4, k5⟩ := over id x (by omega) e
          have hq := F3 (List.ne_nil_of_mem hw) k k1 k2 k3
          have := (hT.still k2 hq).1
          omega
        have hXf : (X ops A B D').heap.get f = (X ops A B D).heap.get f := by
          rw [XD, XD, (V2 f fun hw => absurd hw hfx).2]
        refine ⟨g1, ?_, ids, by rw [hXf]; exact g3, g4, g5⟩
        by_cases lf : f < nx A (i + 1)
        · rw [jlo f lf]
          cases hbf : β1 f with
          | none => rfl
          | some y =>
            obtain ⟨c, sh, g⟩ := y
            obtain ⟨ob, _, h4⟩ := p.sim.blk f c sh g (.fam ids) hbf (by rw [← Xlo f lf, hXf]; exact g3)
            cases h4
        · rw [jhi f lf]; exact g2
    · exact Nat.le_trans hng (show nx A 0 ≤ nx A ops.size from by omega)
    · intro g hg hl
      rw [jlo g (by omega)]
      exact p.sim.glob g hg hl
    · intro d hd
      refine ⟨(p.sim.laid d hd).1, fun id x e => ?_⟩
      by_cases l : id < nx A (i + 1)
      · rw [jlo id l] at e
        exact (p.sim.laid d hd).2 id x e
      · rw [jhi id l] at e
        exact (h.sim.laid d hd).2 id x e
  · intro id x b e hb
    by_cases l : id < nx A (i + 1)
    · rw [jlo id l] at e
      by_cases hw : id ∈ (B i).W ∨ nx A i ≤ id
      · have hlw : lw ops A B D' id = i + 1 := Nat.le_antisymm (V1 id l).1 (lst_lt (by
          unfold wrote
          rcases hw with hw | hw
          · rw [hD1, has_iff.2 hw]; rfl
          · rw [Nat.ble_eq_true_of_le hw, Bool.or_true]) hi)
        rw [(V1 id l).2, ← h2] at hb
        obtain ⟨c, sh, g⟩ := x
        obtain ⟨ob, _, h4⟩ := p.sim.blk id c sh g b e hb
        rw [hlw]
        exact ⟨sh, g, ob, h4.ext hext2⟩
      · have hv2 := V2 id fun hm => absurd (.inl hm) hw
        rw [eqB id (by omega)] at e
        rw [hv2.2] at hb
        rw [hv2.1]
        exact (h.inB id x b e hb).ext hext.cut
    · rw [jhi id l] at e
      have hv2 := V2 id fun _ => by omega
      rw [hv2.2] at hb
      rw [hv2.1]
      exact (h.inB id x b e hb).ext hext.cut
  · intro id x e e0
    by_cases l : id < nx A (i + 1)
    · rw [jlo id l] at e
      by_cases l2 : id < nx A i
      · rw [eqB id l2] at e
        obtain ⟨k, h3, h4, h5, h6⟩ := h.made id x e e0
        exact ⟨k, hDo k h3, h4, h5, h6⟩
      · exact ⟨i, hD1, hi, by omega, l⟩
    · rw [jhi id l] at e
      obtain ⟨k, h3, h4, h5, h6⟩ := h.made id x e e0
      exact ⟨k, hDo k h3, h4, h5, h6⟩
  · intro j1 j2 c sh g sh' g' k e1 e2 hk l1 l2 l3
    by_cases lj : j2 < nx A (i + 1)
    · rw [jlo j2 lj] at e2
      rw [jlo j1 (by omega)] at e1
      by_cases lj2 : j2 < nx A i
      · rw [eqB j2 lj2] at e2
        rw [eqB j1 (by omega)] at e1
        exact h.share j1 j2 c sh g sh' g' k e1 e2 hk l1 l2 l3
      · have := uniq k j2 hk l2 l3 (by omega) lj
        subst this
        rw [eqB j1 l1] at e1
        rcases p.fresh j2 c sh' g' e2 (if_neg lj2) with hc | ⟨b, sh2, g2, hb2, hm⟩
        · have := (h.sim.lt j1 c sh g e1).2; omega
        · obtain ⟨f, hf1, _⟩ := hm (cut_some.1 hb2).1
          rw [hW] at hf1
          exact List.ne_nil_of_mem hf1
    · rw [jhi j2 lj] at e2
      by_cases lj1 : j1 < nx A (i + 1)
      · rw [jlo j1 lj1] at e1
        exact (noshare1 j2 c sh' g' (by omega) e2 j1 sh g e1).elim
      · rw [jhi j1 lj1] at e1
        exact h.share j1 j2 c sh g sh' g' k e1 e2 hk l1 l2 l3
  · intro c hc hn
    rw [p.frame c (Nat.lt_of_lt_of_le hc h.grow) fun j x e => h.nopre hc hn j x (cut_some.1 e).2]
    exact h.frame c hc hn
  · intro j c sh g e e0
    by_cases l : j < nx A (i + 1)
    · rw [jlo j l] at e
      by_cases l2 : j < nx A i
      · rw [eqB j l2] at e
        exact h.fresh j c sh g e e0
      · rcases p.fresh j c sh g e (if_neg l2) with hc | ⟨b, sh2, g2, hb2, hm⟩
        · exact .inl (Nat.le_trans h.grow hc)
        · have hb3 := cut_some.1 hb2
          obtain ⟨f, hf1, hf2⟩ := hm hb3.1
          cases hb0 : β0 b with
          | none => exact h.fresh b c sh2 g2 hb3.2 hb0
          | some y =>
            have := h.ext b y hb0
            rw [hb3.2] at this
            cases this
            exact .inr ⟨b, sh2, g2, hb0, fun hmk => ⟨f, hS f (hW ▸ hf1) (by omega), hf2⟩⟩
    · rw [jhi j l] at e
      exact h.fresh j c sh g e e0
end Go.Ev
