/- Regions that draw their order: whatever order comes up, the program's side does as the evaluator in the text's order. -/
import Derived.Test.YtgglmmipdfcbpaaDoorEvD6
namespace Go.Ev
variable {E : Env} {P : Program} {H : Hand} {nt : Nat} {ops : Array Oper} {A : Nat → Pt} {B : Nat → Dt}
variable {β0 : Bond} {w0 : World} {D D' : Nat → Bool} {β β1 : Bond} {w w' : World} {a : Act} {i : Nat} {o : Oper} {v' : Value}

theorem Sim.of {s s2 : AS} (h : Sim E β s w) (hn : s.next ≤ s2.next) (hg : ∀ id, id < s.next → s2.heap.get id = s.heap.get id) : Sim E β s2 w where
  lt i c sh g e := ⟨Nat.lt_of_lt_of_le (h.lt i c sh g e).1 hn, (h.lt i c sh g e).2⟩
  blk i c sh g b e hb := h.blk i c sh g b e (by rwa [hg i (h.lt i c sh g e).1] at hb)
  inj i j c sh g sh' g' e e' hne ai aj := by
    rw [hg i (h.lt i c sh g e).1] at ai ⊢
    rw [hg j (h.lt j c sh' g' e').1] at aj ⊢
    exact h.inj i j c sh g sh' g' e e' hne ai aj
  fam i x f rel n e hf := by
    obtain ⟨c, sh, g⟩ := x
    have hl := (h.lt i c sh g e).1
    rw [hg i hl] at hf
    obtain ⟨h1, h2, ids, h3, h4, h5⟩ := h.fam i _ f rel n e hf
    exact ⟨h1, h2, ids, by rw [hg f (by omega)]; exact h3, h4, h5⟩
  ng := Nat.le_trans h.ng hn
  glob := h.glob
  laid := h.laid
theorem famOf_some {b : Option Blk} {x : Nat × Nat × Nat} (h : famOf b = some x) : ∃ c, b = some c := by
  cases b with
  | none => cases h
  | some c => exact ⟨c, rfl⟩
theorem alive_some {b : Option Blk} (h : alive b = true) : ∃ c, b = some c := by
  cases b with
  | none => cases h
  | some c => exact ⟨c, rfl⟩
/-- A memory that is what has been made so far, as far as it goes. -/
theorem Inv.part (h : Inv E nt ops A B β0 w0 D β w a) {s2 : AS} (h0 : nx A 0 ≤ s2.next) (hm : s2.next ≤ nx A ops.size) (hng : E.ng ≤ nx A 0)
    (hb : ∀ id x b, β id = some x → id < s2.next → s2.heap.get id = some b → V ops A B D id = some b ∧ nx A (lw ops A B D id) ≤ s2.next)
    (hf : ∀ id x f rel k, β id = some x → id < s2.next → famOf (s2.heap.get id) = some (f, rel, k) → f < id → s2.heap.get f = V ops A B D f) : Sim E (cut β s2.next) s2 w := by
  have XD : ∀ id, id < s2.next → (X ops A B D).heap.get id = V ops A B D id := fun id l => by
    rw [show (X ops A B D).heap.get id = if id < nx A ops.size then V ops A B D id else none from get_mkT _ _ _, if_pos (by omega)]
  refine ⟨?_, ?_, ?_, ?_, ?_, ?_, ?_⟩
  · intro id c sh g e
    have e := cut_some.1 e
    exact ⟨e.1, (h.sim.lt id c sh g e.2).2⟩
  · intro id c sh g b e hbb
    have e := cut_some.1 e
    obtain ⟨h1, h2⟩ := hb id _ b e.2 e.1 hbb
    obtain ⟨ob, h3, h4⟩ := h.sim.blk id c sh g b e.2 (by rw [XD id e.1]; exact h1)
    obtain ⟨sh2, g2, o2, h5⟩ := (h.inB id _ b e.2 h1).ext (cut_le h2)
    exact ⟨ob, h3, h5.restrict cut_sub h4⟩
  · intro id j c sh g sh' g' e e' hne ai aj
    have e := cut_some.1 e
    have e' := cut_some.1 e'
    obtain ⟨b, hbi⟩ := alive_some ai
    obtain ⟨b', hbj⟩ := alive_some aj
    have h1 := (hb id _ b e.2 e.1 hbi).1
    have h2 := (hb j _ b' e'.2 e'.1 hbj).1
    have := h.sim.inj id j c sh g sh' g' e.2 e'.2 hne (by rw [XD id e.1, h1, ← hbi]; exact ai) (by rw [XD j e'.1, h2, ← hbj]; exact aj)
    rw [XD id e.1, XD j e'.1, h1, h2, ← hbi, ← hbj] at this
    exact this
  · intro id x f rel k e hfm
    have e := cut_some.1 e
    obtain ⟨b, hbi⟩ := famOf_some hfm
    have h1 := (hb id _ b e.2 e.1 hbi).1
    obtain ⟨g1, g2, ids, g3, g4, g5⟩ := h.sim.fam id x f rel k e.2 (by rw [XD id e.1, h1, ← hbi]; exact hfm)
    refine ⟨g1, ?_, ids, ?_, g4, g5⟩
    · rw [cut_of (by omega)]; exact g2
    · rw [hf id x f rel k e.2 e.1 hfm g1, ← XD f (by omega)]; exact g3
  · omega
  · intro g hg hl
    exact cut_some.2 ⟨by omega, h.sim.glob g hg hl⟩
  · intro d hd
    exact ⟨(h.sim.laid d hd).1, fun id x e => (h.sim.laid d hd).2 id x (cut_some.1 e).2⟩
theorem Told.marks (hT : Told E H nt ops A B) {j k : Nat} (hj : j ≤ k) (hk : k ≤ ops.size) : (A k).S.mark = (A j).S.mark ∧ ∀ f, f ∈ (A j).S.wr → f ∈ (A k).S.wr := by
  induction k with
  | zero => rw [show j = 0 from by omega]; exact ⟨rfl, fun _ h => h⟩
  | succ k ih =>
    by_cases e : j = k + 1
    · rw [e]; exact ⟨rfl, fun _ h => h⟩
    · obtain ⟨h1, h2⟩ := ih (by omega) (by omega)
      obtain ⟨o, ho⟩ := lt_get (ops := ops) (k := k) (by omega)
      obtain ⟨b, _, _, h | h⟩ := hT.step k o ho
      · obtain ⟨_, s1, _, _, _, _, h6⟩ := h
        rw [h6]
        exact ⟨h1, fun f hf => mem_keepBelow.2 (.inr (h2 f hf))⟩
      · obtain ⟨_, _, _, _, _, h6⟩ := h
        rw [h6]
        exact ⟨h1, h2⟩

/-- All has been done. -/
theorem Inv.all (hT : Told E H nt ops A B) (hH : HandKept H) (h : Inv E nt ops A B β0 w0 D β w a) (hD : ∀ k, k < ops.size → D k = true) :
    Post E β0 (A 0).S w0 β (A ops.size).S w ∧ TR β nt (A ops.size).T a.tmps := by
  have hV : ∀ id, id < nx A ops.size → V ops A B D id = heapAt A ops.size id := fun id l => (hT.V_eq hH (Nat.le_refl _) l (fun k hk _ => hD k hk) (fun k h1 h2 => by omega)).2
  constructor
  · refine ⟨h.ext, fun id x e e0 => ?_, h.sim.of (Nat.le_refl _) fun id l => ?_, h.grow, h.frame, h.fresh, h.same⟩
    · obtain ⟨k, _, h2, h3, _⟩ := h.made id x e e0
      have := hT.mono hH (Nat.zero_le k) (by omega)
      exact Nat.le_trans this h3
    · have l : id < nx A ops.size := l
      rw [show (X ops A B D).heap.get id = if id < nx A ops.size then V ops A B D id else none from get_mkT _ _ _, if_pos l, hV id l]
      rfl
  · refine ⟨h.size, fun d v e => ?_⟩
    have hu := (hT.U_eq (D := D) (d := d) (Nat.le_refl ops.size) (fun k o hk _ _ => hD k hk) (fun k o h1 ho => by have := get_lt ho; omega)).2
    obtain ⟨v', h1, h2⟩ := h.slots d v (by rw [hu]; exact e)
    exact ⟨v', h1, h2.ext cut_sub⟩
/-- Nothing has been done. -/
theorem Inv.none (hT : Told E H nt ops A B) (hH : HandKept H) (hD : ∀ k, D k = false) (h : Sim E β (A 0).S w) (ht : TR β nt (A 0).T a.tmps) : Inv E nt ops A B β w D β w a := by
  have hl : ∀ id x, β id = some x → id < nx A 0 := fun id x e => (h.lt id x.1 x.2.1 x.2.2 e).1
  have hV : ∀ id, id < nx A 0 → lw ops A B D id ≤ 0 ∧ V ops A B D id = heapAt A 0 id := fun id l => hT.V_eq hH (Nat.zero_le _) l (fun k hk => by omega) (fun k _ _ hd => by rw [hD] at hd; cases hd)
  have hU : ∀ d, ls ops D d ≤ 0 ∧ U ops A D d = (A 0).T.get d := fun d => hT.U_eq (Nat.zero_le _) (fun k o hk => by omega) (fun k o _ _ hd => by rw [hD] at hd; cases hd)
  have hm : nx A 0 ≤ nx A ops.size := hT.mono hH (Nat.zero_le _) (Nat.le_refl _)
  refine ⟨.refl β, h.of hm fun id l => ?_, fun id x b e hb => ?_, fun id x e e0 => (by rw [e0] at e; cases e), ht.size, fun d v e => ?_, fun j1 j2 c sh g sh' g' k e1 e2 hk l1 l2 l3 => ?_, Nat.le_refl _, fun _ _ _ => rfl, fun j c sh g e e0 => (by rw [e0] at e; cases e), .refl w⟩
  · have l : id < nx A 0 := l
    rw [show (X ops A B D).heap.get id = if id < nx A ops.size then V ops A B D id else Option.none from get_mkT _ _ _, if_pos (by omega), (hV id l).2]
    rfl
  · have l := hl id x e
    rw [(hV id l).2] at hb
    obtain ⟨ob, _, h2⟩ := h.blk id x.1 x.2.1 x.2.2 b e hb
    rw [show lw ops A B D id = 0 from Nat.le_zero.1 (hV id l).1]
    exact ⟨_, _, ob, h2.ext fun j y ej => cut_some.2 ⟨hl j y ej, ej⟩⟩
  · rw [(hU d).2] at e
    obtain ⟨v', h1, h2⟩ := ht.get d v e
    rw [show ls ops D d = 0 from Nat.le_zero.1 (hU d).1]
    exact ⟨v', h1, h2.ext fun j y ej => cut_some.2 ⟨hl j y ej, ej⟩⟩
  · have := hl j2 _ e2
    have := hT.mono hH (Nat.zero_le k) (by omega)
    omega

theorem Post.flat {s : AS} {β' : Bond} (p : Post E β s w β' s w') : Ext β' β := fun i x e => by
  cases hb : β i with
  | none =>
    have h1 := p.new i x e hb
    have h2 := (p.sim.lt i x.1 x.2.1 x.2.2 e).1
    omega
  | some y => have := p.ext i y hb; rw [e] at this; cases this; rfl
theorem Sim.ext {s : AS} (h : Sim E β1 s w) (h1 : Ext β1 β) (h2 : Ext β β1) : Sim E β s w := by
  have : β1 = β := by
    funext i
    cases hb : β i with
    | some y => exact h2 i y hb
    | none =>
      cases hb1 : β1 i with
      | none => rfl
      | some y => have := h1 i y hb1; rw [hb] at this; cases this
  exact this ▸ h
theorem footOf_bound {γ : Bond} {v v' : Value} {b : Nat} (h : VR γ v v') (hf : footOf (some v) = .one b) : ∃ x, γ b = some x := by
  cases h <;> simp only [footOf] at hf <;> cases hf <;> exact ⟨_, ‹_›⟩
theorem foot_bound {γ : Bond} {s : AS} (h : Sim E γ s w) {t : Fr} (ht : TR γ nt t a.tmps) {o : Op} {b : Nat} (hf : foot E t o = .one b) : ∃ x, γ b = some x := by
  have key : ∀ x, footOf (aval E t x) = .one b → ∃ y, γ b = some y := fun x hx => by
    obtain ⟨v, hv⟩ := footOf_any (v := aval E t x) (by rw [hx]; exact fun e => by cases e)
    rw [hv] at hx
    exact footOf_bound (aval_sim h ht hv) hx
  cases o with
  | load ty x => exact key x hf
  | lookup ty x k ok => exact key x hf
  | slice ty x lo hi mx => exact key x hf
  | call c =>
    have hf : footCall E t c = .one b := hf
    unfold footCall at hf
    split at hf
    · exact key _ hf
    · cases hf
  | _ => cases hf

theorem count_set {listed : Array Bool} {n : Nat} (hi : i < listed.size) (h : listed.getD i false = false) (hc : listed.toList.count false = n + 1) : (listed.setIfInBounds i true).toList.count false = n := by
  rw [Array.toList_setIfInBounds, List.count_set (by simpa using hi)]
  have hg : listed.toList[i]'(by simpa using hi) = false := by
    rw [Array.getD_eq_getD_getElem?, Array.getElem?_eq_getElem hi] at h
    simpa using h
  rw [hg, hc]
  simp
theorem count_zero {listed : Array Bool} (hc : listed.toList.count false = 0) {k : Nat} (hk : k < listed.size) : listed.getD k false = true := by
  rw [Array.getD_eq_getD_getElem?, Array.getElem?_eq_getElem hk]
  have : false ∉ listed.toList := List.count_eq_zero.1 hc
  cases h : listed[k] with
  | true => rfl
  | false => exact absurd (h ▸ Array.mem_toList_iff.2 (Array.getElem_mem hk)) this
theorem least_ready (ht : tidy ops = true) {listed : Array Bool} (hs : listed.size = ops.size) (hr : Region.ready .any ops listed = []) : ∀ k, k < ops.size → listed.getD k false = true := by
  intro k
  induction k using Nat.strongRecOn with
  | ind k ih =>
    intro hk
    apply Classical.byContradiction
    intro hn
    obtain ⟨o, ho⟩ := lt_get hk
    have : k ∈ Region.ready .any ops listed := by
      refine mem_ready.2 ⟨?_, o, ho, fun e he hb => ih e.on (edges_spec ht ho e he hb) (Nat.lt_trans (edges_spec ht ho e he hb) hk)⟩
      rw [Array.getD_eq_getD_getElem?, Array.getElem?_eq_getElem (by omega)] at hn ⊢
      simpa using hn
    rw [hr] at this
    cases this
theorem getD_set {listed : Array Bool} (hi : i < listed.size) (k : Nat) : (listed.setIfInBounds i true).getD k false = (k == i || listed.getD k false) := by
  simp only [Array.getD_eq_getD_getElem?, Array.getElem?_setIfInBounds]
  by_cases e : i = k
  · subst e; simp [hi]
  · have : (k == i) = false := by simpa using fun h => e h.symm
    rw [if_neg e, this, Bool.false_or]

theorem drawOK (hE : EnvOK E P) (hH : HandOK E P H) (hm : P.follows .mixedOrders = true) : DrawOK E P H := by
  intro rnd n nt id ops β w0s w0 t a0 r Q htidy hsim htr hrun hQ
  obtain ⟨A, B, hT, q1, q2, q3, q4⟩ := told_of hrun
  refine wpIn_region_any hm ?_
  have hk := hH.kept
  have hsim0 : Sim E β (A 0).S w0 := by rw [q1]; exact hsim
  have h0 : ∀ id x, β id = some x → id < nx A 0 := fun id x e => (hsim0.lt id x.1 x.2.1 x.2.2 e).1
  have hng : E.ng ≤ nx A 0 := hsim0.ng
  have hmono : ∀ {j k : Nat}, j ≤ k → k ≤ ops.size → nx A j ≤ nx A k := fun h1 h2 => hT.mono hk h1 h2
  have main : ∀ (fuel : Nat) (listed : Array Bool) (β' : Bond) (w : World) (a : Act), listed.size = ops.size → listed.toList.count false = fuel → (Closed ops fun i => listed.getD i false = true) →
      Inv E nt ops A B β w0 (fun k => listed.getD k false) β' w a → a.defers = a0.defers → wpAnyIn (Fw rnd) n P .any ops Q fuel listed a w := by
    intro fuel
    induction fuel with
    | zero =>
      intro listed β' w a hs hc hcl hI hd
      have hall : ∀ k, k < ops.size → listed.getD k false = true := fun k hk => count_zero hc (by omega)
      obtain ⟨p1, p2⟩ := hI.all hT hk hall
      refine ⟨?_, hQ a w β' hd (by rw [← q1, ← q3]; exact p1) (by rw [← q4]; exact p2)⟩
      apply List.eq_nil_iff_forall_not_mem.2
      intro k hkr
      obtain ⟨h1, o, ho, _⟩ := mem_ready.1 hkr
      have hks : k < listed.size := by rw [hs]; exact get_lt ho
      have := hall k (get_lt ho)
      rw [Array.getD_eq_getD_getElem?, Array.getElem?_eq_getElem hks] at this h1
      simp only [Option.getD_some] at this h1
      rw [this] at h1; cases h1
    | succ fuel ih =>
      intro listed β' w a hs hc hcl hI hd
      refine ⟨fun hnil => ?_, fun i hir => ?_⟩
      · obtain ⟨p1, p2⟩ := hI.all hT hk (least_ready htidy hs hnil)
        exact hQ a w β' hd (by rw [← q1, ← q3]; exact p1) (by rw [← q4]; exact p2)
      · obtain ⟨o, hr⟩ := hT.rdy htidy hcl hir
        have hi := get_lt hr.get
        have hil : i < listed.size := by omega
        have hDD := getD_set (listed := listed) hil
        have hcl' := ready_closed hs hcl hir
        have hc' := count_set hil hr.new hc
        -- what is to be shown behind the operation
        have cont : ∀ (β2 : Bond) (w2 : World) (a2 : Act), a2.defers = a0.defers → Inv E nt ops A B β w0 (fun k => (listed.setIfInBounds i true).getD k false) β2 w2 a2 →
            wpAnyIn (Fw rnd) n P .any ops Q fuel (listed.setIfInBounds i true) a2 w2 := fun β2 w2 a2 hd2 hI2 => ih _ β2 w2 a2 (by simpa using hs) hc' hcl' hI2 hd2
        have hput : ∀ v', (a.put o.dst v').defers = a0.defers := fun v' => by rw [← hd]; cases o.dst <;> rfl
        -- its slots
        let t1 : Fr := mkT (fun d => bif Nat.ble (ls ops (fun k => listed.getD k false) d) i then U ops A (fun k => listed.getD k false) d else none) nt
        have ht1 : TR (cut β' (nx A i)) nt t1 a.tmps := by
          refine ⟨hI.size, fun d v e => ?_⟩
          have e : (mkT _ nt).get d = some v := e
          rw [get_mkT] at e
          split at e
          · cases hb : Nat.ble (ls ops (fun k => listed.getD k false) d) i with
            | false => rw [hb] at e; cases e
            | true =>
              rw [hb] at e
              obtain ⟨v', h1, h2⟩ := hI.slots d v e
              exact ⟨v', h1, h2.ext (cut_le (hmono (Nat.le_of_ble_eq_true hb) (by omega)))⟩
          · cases e
        have htn : ∀ d, Names ops o d → t1.get d = (A i).T.get d := fun d hn => by
          obtain ⟨h1, h2⟩ := hT.U_eq (D := fun k => listed.getD k false) (i := i) (d := d) (by omega) (fun k o' hk ho' hd' => hr.aheadT k o' d hk ho' hd' hn) (fun k o' hk ho' hdk => by
            by_cases e : k = i
            · subst e
              have hnn : listed.getD k false = false := hr.new
              have hdk : listed.getD k false = true := hdk
              rw [hnn] at hdk; cases hdk
            · exact hr.behindT k o' d (by omega) ho' hdk hn)
          show (mkT _ nt).get d = _
          rw [get_mkT, Nat.ble_eq_true_of_le h1]
          dsimp only [cond_true]
          split
          · exact h2
          · rename_i hdn
            cases hu : U ops A (fun k => listed.getD k false) d with
            | none => rw [← h2, hu]
            | some v =>
              obtain ⟨v', h3, _⟩ := hI.slots d v hu
              have := (Array.getElem?_eq_some_iff.1 h3).1
              rw [hI.size] at this
              exact absurd this hdn
        obtain ⟨bb, hw, _, hst⟩ := hT.step i o hr.get
        rw [← wanted_congr htn] at hw
        have hwant := wanted_sim ht1 hw
        unfold wpOpIn
        rw [hr.get]
        dsimp only
        rw [hwant]
        rcases hst with ⟨hwt, s1, h2, h3, h4, _, h6⟩ | ⟨hwt, h2, h3, h4, _, _⟩
        · rw [hwt, if_pos rfl]
          have hfc := foot_congr (E := E) (o := o.op) fun d hd => htn d (.inr (.inl hd))
          rw [← aop_congr (fun d hd => htn d (.inr (.inl hd)))] at h2
          rw [← hfc] at h4
          have hnx : nx A (i + 1) = s1.next := by unfold nx; rw [h6]
          have hhp : ∀ id, s1.heap.get id = heapAt A (i + 1) id := fun id => by unfold heapAt; rw [h6]
          have hn0i : nx A 0 ≤ nx A i := hmono (Nat.zero_le _) (by omega)
          have hnim : nx A i ≤ nx A ops.size := hmono (by omega) (Nat.le_refl _)
          by_cases hf : (B i).ft = .any
          · have VE : ∀ id, id < nx A i → lw ops A B (fun k => listed.getD k false) id ≤ i ∧ V ops A B (fun k => listed.getD k false) id = heapAt A i id := fun id l =>
              hT.V_eq hk (by omega) l (fun k hki hwk => hr.ahead k hki (.inl ⟨hf, List.ne_nil_of_mem hwk⟩)) (fun k hki hks hdk hwk => by
                by_cases e : k = i
                · subst e
                  have hnn : listed.getD k false = false := hr.new
                  have hdk : listed.getD k false = true := hdk
                  rw [hnn] at hdk; cases hdk
                · exact hr.behind k (by omega) hks hdk (.inr (.inl ⟨List.ne_nil_of_mem hwk, hf⟩)))
            have hpart : Sim E (cut β' (nx A i)) (A i).S.anew w := hI.part (s2 := (A i).S.anew) hn0i hnim hng
              (fun id x b e l hb => ⟨by rw [(VE id l).2]; exact hb, hmono (VE id l).1 (by omega)⟩) (fun id x f rel k e l hfm hlt => (VE f (Nat.lt_trans hlt l)).2.symm)
            refine oper_wp hE hH hpart ht1 h2 fun v' w' β1 p hv hn => cont (join β' β1 (nx A (i + 1))) w' _ (hput v') ?_
            refine hI.loud hT hk hr hDD hf p hnx.symm hhp h3.symm (fun f hfw hfm => ?_) hng h0 (VR.outcome hv hn)
            have hmk := hT.marks (Nat.zero_le i) (by omega)
            refine (hT.marks (show i + 1 ≤ ops.size from hi) (Nat.le_refl _)).2 f ?_
            rw [h6]
            exact mem_keepBelow.2 (.inl ⟨h3 ▸ hfw, by rw [hmk.1]; exact hfm⟩)
          · have hf' : foot E t1 o.op ≠ .any := h4 ▸ hf
            -- the block it looks at
            have VE : ∀ b, foot E t1 o.op = .one b → b < nx A i → lw ops A B (fun k => listed.getD k false) b ≤ i ∧ V ops A B (fun k => listed.getD k false) b = heapAt A i b := fun b hfb l =>
              hT.V_eq hk (by omega) l (fun k hki hwk => hr.ahead k hki (.inr (.inr (.inr ⟨b, by rw [h4]; exact hfb, hwk⟩)))) (fun k hki hks hdk hwk => by
                by_cases e : k = i
                · subst e
                  have hnn : listed.getD k false = false := hr.new
                  have hdk : listed.getD k false = true := hdk
                  rw [hnn] at hdk; cases hdk
                · exact hr.behind k (by omega) hks hdk (.inr (.inr (.inl ⟨b, by rw [h4]; exact hfb, hwk⟩))))
            let sel : Nat → Bool := fun id => match foot E t1 o.op with
              | .one b => Nat.beq id b || (match famOf (V ops A B (fun k => listed.getD k false) b) with | some (f, _, _) => Nat.beq id f | none => false)
              | _ => false
            let Y : AS := ⟨mkT (fun id => bif sel id then V ops A B (fun k => listed.getD k false) id else none) (nx A i), nx A i, nx A i, []⟩
            have hY : ∀ id, Y.heap.get id = if id < nx A i then (bif sel id then V ops A B (fun k => listed.getD k false) id else none) else none := fun id => get_mkT _ _ _
            have hgl : ∀ b x, foot E t1 o.op = .one b → cut β' (nx A i) b = some x → b < nx A i := fun b x _ e => (cut_some.1 e).1
            -- the bond holds the block
            have hbd : ∀ b, foot E t1 o.op = .one b → ∃ x, cut β' (nx A i) b = some x := by
              intro b hfb
              have hZ : Sim E (cut β' (nx A i)) ⟨.nil, nx A i, nx A i, []⟩ w := hI.part (s2 := ⟨.nil, nx A i, nx A i, []⟩) hn0i hnim hng (fun id x b e l hb => by cases hb) (fun id x f rel k e l hfm => by cases hfm)
              exact foot_bound hZ ht1 hfb
            have hpart : Sim E (cut β' (nx A i)) Y w := by
              refine hI.part (s2 := Y) hn0i hnim hng (fun id x b e l hb => ?_) (fun id x f rel k e l hfm hlt => ?_)
              · have l : id < nx A i := l
                rw [hY, if_pos l] at hb
                cases hsel : sel id with
                | false => rw [hsel] at hb; cases hb
                | true =>
                  rw [hsel] at hb
                  refine ⟨hb, ?_⟩
                  dsimp only [sel] at hsel
                  split at hsel
                  · rename_i b' hfb
                    rw [Bool.or_eq_true] at hsel
                    rcases hsel with hsel | hsel
                    · have := Nat.eq_of_beq_eq_true hsel
                      subst this
                      exact hmono (VE id hfb l).1 (by omega)
                    · split at hsel
                      · rename_i f rel k hfm
                        have := Nat.eq_of_beq_eq_true hsel
                        subst this
                        obtain ⟨y, hy⟩ := hbd b' hfb
                        have hy := cut_some.1 hy
                        have := (hI.sim.fam b' y id rel k hy.2 (by
                          rw [show (X ops A B _).heap.get b' = if b' < nx A ops.size then V ops A B (fun k => listed.getD k false) b' else none from get_mkT _ _ _, if_pos (by omega)]
                          exact hfm)).2.1
                        rw [e] at this; cases this
                      · cases hsel
                  · cases hsel
              · have l : id < nx A i := l
                rw [hY, if_pos l] at hfm
                cases hsel : sel id with
                | false => rw [hsel] at hfm; cases hfm
                | true =>
                  rw [hsel] at hfm
                  rw [hY, if_pos (by omega)]
                  have hself : sel f = true := by
                    dsimp only [sel] at hsel ⊢
                    split at hsel
                    · rename_i b' hfb
                      rw [Bool.or_eq_true] at hsel
                      rcases hsel with hsel | hsel
                      · have := Nat.eq_of_beq_eq_true hsel
                        subst this
                        have hfm : famOf (V ops A B (fun k => listed.getD k false) id) = some (f, rel, k) := hfm
                        rw [hfm]
                        dsimp only
                        rw [Nat.beq_refl, Bool.or_true]
                      · split at hsel
                        · rename_i f' rel' k' hfm'
                          have := Nat.eq_of_beq_eq_true hsel
                          subst this
                          obtain ⟨y, hy⟩ := hbd b' hfb
                          have hy := cut_some.1 hy
                          have := (hI.sim.fam b' y id rel' k' hy.2 (by
                            rw [show (X ops A B _).heap.get b' = if b' < nx A ops.size then V ops A B (fun k => listed.getD k false) b' else none from get_mkT _ _ _, if_pos (by omega)]
                            exact hfm')).2.1
                          rw [e] at this; cases this
                        · cases hsel
                    · cases hsel
                  rw [hself]
                  rfl
            have hnc : ∀ c f, o.op = .call c → c.callee ≠ .value f := fun c f e1 e2 => by
              rw [e1] at hf'
              apply hf'
              show footCall E t1 c = .any
              unfold footCall
              rw [e2]
            have hat : ∀ s2 : AS, (∀ b, foot E t1 o.op = .one b → b < nx A i → s2.heap.get b = V ops A B (fun k => listed.getD k false) b) → AtFoot (A i).S.anew s2 (foot E t1 o.op) := fun s2 hs2 b hfb => by
              obtain ⟨x, hx⟩ := hbd b hfb
              have l := (cut_some.1 hx).1
              rw [hs2 b hfb l, (VE b hfb l).2]
              rfl
            have hfull := (aop_foot (s2 := X ops A B fun k => listed.getD k false) hf' (hat _ fun b _ l => by
              rw [show (X ops A B _).heap.get b = if b < nx A ops.size then V ops A B (fun k => listed.getD k false) b else none from get_mkT _ _ _, if_pos (by omega)]) h2).2
            have hsub := (aop_foot (s2 := Y) hf' (hat _ fun b hfb l => by
              rw [hY, if_pos l]
              have : sel b = true := by
                dsimp only [sel]
                rw [hfb]
                dsimp only
                rw [Nat.beq_refl, Bool.true_or]
              rw [this]
              rfl) h2).2
            obtain ⟨res, w', βf, e1, _, p1⟩ := aop_sim (P := P) hE H hI.sim (ht1.ext cut_sub) hfull hnc
            obtain ⟨res', w'', βs, e2, ro, p2⟩ := aop_sim (P := P) hE H hpart ht1 hsub hnc
            rw [e1] at e2
            cases e2
            have hvs : ∀ v', VR βs (outcome (B i).v) v' → VR (cut β' (nx A (i + 1))) (outcome (B i).v) v' := fun v' hv =>
              (hv.ext p2.flat).ext (cut_le (hmono (Nat.le_succ i) (by omega)))
            have hgo : ∀ v', VR βs (outcome (B i).v) v' → wpAnyIn (Fw rnd) n P .any ops Q fuel (listed.setIfInBounds i true) (a.put o.dst v') w' := fun v' hv =>
              cont β' w' _ (hput v') (hI.quiet hT hr hDD hf (p1.sim.ext p1.flat p1.ext) p1.size p1.frame p1.same (hvs v' hv))
            have hnd : ∀ c, o.op ≠ .defer c := fun c e => by rw [e] at h2; cases h2
            refine ⟨fun f _ => fw_fn rnd f, ?_⟩
            rw [Oper.semAt_eq _ _ _ hnd, e1]
            generalize hv0 : (B i).v = v0 at ro hgo
            cases ro with
            | value hv => exact hgo _ hv
            | skip => exact hgo _ (.tuple rfl (fun i v v' h => by simp at h))
        · rw [hwt, if_neg (by decide)]
          refine ⟨fun f _ => fw_fn rnd f, cont β' w _ (hput _) ?_⟩
          exact hI.quiet hT hr hDD (by rw [h4]; exact fun e => by cases e) hI.sim (Nat.le_refl _) (fun _ _ _ => rfl) (.refl w) (by rw [h2]; exact .tuple rfl (fun i v v' h => by simp at h))
  refine main ops.size _ β _ a0 (by simp) (by simp) ?_ ?_ rfl
  · intro k o hk _ _ _ _
    rw [Array.getD_eq_getD_getElem?] at hk
    by_cases e : k < ops.size
    · rw [Array.getElem?_eq_getElem (by simpa using e)] at hk
      simp at hk
    · rw [Array.getElem?_eq_none (by simpa using e)] at hk
      simp at hk
  · have := Inv.none (D := fun k => (Array.replicate ops.size false).getD k false) (a := a0) hT hk (fun k => ?_) hsim0 (by rw [q2]; exact htr)
    · exact ⟨this.ext, this.sim.heap rfl, this.inB, this.made, this.size, this.slots, this.share, this.grow, this.frame, this.fresh, ⟨rfl, rfl, rfl⟩⟩
    · rw [Array.getD_eq_getD_getElem?]
      by_cases e : k < ops.size
      · rw [Array.getElem?_eq_getElem (by simpa using e)]
        simp
      · rw [Array.getElem?_eq_none (by simpa using e)]
        rfl
end Go.Ev
