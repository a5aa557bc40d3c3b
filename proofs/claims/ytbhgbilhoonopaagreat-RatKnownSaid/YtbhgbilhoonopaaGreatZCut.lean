/- A region whose last operations wait for all that stand ahead of them: those come up in the text's order, behind the others. -/
import Derived.Test.YtbhgbilhoonopaaGreatZE
namespace Go.Proofs.YtbhgbilhoonopaaGreat
open Go.RowKit
set_option linter.unusedVariables false

section
variable {P : Program} {ops pre : Array Oper} {Q : Exit → Act → World → Prop}

/-- Operation i waits for j, by others too. -/
def reachB (ops : Array Oper) : Nat → Nat → Nat → Bool
  | 0, i, j => needs ops i j
  | f + 1, i, j => needs ops i j || (List.range i).any fun m => needs ops i m && reachB ops f m j
theorem reach_listed {C : Nat → Prop} (hcl : ∀ a b, C a → needs ops a b = true → C b) : ∀ (f i j : Nat), (∀ b, needs ops i b = true → C b) → reachB ops f i j = true → C j
  | 0, i, j, hi, h => hi j h
  | f + 1, i, j, hi, h => by
    rw [reachB, Bool.or_eq_true, List.any_eq_true] at h
    rcases h with h | ⟨m, _, h⟩
    · exact hi j h
    · rw [Bool.and_eq_true] at h
      exact reach_listed hcl f m j (fun b hb => hcl m b (hi m h.1) hb) h.2
/-- From m on, each operation waits for all ahead of it. -/
def tailWaits (ops : Array Oper) (m : Nat) : Bool := (List.range ops.size).all fun i => decide (i < m) || (List.range i).all fun j => reachB ops 8 i j
theorem tailWaits_needs {m : Nat} (h : tailWaits ops m = true) {i j : Nat} (hi : i < ops.size) (hm : m ≤ i) (hj : j < i) : reachB ops 8 i j = true := by
  unfold tailWaits at h
  rw [List.all_eq_true] at h
  have h1 := h i (List.mem_range.2 hi)
  rw [Bool.or_eq_true, decide_eq_true_eq, List.all_eq_true] at h1
  rcases h1 with h1 | h1
  · omega
  · exact h1 j (List.mem_range.2 hj)
theorem needs_lt (hE : edgesBack ops = true) {i j : Nat} (h : needs ops i j = true) : j < i := by
  unfold needs at h
  cases ho : ops[i]? with
  | none => rw [ho] at h; cases h
  | some o =>
    rw [ho] at h
    simp only [Option.any_some, Array.any_eq_true'] at h
    obtain ⟨e, he, hje⟩ := h
    rw [Bool.and_eq_true, beq_iff_eq] at hje
    have := edgesBack_lt hE ho he hje.1
    omega
/-- Guards look at operations of their own region. -/
def guardsIn (ops : Array Oper) : Bool := (List.range ops.size).all fun i => (ops[i]?).all fun o => match o.guard with | some (g, _) => decide (g < ops.size) | none => true
theorem guardsIn_lt (h : guardsIn ops = true) {i g : Nat} {b : Bool} {o : Oper} (ho : ops[i]? = some o) (hg : o.guard = some (g, b)) : g < ops.size := by
  unfold guardsIn at h
  rw [List.all_eq_true] at h
  have h1 := h i (List.mem_range.2 (Array.getElem?_eq_some_iff.1 ho).1)
  rw [ho] at h1
  simp only [Option.all_some, hg, decide_eq_true_eq] at h1
  exact h1

/-- Just the first k came up. -/
structure Upto (ops : Array Oper) (listed : Array Bool) (k : Nat) : Prop where
  size : listed.size = ops.size
  at_ : ∀ i, i < ops.size → listed.getD i false = decide (i < k)
theorem getD_any {listed : Array Bool} {i : Nat} (h : i < listed.size) (b : Bool) : listed.getD i b = listed.getD i false := by simp [h]
theorem getD_out {listed : Array Bool} {i : Nat} (h : listed.size ≤ i) (b : Bool) : listed.getD i b = b := by simp [h]
theorem Upto.ready {listed : Array Bool} {k m i : Nat} (h : Upto ops listed k) (hE : edgesBack ops = true) (hT : tailWaits ops m = true) (hm : m ≤ k) (hi : i ∈ Region.ready .any ops listed) : i = k := by
  obtain ⟨hun, o, ho, hall⟩ := mem_ready.1 hi
  have hil := (Array.getElem?_eq_some_iff.1 ho).1
  rw [getD_any (by rw [h.size]; exact hil) true, h.at_ i hil, decide_eq_false_iff_not] at hun
  rcases Nat.lt_or_ge k i with hk | hk
  · have hn := tailWaits_needs hT hil (by omega) hk
    have : k < k := by
      refine reach_listed (C := fun j => j < k) (fun a b ha hb => ?_) 8 i k (fun b hb => ?_) hn
      · have := needs_lt hE hb
        omega
      · have h1 := ready_needs hi hb
        have h2 := needs_lt hE hb
        rw [h.at_ b (by omega), decide_eq_true_eq] at h1
        exact h1
    omega
  · omega
theorem Upto.step {listed : Array Bool} {k : Nat} (h : Upto ops listed k) (hk : k < ops.size) : Upto ops (listed.setIfInBounds k true) (k + 1) := by
  refine ⟨by rw [Array.size_setIfInBounds]; exact h.size, fun i hi => ?_⟩
  by_cases e : k = i
  · subst e
    have : k < listed.size := by rw [h.size]; exact hk
    simp [this]
  · rw [getD_set_ne false e, h.at_ i hi, decide_eq_decide]
    omega

theorem tail_seq {m : Nat} (hT : tailWaits ops m = true) (hE : edgesBack ops = true) : ∀ (r k fuel : Nat) (listed : Array Bool) (a : Act) (w : World), k + r = ops.size → m ≤ k → r ≤ fuel → Upto ops listed k → wpList P ops Q (ops.toList.drop k) a w → wpAny P .any ops Q fuel listed a w := by
  intro r
  induction r with
  | zero =>
    intro k fuel listed a w hk hm hf hu h
    rw [List.drop_of_length_le (by simp; omega)] at h
    have hr : Region.ready .any ops listed = [] := by
      apply List.eq_nil_iff_forall_not_mem.2
      intro i hi
      have := hu.ready hE hT hm hi
      obtain ⟨_, o, ho, _⟩ := mem_ready.1 hi
      have hil := (Array.getElem?_eq_some_iff.1 ho).1
      omega
    cases fuel with
    | zero => exact ⟨hr, h⟩
    | succ f => exact ⟨fun _ => h, fun i hi => by rw [hr] at hi; cases hi⟩
  | succ r ih =>
    intro k fuel listed a w hk hm hf hu h
    obtain ⟨f, rfl⟩ : ∃ f, fuel = f + 1 := ⟨fuel - 1, by omega⟩
    have hkl : k < ops.size := by omega
    have hk0 : ops[k]? = some ops[k] := Array.getElem?_eq_getElem hkl
    rw [List.drop_eq_getElem_cons (by simpa using hkl)] at h
    refine ⟨fun hr => ?_, fun i hi => ?_⟩
    · exfalso
      have : k ∈ Region.ready .any ops listed := by
        refine mem_ready.2 ⟨?_, ops[k], hk0, fun e he hb => ?_⟩
        · rw [getD_any (by rw [hu.size]; exact hkl) true, hu.at_ k hkl, decide_eq_false_iff_not]
          omega
        · have := edgesBack_lt hE hk0 he hb
          rw [hu.at_ e.on (by omega), decide_eq_true_eq]
          exact this
      rw [hr] at this
      cases this
    · obtain rfl := hu.ready hE hT hm hi
      have h1 : wpOp P ops Q i (wpList P ops Q (ops.toList.drop (i + 1))) a w := by
        unfold wpOp
        rw [hk0]
        exact h
      exact wpOp_mono (fun a' w' h' => ih (i + 1) f _ a' w' (by omega) (by omega) (by omega) (hu.step hkl) h') h1

theorem wpOp_pre {i : Nat} {K : Act → World → Prop} {a : Act} {w : World} (hp : ∀ j, j < pre.size → ops[j]? = pre[j]?) (hG : guardsIn pre = true) (hi : i < pre.size) (h : wpOp P pre Q i K a w) : wpOp P ops Q i K a w := by
  unfold wpOp at h ⊢
  rw [hp i hi]
  cases ho : pre[i]? with
  | none => rw [ho] at h; exact h
  | some o =>
    rw [ho] at h
    have hw : Region.wanted o (yielded ops a.tmps) = Region.wanted o (yielded pre a.tmps) := by
      unfold Region.wanted
      cases hg : o.guard with
      | none => rfl
      | some gb =>
        obtain ⟨g, b⟩ := gb
        have := guardsIn_lt hG ho hg
        simp only [yielded, hp g this]
    simp only [hw]
    exact h

/-- What came up of the first ones, seen in all. -/
structure Lift (ops pre : Array Oper) (listed listed' : Array Bool) : Prop where
  size : listed.size = pre.size
  size' : listed'.size = ops.size
  low : ∀ i, i < pre.size → listed'.getD i false = listed.getD i false
  high : ∀ i, pre.size ≤ i → listed'.getD i false = false
theorem Lift.set {listed listed' : Array Bool} {i : Nat} (h : Lift ops pre listed listed') (hs : pre.size ≤ ops.size) (hi : i < pre.size) : Lift ops pre (listed.setIfInBounds i true) (listed'.setIfInBounds i true) := by
  refine ⟨by rw [Array.size_setIfInBounds]; exact h.size, by rw [Array.size_setIfInBounds]; exact h.size', fun j hj => ?_, fun j hj => ?_⟩
  · by_cases e : i = j
    · subst e
      have h1 : i < listed.size := by rw [h.size]; exact hi
      have h2 : i < listed'.size := by rw [h.size']; omega
      simp [h1, h2]
    · rw [getD_set_ne false e, getD_set_ne false e]
      exact h.low j hj
  · rw [getD_set_ne false (by omega)]
    exact h.high j hj

theorem wpAny_cut {Ext : World → World → Prop} {Rel : Value → World → World → Prop} {sp : Nat → Value → Value → World → Prop} {a0 : Act} {W0 : World} (hp : ∀ j, j < pre.size → ops[j]? = pre[j]?) (hs : pre.size ≤ ops.size) (hT : tailWaits ops pre.size = true) (hG : guardsIn pre = true) (hE' : edgesBack ops = true)
    (hA : dstsApart pre = true) (hI : dstsIn pre a0.tmps.size = true) (hE : edgesBack pre = true)
    (htr : ∀ u a b c, Ext a b → Rel u b c → Ext a c) (hX : auxKept pre = true) (hY : auxApart pre = true) (hst : ∀ i v u u' w w', Rel u' w w' → (u' ≠ undef → u' ≠ u) → sp i v u w → sp i v u w')
    (hstep : ∀ i, i < pre.size → RStep P Ext Rel pre Q sp a0 W0 i)
    (hfin : ∀ vs w, vs.length = pre.size → Ext W0 w → (∀ i v, vs[i]? = some v → (∀ d, dstOf pre i = some d → (putAll pre.toList vs a0).tmps[d]? = some v) ∧ sp i v (auxV pre i (putAll pre.toList vs a0)) w) → (∀ i j di dj, i ≠ j → i < pre.size → j < pre.size → isAlloc pre i = true → isAlloc pre j = true → dstOf pre i = some di → dstOf pre j = some dj → (putAll pre.toList vs a0).tmps[di]? ≠ (putAll pre.toList vs a0).tmps[dj]?) → wpList P ops Q (ops.toList.drop pre.size) (putAll pre.toList vs a0) w) :
    ∀ (fuel : Nat) (listed listed' : Array Bool) (a : Act) (w : World), listed.toList.count false ≤ fuel → Lift ops pre listed listed' → RInv Ext Rel pre sp a0 W0 listed a w → wpAny P .any ops Q (fuel + (ops.size - pre.size)) listed' a w := by
  have fin : ∀ (fuel : Nat) (listed listed' : Array Bool) (a : Act) (w : World), Lift ops pre listed listed' → RInv Ext Rel pre sp a0 W0 listed a w → Region.ready .any pre listed = [] → wpAny P .any ops Q (fuel + (ops.size - pre.size)) listed' a w := by
    intro fuel listed listed' a w hL h hr
    have hall := ready_all h.lsz hE hr
    obtain ⟨vs, hl, rfl, hv⟩ := h.fin hA hI hE hr
    refine tail_seq hT hE' (ops.size - pre.size) pre.size _ listed' _ w (by omega) (Nat.le_refl _) (by omega) ⟨hL.size', fun i hi => ?_⟩ (hfin vs w hl h.ext hv fun i j di dj hij hi hj hai haj hdi hdj => h.apart i j di dj hij (hall i hi) (hall j hj) hai haj hdi hdj)
    rcases Nat.lt_or_ge i pre.size with h1 | h1
    · rw [hL.low i h1, hall i h1, decide_eq_true h1]
    · rw [hL.high i h1, decide_eq_false (by omega)]
  intro fuel
  induction fuel with
  | zero =>
    intro listed listed' a w hc hL h
    have hr : Region.ready .any pre listed = [] := by
      apply List.eq_nil_iff_forall_not_mem.2
      intro i hi
      obtain ⟨hun, o, ho, _⟩ := mem_ready.1 hi
      have hil : i < listed.size := by rw [h.lsz]; exact (Array.getElem?_eq_some_iff.1 ho).1
      simp [hil] at hun
      have : false ∈ listed.toList := by rw [← hun]; simp
      have := List.count_pos_iff.2 this
      omega
    exact fin 0 listed listed' a w hL h hr
  | succ fuel ih =>
    intro listed listed' a w hc hL h
    by_cases hr : Region.ready .any pre listed = []
    · exact fin (fuel + 1) listed listed' a w hL h hr
    · have same : ∀ i, i ∈ Region.ready .any ops listed' → i ∈ Region.ready .any pre listed := by
        intro i hi
        have hi0 := hi
        obtain ⟨hun, o, ho, hall⟩ := mem_ready.1 hi
        have hil := (Array.getElem?_eq_some_iff.1 ho).1
        rcases Nat.lt_or_ge i pre.size with h1 | h1
        · refine mem_ready.2 ⟨?_, o, by rw [← hp i h1]; exact ho, fun e he hb => ?_⟩
          · rw [getD_any (by rw [hL.size]; exact h1) true, ← hL.low i h1]
            rw [getD_any (by rw [hL.size']; exact hil) true] at hun
            exact hun
          · have hlt := edgesBack_lt hE' ho he hb
            rw [← hL.low e.on (by omega)]
            exact hall e he hb
        · exfalso
          apply hr
          apply List.eq_nil_iff_forall_not_mem.2
          intro j hj
          obtain ⟨hunj, oj, hoj, _⟩ := mem_ready.1 hj
          have hjl := (Array.getElem?_eq_some_iff.1 hoj).1
          have : listed.getD j false = true := by
            refine (reach_listed (ops := ops) (C := fun j => j < pre.size ∧ listed.getD j false = true) (fun a b ha hb => ?_) 8 i j (fun b hb => ?_) (tailWaits_needs hT hil h1 (show j < i by omega))).2
            · have h2 := needs_lt hE' hb
              refine ⟨by omega, ?_⟩
              have h3 : needs pre a b = true := by
                unfold needs at hb ⊢
                rw [← hp a ha.1]
                exact hb
              exact needs_listed h ha.2 h3
            · have h2 := ready_needs hi0 hb
              rcases Nat.lt_or_ge b pre.size with h3 | h3
              · exact ⟨h3, by rw [← hL.low b h3]; exact h2⟩
              · rw [hL.high b h3] at h2
                cases h2
          rw [getD_any (by rw [hL.size]; exact hjl) true, this] at hunj
          cases hunj
      have back : ∀ i, i ∈ Region.ready .any pre listed → i ∈ Region.ready .any ops listed' := by
        intro i hi
        obtain ⟨hun, o, ho, hall⟩ := mem_ready.1 hi
        have hil := (Array.getElem?_eq_some_iff.1 ho).1
        refine mem_ready.2 ⟨?_, o, by rw [hp i hil]; exact ho, fun e he hb => ?_⟩
        · rw [getD_any (by rw [hL.size']; omega) true, hL.low i hil]
          rw [getD_any (by rw [hL.size]; exact hil) true] at hun
          exact hun
        · have hlt := edgesBack_lt hE ho he hb
          rw [hL.low e.on (by omega)]
          exact hall e he hb
      rw [show fuel + 1 + (ops.size - pre.size) = (fuel + (ops.size - pre.size)) + 1 by omega]
      refine ⟨fun h0 => absurd (List.eq_nil_iff_forall_not_mem.2 fun i hi => by have := back i hi; rw [h0] at this; cases this) hr, fun i hi0 => ?_⟩
      have hi := same i hi0
      obtain ⟨hun, o, ho, _⟩ := mem_ready.1 hi
      have hil : i < pre.size := (Array.getElem?_eq_some_iff.1 ho).1
      refine wpOp_pre hp hG hil (wpOp_mono (fun a' w' hl => ih _ _ a' w' ?_ (hL.set hs hil) (h.step hA hI hE htr hX hY hst hi hl)) (hstep i hil a w (h.sees hi)))
      have hil' : i < listed.size := by rw [h.lsz]; exact hil
      have hl : listed.toList[i]? = some false := by
        rw [Array.getElem?_toList, Array.getElem?_eq_getElem hil']
        simp [hil'] at hun
        rw [hun]
      have := count_set_true listed.toList i hl
      rw [Array.toList_setIfInBounds]
      omega

/-- The region, cut: what stands ahead, what stands behind. -/
def CutWp (P : Program) (ops : Array Oper) (Q : Exit → Act → World → Prop) (front tail : List Oper) (a : Act) (w : World) : Prop := ops.toList = front ++ tail → wpAny P .any ops Q ops.size (Array.replicate ops.size false) a w.drew
theorem wp_cut {id : Nat} {a : Act} {w : World} (hm : P.follows .mixedOrders = true) (m : Nat) (h : CutWp P ops Q (ops.toList.take m) (ops.toList.drop m) a w) : (Code.region id ops true).wp P Q a w :=
  wp_region_any hm (h (List.take_append_drop m _).symm)

theorem wp_cut_list {Ext : World → World → Prop} {Rel : Value → World → World → Prop} {front tail : List Oper} (l : List (Value → Value → World → Prop)) {n : Nat} {a0 : Act} {w0 : World} (hn : front.length = n) (hT : tailWaits ops n = true) (hE' : edgesBack ops = true) (hG : guardsIn front.toArray = true) (hA : dstsApart front.toArray = true) (hI : dstsIn front.toArray a0.tmps.size = true) (hE : edgesBack front.toArray = true) (hX : auxKept front.toArray = true) (hY : auxApart front.toArray = true)
    (hrf : ∀ a, Ext a a) (htr : ∀ u a b c, Ext a b → Rel u b c → Ext a c) (hst : StabL Rel l)
    (hstep : allBelow n (RStep P Ext Rel front.toArray Q (spOf l) a0 w0.drew))
    (hfin : ∀ (f : Nat → Value) w, Ext w0.drew w → (∀ i, i < n → ∃ u, spOf l i (f i) u w ∧ ∀ j, auxIdx front.toArray i = some j → u = f j) → (∀ i j di dj, i ≠ j → i < n → j < n → isAlloc front.toArray i = true → isAlloc front.toArray j = true → dstOf front.toArray i = some di → dstOf front.toArray j = some dj → f i ≠ f j) → wpList P ops Q tail (putFn front f 0 a0) w) : CutWp P ops Q front tail a0 w0 := by
  intro hops
  subst hn
  have hsz : front.toArray.size = front.length := by simp
  have hos : ops.size = front.length + tail.length := by rw [← Array.length_toList, hops, List.length_append]
  have hdrop : ops.toList.drop front.toArray.size = tail := by rw [hops, hsz, List.drop_left]
  have hp : ∀ j, j < front.toArray.size → ops[j]? = front.toArray[j]? := by
    intro j hj
    rw [← Array.getElem?_toList, hops, List.getElem?_append_left (by simpa using hj)]
    simp
  have main := wpAny_cut (P := P) (Q := Q) (ops := ops) (pre := front.toArray) (sp := spOf l) (a0 := a0) (W0 := w0.drew) hp (by rw [hsz, hos]; omega) (by rw [hsz]; exact hT) hG hE' hA hI hE htr hX hY (stab_of hst) (fun i hi => allBelow_lt hstep i (by simpa using hi)) (by
    intro vs w hl hR hv hap
    rw [hdrop]
    have e := putFn_eq front [] vs a0 (by simpa using hl)
    simp only [List.nil_append, List.length_nil] at e
    have := hfin (fun i => vs.getD i undef) w hR (fun i hi => by
      have hvi : vs[i]? = some (vs[i]'(by rw [hl, hsz]; exact hi)) := List.getElem?_eq_getElem _
      have h1 := hv i _ hvi
      refine ⟨auxV front.toArray i (putAll front vs a0), ?_, fun j hj => ?_⟩
      · simp only [List.getD_eq_getElem?_getD, hvi, Option.getD_some]
        exact h1.2
      · unfold auxIdx at hj
        cases ha : auxOf front.toArray i with
        | none => rw [ha] at hj; cases hj
        | some p =>
          rw [ha] at hj
          have hj' := List.find?_some hj
          have hjm := List.mem_of_find?_eq_some hj
          have hjl := List.mem_range.1 hjm
          have hd : dstOf front.toArray j = some p := by simpa using hj'
          have hvj : vs[j]? = some (vs[j]'(by rw [hl]; exact hjl)) := List.getElem?_eq_getElem _
          have h2 := (hv j _ hvj).1 p hd
          unfold auxV
          rw [ha]
          simp only [Array.getD_eq_getD_getElem?, List.getD_eq_getElem?_getD, hvj, Option.getD_some]
          have h3 : (putAll front vs a0).tmps[p]? = some (vs[j]'(by rw [hl]; exact hjl)) := h2
          rw [h3]
          rfl) (fun i j di dj hij hi hj hai haj hdi hdj hf => by
      have hvi : vs[i]? = some (vs[i]'(by rw [hl, hsz]; exact hi)) := List.getElem?_eq_getElem _
      have hvj : vs[j]? = some (vs[j]'(by rw [hl, hsz]; exact hj)) := List.getElem?_eq_getElem _
      refine hap i j di dj hij (by rw [hsz]; exact hi) (by rw [hsz]; exact hj) hai haj hdi hdj ?_
      rw [(hv i _ hvi).1 di hdi, (hv j _ hvj).1 dj hdj]
      simp only [List.getD_eq_getElem?_getD, hvi, hvj, Option.getD_some] at hf
      rw [hf])
    rw [e] at this
    exact this)
  have h0 := main front.length (Array.replicate front.length false) (Array.replicate ops.size false) a0 w0.drew (by simp) ⟨by simp, by simp, fun i hi => ?_, fun i hi => ?_⟩ ⟨hrf _, rfl, rfl, by simp, ?_, fun _ _ => rfl, ?_, ?_⟩
  · rw [hsz, show front.length + (ops.size - front.length) = ops.size by omega] at h0
    exact h0
  · have h1 : i < front.length := by simpa using hi
    have h2 : i < ops.size := by omega
    simp [h1, h2]
  · rcases Nat.lt_or_ge i ops.size with h2 | h2
    · simp [h2]
    · simp [h2]
  · intro j o _ h
    exact absurd h (no_one _ _)
  · intro i h
    exact absurd h (no_one _ _)
  · intro i j di dj _ h
    exact absurd h (no_one _ _)
end
end Go.Proofs.YtbhgbilhoonopaaGreat
