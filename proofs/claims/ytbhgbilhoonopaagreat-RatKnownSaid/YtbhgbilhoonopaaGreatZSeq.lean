/- A region that does not draw its order, by what each of its first operations leaves: as ZCut's, but each comes up in its turn. -/
import Derived.Test.YtbhgbilhoonopaaGreatZCut
import Derived.Test.YtbhgbilhoonopaaGreatZD
namespace Go.Proofs.YtbhgbilhoonopaaGreat
open Go.RowKit
set_option linter.unusedVariables false

section
variable {P : Program} {ops pre : Array Oper} {Q : Exit → Act → World → Prop}

theorem wpList_seq {Ext : World → World → Prop} {Rel : Value → World → World → Prop} {sp : Nat → Value → Value → World → Prop} {a0 : Act} {W0 : World} {tail : List Oper} (hp : ∀ j, j < pre.size → ops[j]? = pre[j]?) (hG : guardsIn pre = true)
    (hA : dstsApart pre = true) (hI : dstsIn pre a0.tmps.size = true) (hE : edgesBack pre = true)
    (htr : ∀ u a b c, Ext a b → Rel u b c → Ext a c) (hX : auxKept pre = true) (hY : auxApart pre = true) (hst : ∀ i v u u' w w', Rel u' w w' → (u' ≠ undef → u' ≠ u) → sp i v u w → sp i v u w')
    (hstep : ∀ i, i < pre.size → RStep P Ext Rel pre Q sp a0 W0 i)
    (hfin : ∀ vs w, vs.length = pre.size → Ext W0 w → (∀ i v, vs[i]? = some v → (∀ d, dstOf pre i = some d → (putAll pre.toList vs a0).tmps[d]? = some v) ∧ sp i v (auxV pre i (putAll pre.toList vs a0)) w) → (∀ i j di dj, i ≠ j → i < pre.size → j < pre.size → isAlloc pre i = true → isAlloc pre j = true → dstOf pre i = some di → dstOf pre j = some dj → (putAll pre.toList vs a0).tmps[di]? ≠ (putAll pre.toList vs a0).tmps[dj]?) → wpList P ops Q tail (putAll pre.toList vs a0) w) :
    ∀ (r k : Nat) (listed : Array Bool) (a : Act) (w : World), k + r = pre.size → Upto pre listed k → RInv Ext Rel pre sp a0 W0 listed a w → wpList P ops Q (pre.toList.drop k ++ tail) a w := by
  intro r
  induction r with
  | zero =>
    intro k listed a w hk hu h
    have hall : ∀ i, i < pre.size → listed.getD i false = true := fun i hi => by rw [hu.at_ i hi, decide_eq_true_eq]; omega
    have hr : Region.ready .any pre listed = [] := by
      apply List.eq_nil_iff_forall_not_mem.2
      intro i hi
      obtain ⟨hun, o, ho, _⟩ := mem_ready.1 hi
      have hil : i < pre.size := (Array.getElem?_eq_some_iff.1 ho).1
      rw [getD_any (by rw [hu.size]; exact hil) true, hall i hil] at hun
      cases hun
    obtain ⟨vs, hl, rfl, hv⟩ := h.fin hA hI hE hr
    rw [List.drop_of_length_le (by simp; omega), List.nil_append]
    exact hfin vs w hl h.ext hv fun i j di dj hij hi hj hai haj hdi hdj => h.apart i j di dj hij (hall i hi) (hall j hj) hai haj hdi hdj
  | succ r ih =>
    intro k listed a w hk hu h
    have hkl : k < pre.size := by omega
    have hk0 : pre[k]? = some pre[k] := Array.getElem?_eq_getElem hkl
    have hrd : k ∈ Region.ready .any pre listed := by
      refine mem_ready.2 ⟨?_, pre[k], hk0, fun e he hb => ?_⟩
      · rw [getD_any (by rw [hu.size]; exact hkl) true, hu.at_ k hkl, decide_eq_false_iff_not]
        omega
      · have := edgesBack_lt hE hk0 he hb
        rw [hu.at_ e.on (by omega), decide_eq_true_eq]
        exact this
    have h1 := wpOp_pre hp hG hkl (wpOp_mono (fun a' w' hl => ih (k + 1) _ a' w' (by omega) (hu.step hkl) (h.step hA hI hE htr hX hY hst hrd hl)) (hstep k hkl a w (h.sees hrd)))
    rw [List.drop_eq_getElem_cons (by simpa using hkl), List.cons_append]
    unfold wpOp at h1
    rw [hp k hkl, hk0] at h1
    exact h1

theorem wp_seq {id : Nat} {a : Act} {w : World} (m : Nat) (h : ops.toList = ops.toList.take m ++ ops.toList.drop m → wpList P ops Q (ops.toList.take m ++ ops.toList.drop m) a w) : (Code.region id ops false).wp P Q a w := by
  have h1 := h (List.take_append_drop m _).symm
  rw [List.take_append_drop] at h1
  exact Go.wp_region_list h1

theorem wp_seq_list {Ext : World → World → Prop} {Rel : Value → World → World → Prop} {front tail : List Oper} (l : List (Value → Value → World → Prop)) {n : Nat} {a0 : Act} {w0 : World} (hn : front.length = n) (hG : guardsIn front.toArray = true) (hA : dstsApart front.toArray = true) (hI : dstsIn front.toArray a0.tmps.size = true) (hE : edgesBack front.toArray = true) (hX : auxKept front.toArray = true) (hY : auxApart front.toArray = true)
    (hrf : ∀ a, Ext a a) (htr : ∀ u a b c, Ext a b → Rel u b c → Ext a c) (hst : StabL Rel l)
    (hstep : allBelow n (RStep P Ext Rel front.toArray Q (spOf l) a0 w0))
    (hfin : ∀ (f : Nat → Value) w, Ext w0 w → (∀ i, i < n → ∃ u, spOf l i (f i) u w ∧ ∀ j, auxIdx front.toArray i = some j → u = f j) → (∀ i j di dj, i ≠ j → i < n → j < n → isAlloc front.toArray i = true → isAlloc front.toArray j = true → dstOf front.toArray i = some di → dstOf front.toArray j = some dj → f i ≠ f j) → wpList P ops Q tail (putFn front f 0 a0) w) : ops.toList = front ++ tail → wpList P ops Q (front ++ tail) a0 w0 := by
  intro hops
  subst hn
  have hsz : front.toArray.size = front.length := by simp
  have hp : ∀ j, j < front.toArray.size → ops[j]? = front.toArray[j]? := by
    intro j hj
    rw [← Array.getElem?_toList, hops, List.getElem?_append_left (by simpa using hj)]
    simp
  have main := wpList_seq (P := P) (Q := Q) (ops := ops) (pre := front.toArray) (sp := spOf l) (a0 := a0) (W0 := w0) (tail := tail) hp hG hA hI hE htr hX hY (stab_of hst) (fun i hi => allBelow_lt hstep i (by simpa using hi)) (by
    intro vs w hl hR hv hap
    have e := putFn_eq front [] vs a0 (by simpa using hl)
    simp only [List.nil_append, List.length_nil] at e
    have := hfin (fun i => vs.getD i undef) w hR (fun i hi => by
      have hvi : vs[i]? = some (vs[i]'(by rw [hl, hsz]; exact hi)) := List.getElem?_eq_getElem _
      have h1 := hv i _ hvi
      refine ⟨auxV front.toArray i (putAll front vs a0), ?_, fun j hj => ?_⟩
      · simp only [List.getD_eq_getElem?_getD, hvi, Option.getD_some]
        exact h1.2
      · unfold auxIdx at hj
        cases ha : auxOf front.toArray i with
        | none => rw [ha] at hj; cases hj
        | some p =>
          rw [ha] at hj
          have hj' := List.find?_some hj
          have hjm := List.mem_of_find?_eq_some hj
          have hjl := List.mem_range.1 hjm
          have hd : dstOf front.toArray j = some p := by simpa using hj'
          have hvj : vs[j]? = some (vs[j]'(by rw [hl]; exact hjl)) := List.getElem?_eq_getElem _
          have h2 := (hv j _ hvj).1 p hd
          unfold auxV
          rw [ha]
          simp only [Array.getD_eq_getD_getElem?, List.getD_eq_getElem?_getD, hvj, Option.getD_some]
          have h3 : (putAll front vs a0).tmps[p]? = some (vs[j]'(by rw [hl]; exact hjl)) := h2
          rw [h3]
          rfl) (fun i j di dj hij hi hj hai haj hdi hdj hf => by
      have hvi : vs[i]? = some (vs[i]'(by rw [hl, hsz]; exact hi)) := List.getElem?_eq_getElem _
      have hvj : vs[j]? = some (vs[j]'(by rw [hl, hsz]; exact hj)) := List.getElem?_eq_getElem _
      refine hap i j di dj hij (by rw [hsz]; exact hi) (by rw [hsz]; exact hj) hai haj hdi hdj ?_
      rw [(hv i _ hvi).1 di hdi, (hv j _ hvj).1 dj hdj]
      simp only [List.getD_eq_getElem?_getD, hvi, hvj, Option.getD_some] at hf
      rw [hf])
    rw [e] at this
    exact this)
  exact main front.length 0 (Array.replicate front.length false) a0 w0 (by simp) ⟨by simp, fun i hi => by simp [show i < front.length by simpa using hi]⟩ ⟨hrf _, rfl, rfl, by simp, fun j o _ h => absurd h (no_one _ _), fun _ _ => rfl, fun i h => absurd h (no_one _ _), fun i j di dj _ h => absurd h (no_one _ _)⟩
end
theorem rbX {w w' : World} (h : RB w w') : Below w.heap.size w w' := h
end Go.Proofs.YtbhgbilhoonopaaGreat
