/- What a region's run in the text's order tells: its steps, and which of them are ordered. -/
import Derived.Test.YtgglmmipdfcbpaaDoorEvD3
namespace Go.Ev
variable {E : Env} {ops : Array Oper}

/-! What an operation reads. -/
theorem aval_congr {t t' : Fr} {x : Operand} (h : ∀ d, x = .tmp d → t'.get d = t.get d) : aval E t' x = aval E t x := by
  cases x with
  | tmp d => exact h d rfl
  | _ => rfl
theorem avals_congr {t t' : Fr} : ∀ {l : List Operand}, (∀ x ∈ l, aval E t' x = aval E t x) → avals E t' l = avals E t l := by
  intro l
  induction l with
  | nil => intro _; rfl
  | cons x l ih =>
    intro h
    show obind (aval E t' x) (fun v => obind (avals E t' l) _) = obind (aval E t x) (fun v => obind (avals E t l) _)
    rw [h x List.mem_cons_self, ih fun y hy => h y (List.mem_cons_of_mem _ hy)]
theorem pairsOf_congr {t t' : Fr} : ∀ {l : List (Nat × Operand)}, (∀ x ∈ l, aval E t' x.2 = aval E t x.2) → pairsOf E t' l = pairsOf E t l := by
  intro l
  induction l with
  | nil => intro _; rfl
  | cons x l ih =>
    intro h
    unfold pairsOf
    rw [h x List.mem_cons_self, ih fun y hy => h y (List.mem_cons_of_mem _ hy)]
theorem opt_congr {t t' : Fr} {x : Option Operand} (h : ∀ y, x = some y → aval E t' y = aval E t y) : opt E t' x = opt E t x := by
  cases x with
  | none => rfl
  | some y => unfold opt; dsimp only; rw [h y rfl]
theorem aop_congr {H : Hand} {o : Op} {t t' : Fr} {s : AS} (h : ∀ d, Operand.tmp d ∈ o.operands → t'.get d = t.get d) : aop o E H t' s = aop o E H t s := by
  have av : ∀ x, x ∈ o.operands → aval E t' x = aval E t x := fun x hx => aval_congr fun d e => h d (e ▸ hx)
  clear h
  cases o with
  | move x => show oMove x E H t' s = oMove x E H t s; unfold oMove; rw [av x (by simp [Op.operands])]
  | assign x => show oMove x E H t' s = oMove x E H t s; unfold oMove; rw [av x (by simp [Op.operands])]
  | pick c a b => show oPick c a b E H t' s = oPick c a b E H t s; unfold oPick; rw [av c (by simp [Op.operands]), av a (by simp [Op.operands]), av b (by simp [Op.operands])]
  | alloc e => rfl
  | box e x => show oBox e x E H t' s = oBox e x E H t s; unfold oBox; rw [av x (by simp [Op.operands])]
  | build ty ps => show oBuild ty ps E H t' s = oBuild ty ps E H t s; unfold oBuild; rw [pairsOf_congr fun x hx => av x.2 (by simp [Op.operands]; exact ⟨x.1, Array.mem_toList_iff.1 hx⟩)]
  | buildSlice ty len ps => show oBuildSlice ty len ps E H t' s = oBuildSlice ty len ps E H t s; unfold oBuildSlice; rw [pairsOf_congr fun x hx => av x.2 (by simp [Op.operands]; exact ⟨x.1, Array.mem_toList_iff.1 hx⟩)]
  | insert ty m k x => show oMapUpdate ty m k x E H t' s = oMapUpdate ty m k x E H t s; unfold oMapUpdate; rw [av m (by simp [Op.operands]), av k (by simp [Op.operands]), av x (by simp [Op.operands])]
  | mapUpdate ty m k x => show oMapUpdate ty m k x E H t' s = oMapUpdate ty m k x E H t s; unfold oMapUpdate; rw [av m (by simp [Op.operands]), av k (by simp [Op.operands]), av x (by simp [Op.operands])]
  | load ty x => show oLoad ty x E H t' s = oLoad ty x E H t s; unfold oLoad; rw [av x (by simp [Op.operands])]
  | store ty x y => show oStore ty x y E H t' s = oStore ty x y E H t s; unfold oStore; rw [av x (by simp [Op.operands]), av y (by simp [Op.operands])]
  | nilCheck x => show oNilCheck x E H t' s = oNilCheck x E H t s; unfold oNilCheck; rw [av x (by simp [Op.operands])]
  | binOp op ty x y p => show oBin op ty x y E H t' s = oBin op ty x y E H t s; unfold oBin; rw [av x (by simp [Op.operands]), av y (by simp [Op.operands])]
  | unOp op ty x => show oUn op x E H t' s = oUn op x E H t s; unfold oUn; rw [av x (by simp [Op.operands])]
  | convert src dst x => show oConvert src dst x E H t' s = oConvert src dst x E H t s; unfold oConvert; rw [av x (by simp [Op.operands])]
  | makeInterface ty x => show oIface ty x E H t' s = oIface ty x E H t s; unfold oIface; rw [av x (by simp [Op.operands])]
  | makeFunc fn first captured =>
    show oFunc fn first captured E H t' s = oFunc fn first captured E H t s
    unfold oFunc
    rw [avals_congr (l := first.toList) fun x hx => av x (by simp only [Op.operands]; exact Array.mem_append.2 (.inl (Array.mem_toList_iff.1 hx))), avals_congr (l := captured.toList) fun x hx => av x (by simp only [Op.operands]; exact Array.mem_append.2 (.inr (Array.mem_toList_iff.1 hx)))]
  | makeMap ty rs => rfl
  | makeSlice ty l c => show oMakeSlice ty l c E H t' s = oMakeSlice ty l c E H t s; unfold oMakeSlice; rw [av l (by simp [Op.operands]), av c (by simp [Op.operands])]
  | slice ty x lo hi mx =>
    show oSlice ty x lo hi mx E H t' s = oSlice ty x lo hi mx E H t s
    unfold oSlice
    rw [av x (by simp [Op.operands]), opt_congr (x := lo) fun y e => av y (by subst e; simp [Op.operands]), opt_congr (x := hi) fun y e => av y (by subst e; simp [Op.operands]), opt_congr (x := mx) fun y e => av y (by subst e; simp [Op.operands])]
  | fieldAddr ty x f => show oFieldAddr ty x f E H t' s = oFieldAddr ty x f E H t s; unfold oFieldAddr; rw [av x (by simp [Op.operands])]
  | field ty x f => show oField ty x f E H t' s = oField ty x f E H t s; unfold oField; rw [av x (by simp [Op.operands])]
  | indexAddr ty x i => show oIndexAddr ty x i E H t' s = oIndexAddr ty x i E H t s; unfold oIndexAddr; rw [av x (by simp [Op.operands]), av i (by simp [Op.operands])]
  | index ty x i => show oIndex ty x i E H t' s = oIndex ty x i E H t s; unfold oIndex; rw [av x (by simp [Op.operands]), av i (by simp [Op.operands])]
  | lookup ty x k ok => show oLookup ty x k ok E H t' s = oLookup ty x k ok E H t s; unfold oLookup; rw [av x (by simp [Op.operands]), av k (by simp [Op.operands])]
  | range ty x => show oRange ty x E H t' s = oRange ty x E H t s; unfold oRange; rw [av x (by simp [Op.operands])]
  | next it str => show oNext it str E H t' s = oNext it str E H t s; unfold oNext; rw [av it (by simp [Op.operands])]
  | typeAssert x y u ok => show oAssert x u ok E H t' s = oAssert x u ok E H t s; unfold oAssert; rw [av x (by simp [Op.operands])]
  | extract x i => show oExtract x i E H t' s = oExtract x i E H t s; unfold oExtract; rw [av x (by simp [Op.operands])]
  | call c =>
    show oCall c E H t' s = oCall c E H t s
    unfold oCall
    rw [avals_congr (l := c.args.toList) fun x hx => av x (by simp only [Op.operands, Call.operands]; exact Array.mem_append.2 (.inr (Array.mem_toList_iff.1 hx)))]
    congr 1
    funext args
    unfold callOf
    split
    · rename_i f hc
      rw [av f (by simp only [Op.operands, Call.operands, hc]; exact Array.mem_append.2 (.inl (by simp)))]
    · rfl
    · rfl
  | _ => rfl
theorem foot_congr {o : Op} {t t' : Fr} (h : ∀ d, Operand.tmp d ∈ o.operands → t'.get d = t.get d) : foot E t' o = foot E t o := by
  have av : ∀ x, x ∈ o.operands → aval E t' x = aval E t x := fun x hx => aval_congr fun d e => h d (e ▸ hx)
  clear h
  cases o with
  | load ty x => show footOf _ = footOf _; rw [av x (by simp [Op.operands])]
  | lookup ty x k ok => show footOf _ = footOf _; rw [av x (by simp [Op.operands])]
  | slice ty x lo hi mx => show footOf _ = footOf _; rw [av x (by simp [Op.operands])]
  | call c =>
    show footCall E t' c = footCall E t c
    unfold footCall
    split
    · rename_i x hc hx
      rw [av x (by simp only [Op.operands, Call.operands]; exact Array.mem_append.2 (.inr (Array.mem_toList_iff.1 (by rw [hx]; simp))))]
    · rfl
  | _ => rfl

/-! Slots. -/
theorem writers_mem {n : Nat} (f : Array (List (Tmp × Nat)) → Oper × Nat → Array (List (Tmp × Nat)))
    (hf : ∀ w x, f w x = match x.1.dst with | some d => w.modify (d % n) ((d, x.2) :: ·) | none => w) : ∀ (l : List (Oper × Nat)) (w : Array (List (Tmp × Nat))), w.size = n →
      (∀ k x, x ∈ w.getD k [] → x ∈ (l.foldl f w).getD k []) ∧ ∀ o i d, (o, i) ∈ l → o.dst = some d → 0 < n → (d, i) ∈ (l.foldl f w).getD (d % n) [] := by
  intro l
  induction l with
  | nil => intro w hw; exact ⟨fun _ _ h => h, fun o i d h => by cases h⟩
  | cons x l ih =>
    intro w hw
    have hs : (f w x).size = n := by
      rw [hf]
      cases x.1.dst with
      | none => exact hw
      | some d => simpa using hw
    have hk : ∀ k y, y ∈ w.getD k [] → y ∈ (f w x).getD k [] := by
      intro k y hy
      rw [hf]
      cases x.1.dst with
      | none => exact hy
      | some d =>
        simp only [Array.getD_eq_getD_getElem?, Array.getElem?_modify] at hy ⊢
        by_cases e : d % n = k
        · rw [if_pos e]
          cases hg : w[k]? with
          | none => rw [hg] at hy; simp at hy
          | some q => rw [hg] at hy; simp at hy ⊢; exact .inr hy
        · rw [if_neg e]; exact hy
    obtain ⟨h1, h2⟩ := ih (f w x) hs
    refine ⟨fun k y hy => h1 k y (hk k y hy), fun o i d ho hd hn => ?_⟩
    rcases List.mem_cons.1 ho with rfl | ho
    · refine h1 _ _ ?_
      rw [hf]
      dsimp only
      rw [hd]
      have hlt : d % n < w.size := by rw [hw]; exact Nat.mod_lt _ hn
      simp only [Array.getD_eq_getD_getElem?, Array.getElem?_modify, if_pos]
      rw [Array.getElem?_eq_getElem hlt]
      simp
    · exact h2 o i d ho hd hn
theorem mem_zipIdx {i : Nat} {o : Oper} (h : ops[i]? = some o) : (o, i) ∈ ops.toList.zipIdx := by
  rw [List.mem_zipIdx_iff_getElem?]
  simpa using h
theorem temporaries_spec {b : Array Nat} (h : Region.temporariesOk ops b = true) {i j d : Nat} {oi oj : Oper} (hi : ops[i]? = some oi) (hj : ops[j]? = some oj) (hd : oi.dst = some d)
    (hn : oj.dst = some d ∨ Operand.tmp d ∈ oj.op.operands) (hne : i ≠ j) : (b.getD (max i j) 0).testBit (min i j) = true := by
  unfold Region.temporariesOk at h
  dsimp only at h
  rw [List.all_eq_true] at h
  have h1 := h (oj, j) (mem_zipIdx hj)
  dsimp only at h1
  rw [List.all_eq_true] at h1
  have hn : d ∈ oj.dst.toList ++ oj.op.operands.toList.filterMap fun | .tmp t => some t | _ => none := by
    rcases hn with hn | hn
    · exact List.mem_append_left _ (by rw [hn]; simp)
    · exact List.mem_append_right _ (List.mem_filterMap.2 ⟨.tmp d, Array.mem_toList_iff.2 hn, rfl⟩)
  have h2 := h1 d hn
  rw [List.all_eq_true] at h2
  have hsz : 0 < ops.size := by
    by_cases e : 0 < ops.size
    · exact e
    · rw [Array.getElem?_eq_none (by omega)] at hi; cases hi
  have h3 := h2 (d, i) ((writers_mem (n := ops.size) _ (fun w x => by obtain ⟨o, i⟩ := x; rfl) ops.toList.zipIdx (Array.replicate ops.size []) (by simp)).2 oi i d (mem_zipIdx hi) hd hsz)
  have hne' : (i == j) = false := by simpa using hne
  simpa [hne'] using h3
theorem guards_spec {b : Array Nat} (h : guardsOk ops b = true) {i j g d : Nat} {want : Bool} {oi oj og : Oper} (hi : ops[i]? = some oi) (hj : ops[j]? = some oj) (hd : oi.dst = some d)
    (hg : oj.guard = some (g, want)) (ho : ops[g]? = some og) (hod : og.dst = some d) (hne : i ≠ j) : (b.getD (max i j) 0).testBit (min i j) = true := by
  unfold guardsOk at h
  rw [List.all_eq_true] at h
  have h1 := h (oj, j) (mem_zipIdx hj)
  dsimp only at h1
  rw [hg] at h1
  dsimp only at h1
  rw [ho] at h1
  dsimp only at h1
  rw [hod] at h1
  dsimp only at h1
  rw [List.all_eq_true] at h1
  have h2 := h1 (oi, i) (mem_zipIdx hi)
  have hne' : (i == j) = false := by simpa using hne
  simpa [hd, hne'] using h2
/-- The slots whose content tells what an operation does, and its own. -/
def Names (ops : Array Oper) (o : Oper) (d : Tmp) : Prop := o.dst = some d ∨ Operand.tmp d ∈ o.op.operands ∨ ∃ g want og, o.guard = some (g, want) ∧ ops[g]? = some og ∧ og.dst = some d
theorem tidy_spec (h : tidy ops = true) {i j d : Nat} {oi oj : Oper} (hi : ops[i]? = some oi) (hj : ops[j]? = some oj) (hd : oi.dst = some d) (hn : Names ops oj d) (hne : i ≠ j) :
    ((Region.before ops).getD (max i j) 0).testBit (min i j) = true := by
  unfold tidy at h
  rw [Bool.and_eq_true, Bool.and_eq_true] at h
  rcases hn with hn | hn | ⟨g, want, og, h1, h2, h3⟩
  · exact temporaries_spec h.1.1 hi hj hd (.inl hn) hne
  · exact temporaries_spec h.1.1 hi hj hd (.inr hn) hne
  · exact guards_spec h.1.2 hi hj hd h1 h2 h3 hne
theorem edges_spec (h : tidy ops = true) {i : Nat} {o : Oper} (hi : ops[i]? = some o) : ∀ e ∈ o.after, Region.binds .any e = true → e.on < i := by
  unfold tidy at h
  rw [Bool.and_eq_true] at h
  have h := h.2
  unfold edgesOk at h
  rw [List.all_eq_true] at h
  have h1 := h (o, i) (mem_zipIdx hi)
  dsimp only at h1
  rw [List.all_eq_true] at h1
  intro e he hb
  have h2 := h1 e (Array.mem_toList_iff.2 he)
  rw [hb] at h2
  exact le_of_ble (by simpa using h2)
theorem wanted_congr {t t' : Fr} {o : Oper} (h : ∀ d, Names ops o d → t'.get d = t.get d) : Ev.wanted ops t' o.guard = Ev.wanted ops t o.guard := by
  cases hg : o.guard with
  | none => rfl
  | some p =>
    obtain ⟨g, want⟩ := p
    show yieldedAt ops.toList t' g want = yieldedAt ops.toList t g want
    unfold yieldedAt
    split
    · rename_i q hq
      split
      · rename_i d hd
        rw [h d (.inr (.inr ⟨g, want, q, hg, by simpa using hq, hd⟩))]
      · rfl
    · rfl

/-! Steps. -/
structure Pt where
  S : AS
  T : Fr
  p : Past
structure Dt where
  W : List Nat
  v : Option Value
  ft : Foot
  wt : Bool
/-- A memory to which nothing has been done yet. -/
def AS.anew (s : AS) : AS := ⟨s.heap, s.next, s.next, []⟩
def Step (E : Env) (H : Hand) (nt : Nat) (ops : Array Oper) (o : Oper) (b i : Nat) (x : Pt) (d : Dt) (y : Pt) : Prop :=
  Ev.wanted ops x.T o.guard = some d.wt ∧ putDst nt x.T o.dst d.v = some y.T ∧
    ((d.wt = true ∧ ∃ s1, aop o.op E H x.T x.S.anew = some (d.v, s1) ∧ d.W = s1.wr ∧ d.ft = foot E x.T o.op ∧ x.p.then i b s1.wr d.ft = some y.p ∧ y.S = ⟨s1.heap, s1.next, x.S.mark, keepBelow x.S.mark s1.wr x.S.wr⟩) ∨
     (d.wt = false ∧ d.v = none ∧ d.W = [] ∧ d.ft = .none ∧ y.p = x.p ∧ y.S = x.S))
theorem steps_of {H : Hand} {nt : Nat} : ∀ (l : List Oper) (bs : List Nat) (i : Nat) (p : Past) (t : Fr) (s : AS) (r : Fr × AS), aopsD E H nt ops l bs i p t s = some r →
    ∃ (A : Nat → Pt) (B : Nat → Dt), A i = ⟨s, t, p⟩ ∧ (A (i + l.length)).S = r.2 ∧ (A (i + l.length)).T = r.1 ∧ ∀ (k : Nat) o, l[k]? = some o → Step E H nt ops o (bs.getD k 0) (i + k) (A (i + k)) (B (i + k)) (A (i + k + 1)) := by
  intro l
  induction l with
  | nil =>
    intro bs i p t s r h
    unfold aopsD at h
    cases h
    exact ⟨fun _ => ⟨s, t, p⟩, fun _ => ⟨[], none, .none, false⟩, rfl, rfl, rfl, fun k o h => by simp at h⟩
  | cons o l ih =>
    intro bs i p t s r h
    cases bs with
    | nil => unfold aopsD at h; cases h
    | cons b bs =>
      unfold aopsD at h
      obtain ⟨w, hw, h⟩ := obind_some h
      have fin : ∀ (p' : Past) (t' : Fr) (s' : AS) (d : Dt), aopsD E H nt ops l bs (Nat.succ i) p' t' s' = some r → Step E H nt ops o b i ⟨s, t, p⟩ d ⟨s', t', p'⟩ →
          ∃ (A : Nat → Pt) (B : Nat → Dt), A i = ⟨s, t, p⟩ ∧ (A (i + (o :: l).length)).S = r.2 ∧ (A (i + (o :: l).length)).T = r.1 ∧
            ∀ (k : Nat) o', (o :: l)[k]? = some o' → Step E H nt ops o' ((b :: bs).getD k 0) (i + k) (A (i + k)) (B (i + k)) (A (i + k + 1)) := by
        intro p' t' s' d h1 h2
        obtain ⟨A, B, a1, a2, a3, a4⟩ := ih bs (Nat.succ i) p' t' s' r h1
        refine ⟨fun j => if j = i then ⟨s, t, p⟩ else A j, fun j => if j = i then d else B j, if_pos rfl, ?_, ?_, fun k o' ho => ?_⟩
        · dsimp only
          rw [if_neg (by simp), show i + (o :: l).length = Nat.succ i + l.length from by simp; omega]
          exact a2
        · dsimp only
          rw [if_neg (by simp), show i + (o :: l).length = Nat.succ i + l.length from by simp; omega]
          exact a3
        · cases k with
          | zero =>
            cases ho
            dsimp only
            rw [if_pos (by omega), if_pos (by omega), if_neg (by omega), show i + 0 + 1 = Nat.succ i from rfl, a1]
            exact h2
          | succ k =>
            dsimp only
            rw [if_neg (by omega), if_neg (by omega), if_neg (by omega), show i + (k + 1) = Nat.succ i + k from by omega]
            exact a4 k o' (by simpa using ho)
      cases w with
      | true =>
        simp only [cond_true] at h
        obtain ⟨v, s1, h1, h⟩ := pbind_some h
        obtain ⟨t', h2, h⟩ := obind_some h
        obtain ⟨p', h3, h⟩ := obind_some h
        exact fin p' t' _ ⟨s1.wr, v, foot E t o.op, true⟩ h ⟨hw, h2, .inl ⟨rfl, s1, h1, rfl, rfl, h3, rfl⟩⟩
      | false =>
        simp only [cond_false] at h
        obtain ⟨t', h2, h⟩ := obind_some h
        exact fin p t' s ⟨[], none, .none, false⟩ h ⟨hw, h2, .inr ⟨rfl, rfl, rfl, rfl, rfl, rfl⟩⟩
theorem has_iff {l : List Nat} {b : Nat} : has l b = true ↔ b ∈ l := by
  induction l with
  | nil => simp [has]
  | cons x l ih =>
    unfold has
    rw [Bool.or_eq_true, ih, List.mem_cons]
    constructor
    · rintro (h | h)
      · exact .inl (Nat.eq_of_beq_eq_true h).symm
      · exact .inr h
    · rintro (h | h)
      · exact .inl (h ▸ Nat.beq_refl _)
      · exact .inr h
theorem modsIn_mem {bits : Nat} : ∀ {l : List (Nat × List Nat)}, modsIn bits l = true → ∀ m w, (m, w) ∈ l → bits.testBit m = true := by
  intro l
  induction l with
  | nil => intro _ m w h; cases h
  | cons x l ih =>
    intro h m w hm
    obtain ⟨a, b⟩ := x
    unfold modsIn at h
    rw [Bool.and_eq_true] at h
    rcases List.mem_cons.1 hm with e | hm
    · cases e; exact h.1
    · exact ih h.2 m w hm
theorem loudIn_mem {bits : Nat} : ∀ {l : List Nat}, loudIn bits l = true → ∀ m, m ∈ l → bits.testBit m = true := by
  intro l
  induction l with
  | nil => intro _ m h; cases h
  | cons x l ih =>
    intro h m hm
    unfold loudIn at h
    rw [Bool.and_eq_true] at h
    rcases List.mem_cons.1 hm with e | hm
    · cases e; exact h.1
    · exact ih h.2 m hm
theorem readsOk_mem {bits : Nat} {w : List Nat} : ∀ {l : List (Nat × Nat)}, readsOk bits w l = true → ∀ j b, (j, b) ∈ l → b ∈ w → bits.testBit j = true := by
  intro l
  induction l with
  | nil => intro _ j b h; cases h
  | cons x l ih =>
    intro h j b hm hb
    obtain ⟨j', b'⟩ := x
    unfold readsOk at h
    rw [Bool.and_eq_true] at h
    rcases List.mem_cons.1 hm with e | hm
    · cases e
      have := has_iff.2 hb
      simpa [this] using h.1
    · exact ih h.2 j b hm hb
theorem readOk_mem {bits b : Nat} : ∀ {l : List (Nat × List Nat)}, readOk bits b l = true → ∀ m w, (m, w) ∈ l → b ∈ w → bits.testBit m = true := by
  intro l
  induction l with
  | nil => intro _ j b h; cases h
  | cons x l ih =>
    intro h m w hm hb
    obtain ⟨j', b'⟩ := x
    unfold readOk at h
    rw [Bool.and_eq_true] at h
    rcases List.mem_cons.1 hm with e | hm
    · cases e
      have := has_iff.2 hb
      simpa [this] using h.1
    · exact ih h.2 m w hm hb

/-- Two steps that may not be turned round. -/
def Clash (x y : Dt) : Prop := (y.ft = .any ∧ x.W ≠ []) ∨ (y.W ≠ [] ∧ x.ft = .any) ∨ (∃ b, x.ft = .one b ∧ b ∈ y.W) ∨ (∃ b, y.ft = .one b ∧ b ∈ x.W)
def InPast (p : Past) (j : Nat) (d : Dt) : Prop := (d.ft = .any → j ∈ p.loud) ∧ (d.W ≠ [] → (j, d.W) ∈ p.mods) ∧ ∀ b, d.ft = .one b → (j, b) ∈ p.reads
theorem then_some {p p' : Past} {i bits : Nat} {w : List Nat} {f : Foot} (h : p.then i bits w f = some p') :
    (f ≠ .any → w = []) ∧ (∀ j d, InPast p j d → InPast p' j d ∧ (Clash d ⟨w, none, f, true⟩ → bits.testBit j = true)) ∧ InPast p' i ⟨w, none, f, true⟩ := by
  unfold Past.then at h
  have emp : ∀ {l : List Nat}, l.isEmpty = true → l = [] := fun h => by simpa using h
  cases f with
  | none =>
    obtain ⟨h1, h⟩ := only_some h
    cases h
    have hw := emp h1
    subst hw
    refine ⟨fun _ => rfl, fun j d hj => ⟨hj, ?_⟩, ⟨fun e => (by cases e), fun e => absurd rfl e, fun b e => (by cases e)⟩⟩
    rintro (⟨h, _⟩ | ⟨h, _⟩ | ⟨b, _, h⟩ | ⟨b, h, _⟩)
    · cases h
    · exact absurd rfl h
    · cases h
    · cases h
  | one b =>
    obtain ⟨h1, h⟩ := only_some h
    cases h
    rw [Bool.and_eq_true] at h1
    have hw := emp h1.1
    subst hw
    refine ⟨fun _ => rfl, fun j d hj => ⟨⟨hj.1, hj.2.1, fun b e => List.mem_cons_of_mem _ (hj.2.2 b e)⟩, ?_⟩, ⟨fun e => (by cases e), fun e => absurd rfl e, fun b e => (by cases e; exact List.mem_cons_self)⟩⟩
    rintro (⟨h, _⟩ | ⟨h, _⟩ | ⟨b, _, h⟩ | ⟨b', h, hb⟩)
    · cases h
    · exact absurd rfl h
    · cases h
    · cases h
      exact readOk_mem h1.2 j d.W (hj.2.1 (List.ne_nil_of_mem hb)) hb
  | any =>
    obtain ⟨h1, h⟩ := only_some h
    cases h
    unfold loudOk at h1
    simp only [Bool.and_eq_true, Bool.or_eq_true] at h1
    refine ⟨fun e => absurd rfl e, fun j d hj => ⟨⟨fun e => List.mem_cons_of_mem _ (hj.1 e), fun e => ?_, hj.2.2⟩, ?_⟩, ⟨fun _ => List.mem_cons_self, fun e => ?_, fun b e => by cases e⟩⟩
    · show (j, d.W) ∈ (bif w.isEmpty then p.mods else (i, w) :: p.mods)
      cases w.isEmpty
      · exact List.mem_cons_of_mem _ (hj.2.1 e)
      · exact hj.2.1 e
    · rintro (⟨_, h⟩ | ⟨h, hl⟩ | ⟨b, hb, h⟩ | ⟨b', h, hb⟩)
      · exact modsIn_mem h1.1 j d.W (hj.2.1 h)
      · rcases h1.2 with h2 | h2
        · exact absurd (emp h2) h
        · exact loudIn_mem h2.1 j (hj.1 hl)
      · rcases h1.2 with h2 | h2
        · rw [emp h2] at h; cases h
        · exact readsOk_mem h2.2 j b (hj.2.2 b hb) h
      · cases h
    · show (i, w) ∈ (bif w.isEmpty then p.mods else (i, w) :: p.mods)
      cases hw : w.isEmpty
      · exact List.mem_cons_self
      · exact absurd (emp hw) e
theorem Step.past {H : Hand} {nt b i : Nat} {o : Oper} {x y : Pt} {d : Dt} (h : Step E H nt ops o b i x d y) :
    (d.ft ≠ .any → d.W = []) ∧ (∀ j d', InPast x.p j d' → InPast y.p j d' ∧ (Clash d' d → b.testBit j = true)) ∧ InPast y.p i d := by
  obtain ⟨_, _, h | h⟩ := h
  · obtain ⟨h1, s1, h2, h3, h4, h5, h6⟩ := h
    rw [← h3] at h5
    exact then_some h5
  · obtain ⟨h1, h2, h3, h4, h5, h6⟩ := h
    rw [h5]
    refine ⟨fun _ => h3, fun j d' hj => ⟨hj, ?_⟩, ⟨fun e => ?_, fun e => absurd h3 e, fun b e => ?_⟩⟩
    · rintro (⟨h, _⟩ | ⟨h, _⟩ | ⟨b, _, h⟩ | ⟨b, h, _⟩)
      · rw [h4] at h; cases h
      · exact absurd h3 h
      · rw [h3] at h; cases h
      · rw [h4] at h; cases h
    · rw [h4] at e; cases e
    · rw [h4] at e; cases e

/-- A region's run in the text's order, with what it tells. -/
structure Told (E : Env) (H : Hand) (nt : Nat) (ops : Array Oper) (A : Nat → Pt) (B : Nat → Dt) : Prop where
  step : ∀ k o, ops[k]? = some o → ∃ b, Step E H nt ops o b k (A k) (B k) (A (k + 1))
  quiet : ∀ k, k < ops.size → (B k).ft ≠ .any → (B k).W = []
  order : ∀ j k, j < k → k < ops.size → Clash (B j) (B k) → ((Region.before ops).getD k 0).testBit j = true
theorem told_of {H : Hand} {nt : Nat} {t : Fr} {s : AS} {r : Fr × AS} (h : aopsD E H nt ops ops.toList (Region.before ops).toList 0 ⟨[], [], []⟩ t s = some r) :
    ∃ A B, Told E H nt ops A B ∧ (A 0).S = s ∧ (A 0).T = t ∧ (A ops.size).S = r.2 ∧ (A ops.size).T = r.1 := by
  obtain ⟨A, B, h1, h2, h3, h4⟩ := steps_of _ _ _ _ _ _ _ h
  have st : ∀ k o, ops[k]? = some o → Step E H nt ops o ((Region.before ops).getD k 0) k (A k) (B k) (A (k + 1)) := fun k o ho => by
    have := h4 k o (by simpa using ho)
    rw [Nat.zero_add] at this
    rwa [show (Region.before ops).toList.getD k 0 = (Region.before ops).getD k 0 from by simp [List.getD_eq_getElem?_getD, Array.getD_eq_getD_getElem?]] at this
  have get : ∀ k, k < ops.size → ∃ o, ops[k]? = some o := fun k hk => ⟨_, Array.getElem?_eq_getElem hk⟩
  have past : ∀ k, k ≤ ops.size → ∀ j, j < k → InPast (A k).p j (B j) := by
    intro k
    induction k with
    | zero => intro _ j hj; omega
    | succ k ih =>
      intro hk j hj
      obtain ⟨o, ho⟩ := get k (by omega)
      have hp := (st k o ho).past
      by_cases e : j = k
      · subst e; exact hp.2.2
      · exact (hp.2.1 j _ (ih (by omega) j (by omega))).1
  refine ⟨A, B, ⟨fun k o ho => ⟨_, st k o ho⟩, fun k hk => ?_, fun j k hj hk hc => ?_⟩, by rw [h1], by rw [h1], ?_, ?_⟩
  · obtain ⟨o, ho⟩ := get k hk
    exact (st k o ho).past.1
  · obtain ⟨o, ho⟩ := get k hk
    exact ((st k o ho).past.2.1 j _ (past k (by omega) j hj)).2 hc
  · simpa using h2
  · simpa using h3
end Go.Ev
