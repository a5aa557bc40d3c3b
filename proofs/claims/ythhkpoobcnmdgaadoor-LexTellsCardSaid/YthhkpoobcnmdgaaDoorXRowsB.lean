import Derived.Test.YthhkpoobcnmdgaaDoorBZ1
/-
  Rows of tokens: moved, one behind another one; two texts with a line end between.
-/
namespace Go.Proofs.YthhkpoobcnmdgaaDoor
open Go.RowKit
set_option linter.unusedVariables false

/-- The tokens of a text, moved. -/
def Tk.moved (z : Nat) (t : Tk) : Tk := ⟨t.d, t.l, t.k + z⟩
theorem TokL.moved {l : List Nat} {k : Nat} {ts : List Tk} {r : Option Nat} (h : TokL l k ts r) (z : Nat) : TokL l (k + z) (ts.map (Tk.moved z)) (r.map (· + z)) := by
  induction h with
  | done => exact .done
  | none hl h => exact .none hl h
  | glued hl h h2 => exact .glued hl h h2
  | @tok l k d b n ts r hl h h2 h3 ih =>
    refine .tok hl h h2 ?_
    rw [show k + z + n + skipL (l.drop n) false = k + n + skipL (l.drop n) false + z by omega]
    exact ih
theorem Lx.moved {l : List Nat} {k : Nat} {ts : List Tk} {r : Option Nat} (h : Lx l k ts r) (z : Nat) : Lx l (k + z) (ts.map (Tk.moved z)) (r.map (· + z)) := by
  unfold Lx at h ⊢
  have := TokL.moved h z
  rwa [show k + skipL l false + z = k + z + skipL l false by omega] at this
/-- Two texts with a line end between. -/
theorem joins {l r : List Nat} {ts us : List Tk} {q : Option Nat} (h : Lx l 0 ts none) (h2 : Lx r 0 us q) : Lx (l ++ 10 :: r) 0 (ts ++ us.map (Tk.moved (l.length + 1))) (q.map (· + (l.length + 1))) := by
  have := h2.moved (l.length + 1)
  rw [show 0 + (l.length + 1) = 0 + l.length + 1 by omega] at this
  exact Lx.join h this
theorem bytes_nl (s t : ByteArray) : M.bytes ((s ++ (⟨#[10]⟩ : ByteArray)) ++ t) = M.bytes s ++ 10 :: M.bytes t := by
  rw [bytes_app, bytes_app, List.append_assoc]; rfl

/-! Rows of tokens: one behind another one; a place written anew. -/
theorem tcells_get {l : List TE} {j : Nat} {u : Value} (h : (tcells l)[j]? = some u) : ∃ i e, l[i]? = some e ∧ ((j = i * 3 ∧ u = .int .i64 e.d) ∨ (j = i * 3 + 1 ∧ u = .string e.t) ∨ (j = i * 3 + 2 ∧ u = .int .i64 e.k)) := by
  induction l generalizing j with
  | nil => simp [tcells] at h
  | cons e l ih =>
    match j, h with
    | 0, h => simp [tcells] at h; exact ⟨0, e, rfl, .inl ⟨rfl, h.symm⟩⟩
    | 1, h => simp [tcells] at h; exact ⟨0, e, rfl, .inr (.inl ⟨rfl, h.symm⟩)⟩
    | 2, h => simp [tcells] at h; exact ⟨0, e, rfl, .inr (.inr ⟨rfl, h.symm⟩)⟩
    | j + 3, h =>
      obtain ⟨i, f, hf, hc⟩ := ih (j := j) (by simpa [tcells] using h)
      refine ⟨i + 1, f, by simpa using hf, ?_⟩
      rcases hc with ⟨e1, e2⟩ | ⟨e1, e2⟩ | ⟨e1, e2⟩
      · exact .inl ⟨by omega, e2⟩
      · exact .inr (.inl ⟨by omega, e2⟩)
      · exact .inr (.inr ⟨by omega, e2⟩)
set_option maxRecDepth 100000 in
theorem run_appT (w : World) {N : Nat} {A : Option Addr} {n c : Nat} {es : List TE} {B : Option Addr} {m d : Nat} {fs : List TE} (ho : OwT w N A n c es) (hr : RdT w B m d fs) (hd : B = none → d = 0) (hz : B = none → m = 0) (hb : n + m ≤ 4194304) (hN : N ≤ w.heap.size) (ty : TypeId) :
    ∃ A' c' w', (Builtin.append_ #[26, 26] ty #[.slice A n c, .slice B m d]).run Tryd.prog w = .ok (.slice A' (n + m) c') w' ∧ OwT w' N A' (n + m) c' (es ++ fs) ∧ w.grownBy w' (Value.slice A n c).ownBlock := by
  have hinf : (Tryd.prog.info? 43).map (fun i => (i.zero, i.size, i.bytes)) = some (some (.agg #[.int .i64 0, .string ⟨#[]⟩, .int .i64 0]), 3, 32) := by kernel_rfl
  obtain ⟨i0, hi, hz0, hz1, hz2⟩ := info_parts hinf
  have hu := Tryd.underlying26
  cases B with
  | none =>
    obtain rfl := hd rfl
    obtain rfl := hz rfl
    obtain rfl : fs = [] := List.eq_nil_of_length_eq_zero hr.len
    rw [List.append_nil]
    exact ⟨_, _, w, run_append_owned_none (P := Tryd.prog) (w := w) N 26 ty 43 i0 3 hu hi _ n (tcells es) ho, ho, ⟨rfl, rfl, rfl, Nat.le_refl _, fun _ _ _ => rfl⟩⟩
  | some ad =>
    have hnews : ∀ j u, (tcells fs)[j]? = some u → w.cell? (ad.add j) = some u := by
      intro j u hj
      obtain ⟨i, e, he, hc⟩ := tcells_get hj
      obtain ⟨g, o, hA, hg, h1, h2, h3⟩ := hr.cell i e he
      injection hA with hA
      subst hA
      rw [Addr.add_lit]
      rcases hc with ⟨rfl, rfl⟩ | ⟨rfl, rfl⟩ | ⟨rfl, rfl⟩
      · exact h1
      · exact h2
      · exact h3
    obtain ⟨v', w', hrun, h2, h3, h4, h5⟩ := run_append_own_at (P := Tryd.prog) w N 26 ty 43 i0 (.agg #[.int .i64 0, .string ⟨#[]⟩, .int .i64 0]) 3 32 hu hi hz0 hz1 hz2 rfl (by decide) _ n (tcells es) ho ad m d (tcells fs) (by rw [tcells_len, hr.len]) hnews (tcells_one _) (by unfold maxLen; omega) (by omega) hN
    rw [← tcells_app] at h2
    rcases h2.2 with ⟨rfl, h0⟩ | ⟨g', cap, cur, rfl, r⟩
    · refine ⟨none, 0, w', ?_, ?_, h3⟩
      · rw [hrun, h0]
      · rw [h0] at h2 ⊢; exact h2
    · exact ⟨_, _, w', hrun, h2, h3⟩
theorem app_rowT (w : World) {ops : Array Oper} {rest : List Oper} {o : Oper} {a : Act} {Q : Exit → Act → World → Prop} (hgd : Region.wanted o (yielded ops a.tmps) = true) (s x : Operand)
    {N : Nat} {A : Option Addr} {n c : Nat} {es : List TE} {B : Option Addr} {m d : Nat} {fs : List TE} (ho : o.op = .call { callee := .builtin .append, args := #[s, x], argTypes := #[26, 26] })
    (hs : a.eval s = .slice A n c) (hown : OwT w N A n c es) (hx : a.eval x = .slice B m d) (hr : RdT w B m d fs) (hd : B = none → d = 0) (hz : B = none → m = 0) (hb : n + m ≤ 4194304) (hN : N ≤ w.heap.size)
    (h : ∀ A' c' w', OwT w' N A' (n + m) c' (es ++ fs) → w.grownBy w' (Value.slice A n c).ownBlock → wpList Tryd.prog ops Q rest (a.put o.dst (.slice A' (n + m) c')) w') : wpList Tryd.prog ops Q (o :: rest) a w := by
  refine wpList_step fun K hK => ?_
  rw [if_pos hgd]
  obtain ⟨A', c', w', hr, h2, h3⟩ := run_appT w hown hr hd hz hb hN o.type
  unfold Oper.wp execOp
  simp only [ho, resolve, invoke, builtin, Sem.run_bind, Sem.run_pure, Result.andThen_ok, List.map_toArray, List.map_cons, List.map_nil, hs, hx, hr]
  exact hK _ _ (h A' c' w' h2 h3)
theorem OwT.nilcap {w : World} {N : Nat} {A : Option Addr} {n c : Nat} {es : List TE} (h : OwT w N A n c es) : (A = none → c = 0) ∧ (A = none → n = 0) := by
  rcases h.2 with ⟨hv, hn⟩ | ⟨g, cap, cur, hv, r⟩
  · injection hv with h1 h2 h3
    exact ⟨fun _ => h3, fun _ => hn⟩
  · injection hv with h1 h2 h3
    rw [h1]
    exact ⟨fun h => (by cases h), fun h => (by cases h)⟩

/-- A token as it lies, moved. -/
def TE.moved (z : Nat) (e : TE) : TE := ⟨e.d, e.t, e.k + z⟩
def mvd (z i : Nat) (es : List TE) : List TE := (es.take i).map (TE.moved z) ++ es.drop i
theorem mvd_zero (z : Nat) (es : List TE) : mvd z 0 es = es := by simp [mvd]
theorem mvd_all (z : Nat) (es : List TE) : mvd z es.length es = es.map (TE.moved z) := by simp [mvd]
theorem mvd_len (z i : Nat) (es : List TE) : (mvd z i es).length = es.length := by simp [mvd]; omega
theorem mvd_at {z i : Nat} {es : List TE} {e : TE} (h : es[i]? = some e) : (mvd z i es)[i]? = some e := by
  have hi : i < es.length := (List.getElem?_eq_some_iff.1 h).1
  unfold mvd
  rw [List.getElem?_append_right (by simp; omega)]
  simp [Nat.min_eq_left (Nat.le_of_lt hi), h]
theorem mvd_succ {z i : Nat} {es : List TE} {e : TE} (h : es[i]? = some e) : (mvd z i es).set i (e.moved z) = mvd z (i + 1) es := by
  have hi : i < es.length := (List.getElem?_eq_some_iff.1 h).1
  have he : es[i] = e := (List.getElem?_eq_some_iff.1 h).2
  unfold mvd
  rw [List.set_append_right _ _ (by simp; omega), List.take_add_one, h, List.drop_eq_getElem_cons hi, he]
  simp [Nat.min_eq_left (Nat.le_of_lt hi)]
theorem tcells_set {l : List TE} {i : Nat} {e : TE} (h : l[i]? = some e) (k' : Nat) : (tcells l).set (i * 3 + 2) (.int .i64 k') = tcells (l.set i ⟨e.d, e.t, k'⟩) := by
  induction l generalizing i with
  | nil => simp at h
  | cons f l ih =>
    cases i with
    | zero => simp at h; subst h; rfl
    | succ i =>
      have := ih (i := i) (by simpa using h)
      rw [show (i + 1) * 3 + 2 = i * 3 + 2 + 1 + 1 + 1 by omega]
      simp only [tcells, List.set_cons_succ, this]
theorem OwT.move {w : World} {N : Nat} {g n c z i : Nat} {es : List TE} {e : TE} (h : OwT w N (some ⟨g, 0, none⟩) n c (mvd z i es)) (he : es[i]? = some e) :
    OwT (w.setCell ⟨g, i * 3 + 2, none⟩ (.int .i64 ((e.k + z : Nat) : Int))) N (some ⟨g, 0, none⟩) n c (mvd z (i + 1) es) := by
  have := (World.ownsRow.stored h (i * 3 + 2) (.int .i64 ((e.k + z : Nat) : Int))).1
  rw [tcells_set (mvd_at he), show (⟨e.d, e.t, e.k + z⟩ : TE) = e.moved z from rfl, mvd_succ he] at this
  exact this
theorem RdT.set {w : World} {A : Option Addr} {n c : Nat} {es : List TE} (h : RdT w A n c es) {g j : Nat} (hg : ∀ p, A = some p → p.block ≠ g) (u : Value) : RdT (w.setCell ⟨g, j, none⟩ u) A n c es := by
  refine ⟨h.len, fun i e hi => ?_⟩
  obtain ⟨g', o, hA, hl, h1, h2, h3⟩ := h.cell i e hi
  have hne : g' ≠ g := hg _ hA
  have hk : ∀ x, (w.setCell ⟨g, j, none⟩ u).cell? ⟨g', x, none⟩ = w.cell? ⟨g', x, none⟩ := fun x => World.cell?_of_block (a := ⟨g', x, none⟩) (Below.heap_setCell _ _ _ _ hne)
  exact ⟨g', o, hA, by rw [World.size_setCell]; exact hl, (hk _).trans h1, (hk _).trans h2, (hk _).trans h3⟩
theorem RdT.grown {w w' : World} {A : Option Addr} {n c : Nat} {es : List TE} (h : RdT w A n c es) {row : Option Nat} (hg : w.grownBy w' row) (hr : ∀ p, A = some p → some p.block ≠ row) : RdT w' A n c es := by
  refine ⟨h.len, fun i e hi => ?_⟩
  obtain ⟨g', o, hA, hl, h1, h2, h3⟩ := h.cell i e hi
  have hk : ∀ x, w'.cell? ⟨g', x, none⟩ = w.cell? ⟨g', x, none⟩ := fun x => World.cell?_of_block (a := ⟨g', x, none⟩) (hg.block g' hl (hr _ hA))
  exact ⟨g', o, hA, Nat.lt_of_lt_of_le hl hg.size, (hk _).trans h1, (hk _).trans h2, (hk _).trans h3⟩
end Go.Proofs.YthhkpoobcnmdgaaDoor
