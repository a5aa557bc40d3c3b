import Derived.Laws.Sem
import Derived.Test.YthhkpoobcnmdgaaDoorBE1
/- Loads and stores. -/
namespace Go.Ev
variable {E : Env} {β β' : Bond} {s s' : AS} {w w' : World} {P : Program}

structure EnvOK (E : Env) (P : Program) : Prop where
  fn : ∀ f x, E.fn f = some x → P.funcs[f]? = some x
  ty : ∀ t i, E.ty t = some i → P.info? t = some i
  name : ∀ f x, E.fn f = some x → x.name ≠ "runtime.NumGoroutine"
  fine : ∀ f x c, E.fn f = some x → x.body = some c → Ev.fine c = true
  calm : ∀ t, E.calm t = true → P.stoodInHeld t = false ∧ P.eqGuardType P.depth t = false

section types
variable (hE : EnvOK E P)
include hE
theorem run_info {t : TypeId} {i : TypeInfo} (h : E.ty t = some i) (w : World) : (typeInfo t).run P w = .ok i w := by
  simp [typeInfo, program, hE.ty t i h, Sem.run]
theorem und_ok {t : TypeId} {d : TypeDesc} (h : E.und t = some d) : P.underlying t = some d := by
  unfold Env.und at h
  split at h
  · rename_i i hi
    have := hE.ty t i hi
    unfold Program.underlying
    split at h
    · rename_i nm u hd
      rw [this]
      obtain ⟨desc, _⟩ := i
      subst hd
      cases hu : E.ty u with
      | none => rw [hu] at h; cases h
      | some j => rw [hu] at h; simp only [hE.ty u j hu]; exact h
    · rename_i d' hnn
      rw [this]
      obtain ⟨desc, _⟩ := i
      simp only at hnn h
      cases h
      cases d <;> first | rfl | exact (hnn _ _ rfl).elim
  · cases h
theorem run_und {t : TypeId} {d : TypeDesc} (h : E.und t = some d) (w : World) : (underlying t).run P w = .ok d w := by
  simp [underlying, program, und_ok hE h, Sem.run]
theorem run_size {t : TypeId} {n : Nat} (h : E.size t = some n) (w : World) : (sizeOf t).run P w = .ok n w := by
  obtain ⟨i, hi, e⟩ := obind_some h
  cases e
  simp [Go.sizeOf, run_info hE hi]
theorem run_zero {t : TypeId} {v : Value} (h : E.zero t = some v) (w : World) : (zeroValue t).run P w = .ok v w := by
  obtain ⟨i, hi, e⟩ := obind_some h
  simp [zeroValue, run_info hE hi, e]
theorem run_isAgg {t : TypeId} {d : TypeDesc} (h : E.und t = some d) (w : World) : (Go.isAgg t).run P w = .ok (Ev.isAgg d) w := by
  simp only [Go.isAgg, Sem.run_bind, run_und hE h, Result.andThen_ok]
  cases d <;> rfl
end types
theorem shape_ok {t : TypeId} {ag : Bool} {n : Nat} (h : E.shape t = some (ag, n)) : (∃ d, E.und t = some d ∧ Ev.isAgg d = ag) ∧ E.size t = some n := by
  obtain ⟨d, hd, h⟩ := obind_some h
  obtain ⟨m, hm, h⟩ := obind_some h
  cases h
  exact ⟨⟨d, hd, rfl⟩, hm⟩

theorem add_addr (c o i : Nat) : Addr.add ⟨c, o, none⟩ i = ⟨c, o + i, none⟩ := by
  unfold Addr.add
  by_cases h : i = 0
  · subst h; rfl
  · rw [if_neg h]
theorem cell_at {w : World} {c : Nat} {arr : Array Value} {e : TypeId} {fro : Nat × Nat} (h : w.heap[c]? = some (.cells arr e fro)) (o : Nat) : w.cell? ⟨c, o, none⟩ = arr[o]? := by
  simp [World.cell?, h]
theorem run_loadFrom {w : World} {c : Nat} {arr : Array Value} {e : TypeId} {fro : Nat × Nat} (h : w.heap[c]? = some (.cells arr e fro)) (o : Nat) :
    ∀ (l : List Value) (i : Nat) (acc : Array Value), (∀ j v, l[j]? = some v → arr[o + i + j]? = some v) → (loadCellsFrom ⟨c, o, none⟩ i l.length acc).run P w = .ok (acc ++ l.toArray) w := by
  intro l
  induction l with
  | nil => intro i acc _; simp [loadCellsFrom]
  | cons v l ih =>
    intro i acc hl
    have h0 := hl 0 v rfl
    simp only [List.length_cons, loadCellsFrom, Sem.run_bind, run_load, add_addr, cell_at h, show arr[o + i]? = some v from by simpa using h0, Result.andThen_ok]
    rw [ih (i + 1) (acc.push v) fun j u hj => by have := hl (j + 1) u (by simpa using hj); rw [show o + (i + 1) + j = o + i + (j + 1) from by omega]; exact this]
    simp

theorem inCells_some {b : Option Blk} {γ : Type} {f : Nat → Tr Value → TypeId → Nat × Nat → Option (Nat × Nat) → Option γ} {r : γ} (h : inCells b f = some r) :
    ∃ n t e fro fam, b = some (.cells n t e fro fam) ∧ f n t e fro fam = some r := by
  unfold inCells at h
  split at h
  · exact ⟨_, _, _, _, _, rfl, h⟩
  · cases h
/-- A row of cells, on both sides. -/
theorem Sim.row (h : Sim E β s w) {b c sh : Nat} {g : Gr} (hb : β b = some (c, sh, g)) {n : Nat} {t : Tr Value} {e : TypeId} {fro : Nat × Nat} {fam : Option (Nat × Nat)}
    (hc : s.heap.get b = some (.cells n t e fro fam)) : ∃ arr fro', w.heap[c]? = some (.cells arr e fro') ∧ fam.isSome = g.isSome ∧ (∀ N z, g = some (N, z) → arr.size = N ∧ E.size e = some z) ∧ (g = none → sh = 0 ∧ arr.size = n) ∧ sh + n ≤ arr.size ∧
      (∀ i v, i < n → t.get i = some v → ∃ v', arr[sh + i]? = some v' ∧ VR β v v' ∧ oneCell v = true) ∧ (∀ k, sh + k < arr.size → fro'.1 ≤ sh + k → sh + k < fro'.2 → fro.1 ≤ k ∧ k < fro.2) := by
  obtain ⟨o, ho, r⟩ := h.blk b c sh g _ hb hc
  cases r with
  | cells hg hN hz hn hc hf => exact ⟨_, _, ho, hg, hN, hz, hn, hc, hf⟩

theorem cellsGo_some {t : Tr Value} : ∀ {k off : Nat} {l : List Value}, cellsGo t k off = some l → l.length = k ∧ ∀ j v, l[j]? = some v → t.get (off + j) = some v := by
  intro k
  induction k with
  | zero => intro off l h; cases h; exact ⟨rfl, fun j v h => by simp at h⟩
  | succ k ih =>
    intro off l h
    obtain ⟨v, hv, h⟩ := obind_some h
    obtain ⟨l', hl, h⟩ := obind_some h
    cases h
    obtain ⟨h1, h2⟩ := ih hl
    refine ⟨by simp [h1], fun j u hj => ?_⟩
    cases j with
    | zero => simp at hj; subst hj; exact hv
    | succ j => rw [show off + (j + 1) = off.succ + j from by omega]; exact h2 j u (by simpa using hj)

theorem cells_sim (h : Sim E β s w) {b c sh : Nat} {g : Gr} (hb : β b = some (c, sh, g)) {o k : Nat} {l : List Value} (hl : cells s b o k = some l) :
    ∃ l', (∀ W : World, W.heap = w.heap → (loadCells ⟨c, sh + o, none⟩ k).run P W = .ok l'.toArray W) ∧ All2 (VR β) l l' ∧ l.length = k ∧ allOne l = true := by
  cases k with
  | zero => cases hl; exact ⟨[], fun W _ => by simp [loadCells, loadCellsFrom], .nil, rfl, rfl⟩
  | succ k =>
    obtain ⟨n, t, e, fro, fam, hc, hl⟩ := inCells_some (show inCells _ _ = some l from hl)
    obtain ⟨hle, hl⟩ := only_some hl
    obtain ⟨arr, fro', ha, _, _, _, _, hcell, _⟩ := h.row hb hc
    obtain ⟨hlen, hget⟩ := cellsGo_some hl
    have hle := le_of_ble hle
    have hle : o + (k + 1) ≤ n := hle
    -- the program's cells, one by one
    have key : ∀ (m : List Value) (i : Nat), (∀ j v, m[j]? = some v → l[i + j]? = some v) → i + m.length ≤ k + 1 → ∃ m', All2 (VR β) m m' ∧ (∀ j v, m'[j]? = some v → arr[sh + o + i + j]? = some v) ∧ allOne m = true := by
      intro m
      induction m with
      | nil => intro i _ _; exact ⟨[], .nil, fun j v h => by simp at h, rfl⟩
      | cons v m ih =>
        intro i hm hi
        obtain ⟨m', r, hm', ho⟩ := ih (i + 1) (fun j u hj => by rw [show i + 1 + j = i + (j + 1) from by omega]; exact hm (j + 1) u (by simpa using hj)) (by simp at hi ⊢; omega)
        have h0 := hget i v (by simpa using hm 0 v rfl)
        obtain ⟨v', hv', rv, hone⟩ := hcell (o + i) v (by simp at hi; omega) h0
        refine ⟨v' :: m', .cons rv r, fun j u hj => ?_, by simp [allOne, hone, ho]⟩
        cases j with
        | zero => simp at hj; subst hj; rw [show sh + o + i + 0 = sh + (o + i) from by omega]; exact hv'
        | succ j => rw [show sh + o + i + (j + 1) = sh + o + (i + 1) + j from by omega]; exact hm' j u (by simpa using hj)
    obtain ⟨l', r, hl', ho⟩ := key l 0 (fun j v hj => by simpa using hj) (by omega)
    refine ⟨l', fun W hW => ?_, r, hlen, ho⟩
    have := run_loadFrom (P := P) (w := W) (by rw [hW]; exact ha) (sh + o) l' 0 #[] (fun j v hj => by have := hl' j v hj; simpa using this)
    rw [← r.len, hlen] at this
    simpa [loadCells] using this
theorem cell_sim (h : Sim E β s w) {b c sh : Nat} {g : Gr} (hb : β b = some (c, sh, g)) {o : Nat} {v : Value} (hl : cell s b o = some v) :
    ∃ v', w.cell? ⟨c, sh + o, none⟩ = some v' ∧ VR β v v' ∧ oneCell v = true := by
  obtain ⟨n, t, e, fro, fam, hc, hl⟩ := inCells_some (show inCells _ _ = some v from hl)
  obtain ⟨hle, hl⟩ := only_some hl
  obtain ⟨arr, fro', ha, _, _, _, _, hcell, _⟩ := h.row hb hc
  obtain ⟨v', hv', r, h1⟩ := hcell o v (le_of_ble hle) hl
  exact ⟨v', by rw [cell_at ha]; exact hv', r, h1⟩
theorem loadVar_sim (hE : EnvOK E P) (h : Sim E β s w) {a : Addr} {v' : Value} {t : TypeId} {v : Value} (ha : VR β (.pointer (some a)) v') (hl : loadVar E s t a = some v) :
    ∃ a' u, v' = .pointer (some a') ∧ (Go.loadVar t a').run P w = .ok u w ∧ VR β v u := by
  cases ha with
  | ptr o hb =>
    obtain ⟨_, hl⟩ := only_some hl
    obtain ⟨ag, n, hs, hl⟩ := pbind_some hl
    obtain ⟨⟨d, hd, hag⟩, hn⟩ := shape_ok hs
    cases ag with
    | true =>
      obtain ⟨l, hl3, e⟩ := obind_some (show obind (cells s _ o n) (fun l => some (.agg l.toArray)) = some v from hl)
      cases e
      obtain ⟨l', hr, r, _⟩ := cells_sim (P := P) h hb hl3
      exact ⟨_, .agg l'.toArray, rfl, by simp [Go.loadVar, run_isAgg hE hd, hag, run_size hE hn, hr w rfl], .aggL (by simpa using r)⟩
    | false =>
      obtain ⟨u, hu, r, _⟩ := cell_sim h hb (show cell s _ o = some v from hl)
      exact ⟨_, u, rfl, by simp [Go.loadVar, run_isAgg hE hd, hag, hu], r⟩

/-! stores -/
def wrl (arr : Array Value) (o : Nat) : List Value → Array Value
  | [] => arr
  | v :: l => wrl (arr.setIfInBounds o v) (o + 1) l
theorem wrl_size (l : List Value) : ∀ (arr : Array Value) (o : Nat), (wrl arr o l).size = arr.size := by
  induction l with
  | nil => intro _ _; rfl
  | cons v l ih => intro arr o; simp [wrl, ih]
theorem wrl_get (l : List Value) : ∀ (arr : Array Value) (o j : Nat), o + l.length ≤ arr.size → (wrl arr o l)[j]? = if o ≤ j ∧ j < o + l.length then l[j - o]? else arr[j]? := by
  induction l with
  | nil => intro arr o j _; rw [if_neg (by simp)]; rfl
  | cons v l ih =>
    intro arr o j h
    simp only [List.length_cons] at h
    show (wrl (arr.setIfInBounds o v) (o + 1) l)[j]? = _
    rw [ih _ _ _ (by simp; omega)]
    by_cases e : o = j
    · subst e
      rw [if_neg (by omega), if_pos (by simp), Nat.sub_self]
      simp [show o < arr.size from by omega]
    · by_cases h2 : o + 1 ≤ j ∧ j < o + 1 + l.length
      · rw [if_pos h2, if_pos (by simp; omega), show j - o = (j - (o + 1)) + 1 from by omega]; rfl
      · rw [if_neg h2, if_neg (by simp; omega), Array.getElem?_setIfInBounds_ne e]
theorem at_at (w : World) (c : Nat) (o o' : Obj) : at' (at' w c o) c o' = at' w c o' := by simp [at']
theorem at_self {w : World} {c : Nat} {o : Obj} (h : w.heap[c]? = some o) : at' w c o = w := by
  have e : w.heap.setIfInBounds c o = w.heap := by
    apply Array.ext_getElem?
    intro i
    by_cases hi : c = i
    · subst hi
      rw [Array.getElem?_setIfInBounds_self_of_lt (Array.getElem?_eq_some_iff.1 h).1, h]
    · rw [Array.getElem?_setIfInBounds_ne hi]
  unfold at'
  rw [e]
theorem setCell_at {w : World} {c : Nat} {arr : Array Value} {e : TypeId} {fro : Nat × Nat} (h : w.heap[c]? = some (.cells arr e fro)) (o : Nat) (v : Value) :
    w.setCell ⟨c, o, none⟩ v = at' w c (.cells (arr.setIfInBounds o v) e fro) := by
  have hc : c < w.heap.size := (Array.getElem?_eq_some_iff.1 h).1
  unfold World.setCell at'
  congr 1
  apply Array.ext_getElem?
  intro i
  by_cases hi : c = i
  · subst hi
    rw [Array.getElem?_setIfInBounds_self_of_lt hc, Array.getElem?_modify, if_pos rfl, h]; rfl
  · rw [Array.getElem?_setIfInBounds_ne hi, Array.getElem?_modify, if_neg hi]
theorem oneCell_not {v : Value} (h : oneCell v = true) : (∀ a, v ≠ .agg a) ∧ (∀ a, v ≠ .tuple a) := by
  exact ⟨fun a e => by subst e; exact Bool.noConfusion h, fun a e => by subst e; exact Bool.noConfusion h⟩
theorem run_store1 {w : World} {c : Nat} {arr : Array Value} {e : TypeId} {fro : Nat × Nat} (h : w.heap[c]? = some (.cells arr e fro)) {o : Nat} {v : Value} (ho : o < arr.size) (hv : oneCell v = true)
    (hf : ¬ (fro.1 ≤ o ∧ o < fro.2)) : (Go.store ⟨c, o, none⟩ v).run P w = .ok () (at' w c (.cells (arr.setIfInBounds o v) e fro)) := by
  have h1 : w.cell? ⟨c, o, none⟩ = some arr[o] := by rw [cell_at h]; simp [ho]
  have h2 : w.frozen? ⟨c, o, none⟩ = false := by
    simp only [World.frozen?, h, Bool.and_eq_false_iff, decide_eq_false_iff_not]
    omega
  rw [← setCell_at h]
  cases v <;> first | simp [Go.store, Sem.run, h1, h2]; done | cases hv
theorem run_stores {c : Nat} {e : TypeId} {fro : Nat × Nat} (o : Nat) : ∀ (vs : List Value) (i : Nat) (arr : Array Value) (w : World), w.heap[c]? = some (.cells arr e fro) → o + i + vs.length ≤ arr.size → allOne vs = true →
    (∀ k, o + i ≤ k → k < o + i + vs.length → ¬ (fro.1 ≤ k ∧ k < fro.2)) → (storeCells ⟨c, o, none⟩ vs i).run P w = .ok () (at' w c (.cells (wrl arr (o + i) vs) e fro)) := by
  intro vs
  induction vs with
  | nil =>
    intro i arr w h _ _ _
    have hc : c < w.heap.size := (Array.getElem?_eq_some_iff.1 h).1
    simp only [storeCells, Sem.run_pure, wrl]
    rw [at_self h]
  | cons v vs ih =>
    intro i arr w h hl h1 hf
    have hc : c < w.heap.size := (Array.getElem?_eq_some_iff.1 h).1
    simp only [allOne, Bool.and_eq_true] at h1
    simp only [List.length_cons] at hl hf
    simp only [storeCells, add_addr, Sem.run_bind, run_store1 (P := P) h (show o + i < arr.size from by omega) h1.1 (hf _ (by omega) (by omega)), Result.andThen_ok]
    rw [ih (i + 1) _ _ (at_eq _ hc) (by simp; omega) h1.2 (fun k h1 h2 => hf k (by omega) (by omega)), at_at]
    rfl

theorem allOne_get {l : List Value} (h : allOne l = true) {i : Nat} {v : Value} (hv : l[i]? = some v) : oneCell v = true := by
  induction l generalizing i with
  | nil => simp at hv
  | cons u l ih =>
    simp only [allOne, Bool.and_eq_true] at h
    cases i with
    | zero => simp at hv; exact hv ▸ h.1
    | succ i => exact ih h.2 (by simpa using hv)
theorem All2.one {l l' : List Value} (h : All2 (VR β) l l') : allOne l' = allOne l := by
  induction h with
  | nil => rfl
  | cons h _ ih => simp [allOne, h.one, ih]
theorem outside_ok {fro fro' : Nat × Nat} {sh o k n S : Nat} (hf : ∀ k, sh + k < S → fro'.1 ≤ sh + k → sh + k < fro'.2 → fro.1 ≤ k ∧ k < fro.2) (ho : outside fro o n = true) (h1 : sh + o ≤ k) (h2 : k < sh + o + n) (hS : k < S) : ¬ (fro'.1 ≤ k ∧ k < fro'.2) := by
  intro hk
  have := hf (k - sh) (by omega) (by omega) (by omega)
  simp only [outside, Bool.or_eq_true, Nat.ble_eq] at ho
  have e : Nat.add o n = o + n := rfl
  rw [e] at ho
  omega
/-- What a row's cells are behind a store. -/
theorem BR.stored {sh : Nat} {g : Gr} {n : Nat} {t : Tr Value} {e : TypeId} {fro fro' : Nat × Nat} {fam : Option (Nat × Nat)} {arr : Array Value} {o : Nat} {vs vs' : List Value}
    (hg : fam.isSome = g.isSome) (hN : ∀ N z, g = some (N, z) → arr.size = N ∧ E.size e = some z) (hz : g = none → sh = 0 ∧ arr.size = n) (hn : sh + n ≤ arr.size) (hc : ∀ i v, i < n → t.get i = some v → ∃ v', arr[sh + i]? = some v' ∧ VR β v v' ∧ oneCell v = true)
    (hf : ∀ k, sh + k < arr.size → fro'.1 ≤ sh + k → sh + k < fro'.2 → fro.1 ≤ k ∧ k < fro.2) (hv : All2 (VR β) vs vs') (h1 : allOne vs = true) (ho : o + vs.length ≤ n) :
    BR E β sh g (.cells n (ofList vs o t) e fro fam) (.cells (wrl arr (sh + o) vs') e fro') := by
  refine .cells hg (fun N z h => by rw [wrl_size]; exact hN N z h) (fun h => ⟨(hz h).1, by rw [wrl_size]; exact (hz h).2⟩) (by rw [wrl_size]; exact hn) (fun i v hi hv' => ?_) (by rw [wrl_size]; exact hf)
  rw [get_ofList] at hv'
  rw [wrl_get _ _ _ _ (by rw [← hv.len]; omega), ← hv.len]
  by_cases h : o ≤ i ∧ i < o + vs.length
  · rw [if_pos h] at hv'
    rw [if_pos (by omega), show sh + i - (sh + o) = i - o from by omega]
    obtain ⟨v'', h2, r⟩ := hv.get hv'
    exact ⟨v'', h2, r, allOne_get h1 hv'⟩
  · rw [if_neg h] at hv'
    rw [if_neg (by omega)]
    exact hc i v hi hv'
end Go.Ev
/- A store, a new variable, a new row, a row made longer. -/
namespace Go.Ev
variable {E : Env} {β β' : Bond} {s s' : AS} {w w' : World} {P : Program}

theorem kill_rec (s : AS) (j : Nat) {f : Nat} {ids : List (Nat × Nat)} (h : s.heap.get f = some (.fam ids)) : (Ev.kill s j).heap.get f = some (.fam ids) := by
  unfold Ev.kill
  split
  · rename_i hj
    rw [show (s.put j .dead).heap.get f = s.heap.get f from Tr.get_set_ne _ _ fun e => by subst e; rw [h] at hj; cases hj]
    exact h
  · exact h
theorem killAll_rec (id : Nat) (l : List (Nat × Nat)) : ∀ (s : AS) {f : Nat} {ids : List (Nat × Nat)}, s.heap.get f = some (.fam ids) → (Ev.killAll id l s).heap.get f = some (.fam ids) := by
  induction l with
  | nil => exact fun _ _ _ h => h
  | cons y l ih =>
    intro s f ids h
    unfold Ev.killAll
    cases Nat.beq y.1 id with
    | true => exact ih s h
    | false => exact ih _ (kill_rec s y.1 h)

theorem store_kept {b o : Nat} {vs : List Value} (hs : store s b o vs = some s') : Kept s s' := by
  cases vs with
  | nil => cases hs; exact .refl s
  | cons v vs =>
    obtain ⟨n, t, e, fro, fam, hc, hs⟩ := inCells_some (show inCells _ _ = some s' from hs)
    obtain ⟨_, hs⟩ := only_some hs
    cases fam with
    | none => cases hs; exact .put _ _ _
    | some p =>
      obtain ⟨f, rel⟩ := p
      unfold storeAs at hs
      split at hs
      · cases hs; rename_i h _; cases h
      · rename_i h
        cases h
        split at hs
        · cases hs
          exact (Kept.killAll _ _ _).trans ((Kept.put _ _ _).trans (.put _ _ _))
        · cases hs
theorem store_sim (h : Sim E β s w) {b c sh : Nat} {g : Gr} (hb : β b = some (c, sh, g)) {o : Nat} {vs vs' : List Value} (hv : All2 (VR β) vs vs') (hs : store s b o vs = some s') :
    ∃ w', (storeCells ⟨c, sh + o, none⟩ vs').run P w = .ok () w' ∧ Post E β s w β s' w' := by
  cases vs with
  | nil =>
    cases hs; cases hv
    exact ⟨w, by simp [storeCells], .refl h⟩
  | cons v vs =>
    obtain ⟨n, t, e, fro, fam, hc, hs⟩ := inCells_some (show inCells _ _ = some s' from hs)
    obtain ⟨hk, hs⟩ := only_some hs
    simp only [Bool.and_eq_true] at hk
    obtain ⟨⟨hk1, hk2⟩, hk3⟩ := hk
    have hk1 : o + (v :: vs).length ≤ n := le_of_ble hk1
    obtain ⟨arr, fro', ha, hg, hN, hz, hn, hcell, hfro⟩ := h.row hb hc
    have hrun := run_stores (P := P) (sh + o) vs' 0 arr w ha (by rw [← hv.len]; omega) (by rw [hv.one]; exact hk3) (fun k h1 h2 => outside_ok hfro hk2 (by omega) (by rw [← hv.len] at h2; omega) (by rw [← hv.len] at h2; omega))
    have hbr := BR.stored (e := e) hg hN hz hn hcell hfro hv hk3 hk1
    refine ⟨_, hrun, ?_⟩
    cases fam with
    | none =>
      cases hs
      refine Post.wrote h hb hbr (fun j sh' g' hj e => ?_) (by rw [hc]; rfl) (fun ids e => by rw [hc] at e; cases e)
      cases hal : alive (s.heap.get j) with
      | false => rfl
      | true =>
        obtain ⟨f, ri, ni, rj, nj, h1, _⟩ := h.inj b j c sh g sh' g' hb e (Ne.symm hj) (by rw [hc]; rfl) hal
        rw [hc] at h1; cases h1
    | some p =>
      obtain ⟨f, rel⟩ := p
      unfold storeAs at hs
      split at hs
      · rename_i hx; cases hx
      · rename_i f' rel' h0
        cases h0
        split at hs
        · rename_i ids hids
          cases hs
          have hfam := fun (i : Nat) (x : Nat × Nat × Gr) (rel' n' : Nat) (hi : β i = some x) (hf : famOf (s.heap.get i) = some (f, rel', n')) => h.fam i x f rel' n' hi hf
          have p1 := Post.killAll (E := E) (β := β) (w := w) b ids h
          have hb1 : (Ev.killAll b ids s).heap.get b = s.heap.get b := (killAll_get b ids s b).resolve_right fun e => e.2 rfl
          have hf1 := killAll_rec b ids s hids
          have h0 := h.fam b _ f rel n hb (by rw [hc]; rfl)
          have hm : ∀ i x rel' n', β i = some x → famOf ((Ev.killAll b ids s).heap.get i) = some (f, rel', n') → (i, rel' + n') ∈ [(b, rel + n)] := by
            intro i x rel' n' hi hf
            have hsame : (Ev.killAll b ids s).heap.get i = s.heap.get i := (killAll_get b ids s i).resolve_right fun e => by rw [e.1] at hf; cases hf
            by_cases hib : i = b
            · subst hib
              rw [hsame, hc] at hf; cases hf
              exact List.mem_singleton.2 rfl
            · rw [hsame] at hf
              obtain ⟨_, _, ids0, h3, h4, _⟩ := h.fam i x f rel' n' hi hf
              rw [hids] at h3; cases h3
              have := killAll_fam b ids s h4 hib
              rw [hsame, hf] at this; cases this
          have p2 := Post.turned p1.sim hf1 (ids' := [(b, rel + n)]) ⟨fun x hx => by simp at hx, trivial⟩ hm h0.2.1
          have hfb : f ≠ b := by have := h0.1; omega
          have hb2 : ((Ev.killAll b ids s).put f (.fam [(b, rel + n)])).heap.get b = some (.cells n t e fro (some (f, rel))) := by
            rw [show ((Ev.killAll b ids s).put f (.fam [(b, rel + n)])).heap.get b = (Ev.killAll b ids s).heap.get b from Tr.get_set_ne _ _ hfb, hb1, hc]
          have hrec : ((Ev.killAll b ids s).put f (.fam [(b, rel + n)])).heap.get f = some (.fam [(b, rel + n)]) := Tr.get_set_eq _ _ _
          refine (p1.trans p2 (.killAll _ _ _) (.put _ _ _)).trans (Post.wrote p2.sim hb hbr (fun j sh' g' hj e => ?_) (by rw [hb2]; rfl) (fun ids e => by rw [hb2] at e; cases e)) ((Kept.killAll _ _ _).trans (.put _ _ _)) (.put _ _ _)
          cases hal : alive (((Ev.killAll b ids s).put f (.fam [(b, rel + n)])).heap.get j) with
          | false => rfl
          | true =>
            obtain ⟨f2, ri, ni, rj, nj, h1, h2, _⟩ := p2.sim.inj b j c sh g sh' g' hb e (Ne.symm hj) (by rw [hb2]; rfl) hal
            rw [hb2] at h1; cases h1
            obtain ⟨_, _, ids3, h3, h4, _⟩ := p2.sim.fam j _ f _ _ e h2
            rw [hrec] at h3; cases h3
            simp at h4
            exact absurd h4.1 hj
        · cases hs
end Go.Ev
/- append, on the program's side. -/
namespace Go.Ev
variable {E : Env} {β β' : Bond} {s s' : AS} {w w' : World} {P : Program}

theorem elem_ok {t e : TypeId} (h : sliceElem E t = some e) : E.und t = some (.slice e) := by
  unfold sliceElem at h
  split at h
  · rename_i h'; cases h; exact h'
  · cases h
/-- The same world, but for the tape's place. -/
def drewn (w : World) : World := { w with drawn := w.drawn + 1 }
theorem drewn_heap (w : World) : (drewn w).heap = w.heap := rfl


theorem ofZeros_tail {ts : Array TypeId} {z : Bool} (h : ofZeros E ts.toList.tail = some z) : (ts[1]? = none ∧ z = false) ∨ ∃ u d, ts[1]? = some u ∧ E.und u = some d ∧ isInt d = z := by
  obtain ⟨l⟩ := ts
  cases l with
  | nil => cases h; exact .inl ⟨rfl, rfl⟩
  | cons a l => cases l with
    | nil => cases h; exact .inl ⟨rfl, rfl⟩
    | cons b l =>
      obtain ⟨d, hd, h1⟩ := obind_some h
      cases h1
      exact .inr ⟨b, d, by simp, hd, rfl⟩
theorem run_appendCap (w : World) (need old : Nat) (e : TypeId) : (choose (.appendCap need old e)).run P w = .ok (need + w.tape w.drawn (.appendCap need old e) % (2 ^ 63 - need)) (drewn w) := by
  simp [choose, Sem.run, Question.forced, Question.cut, drewn]
theorem run_askRoom (w : World) (n : Nat) : (askRoom n).run P w = .ok () w := by
  unfold askRoom
  split <;> rfl
theorem growBy_le (need : Nat) : ∀ (r c : Nat), c ≤ need + (need + 768) / 4 → Builtin.growBy need r c ≤ need + (need + 768) / 4 := by
  intro r
  induction r with
  | zero => exact fun c h => h
  | succ r ih =>
    intro c h
    unfold Builtin.growBy
    split
    · exact h
    · exact ih _ (by omega)
theorem next_le {need cap : Nat} (h : cap < need) : Builtin.nextslicecap need cap ≤ 2 * need + 192 := by
  unfold Builtin.nextslicecap
  split
  · omega
  · split
    · omega
    · have := growBy_le need 4 cap (by omega)
      omega
theorem next_room {need cap bytes : Nat} (h : cap < need) (hb : need * (bytes + 1) ≤ 2 ^ 36) : ¬ Builtin.nextslicecap need cap * bytes > 2 ^ 48 := by
  have h1 := Nat.mul_le_mul_right bytes (next_le h)
  have h2 : 1 * (bytes + 1) ≤ need * (bytes + 1) := Nat.mul_le_mul_right _ (by omega)
  have h3 : (2 * need + 192) * bytes ≤ 2 * (need * (bytes + 1)) + 192 * bytes := by
    rw [Nat.add_mul]
    have : 2 * need * bytes ≤ 2 * (need * (bytes + 1)) := by rw [Nat.mul_assoc]; exact Nat.mul_le_mul_left _ (Nat.mul_le_mul_left _ (by omega))
    omega
  omega
theorem need_small {need bytes : Nat} (hb : need * (bytes + 1) ≤ 2 ^ 36) : need ≤ 2 ^ 36 := by
  have : need * 1 ≤ need * (bytes + 1) := Nat.mul_le_mul_left _ (by omega)
  omega

theorem wrap_small {n : Nat} (h : n ≤ 2 ^ 30) : IntKind.i64.wrap (n : Int) = n := by
  have e : ((n : Int) % (2 ^ IntKind.i64.bits : Int)) = n := Int.emod_eq_of_lt (by omega) (by
    rw [show (2 ^ IntKind.i64.bits : Int) = 18446744073709551616 from rfl]; omega)
  unfold IntKind.wrap
  simp only [e]
  rw [if_neg]
  rw [show (2 ^ (IntKind.i64.bits - 1) : Int) = 9223372036854775808 from rfl]
  simp; omega

section run
variable (hE : EnvOK E P) {ts : Array TypeId} {t e ty : TypeId} {i : TypeInfo} {zv : Value} {len cap n : Nat} {base : Option Addr} {new : List Value} {y : Value}
  (h0 : ts[0]? = some t) (he : sliceElem E t = some e) (hi : E.ty e = some i)
include hE h0 he hi
theorem run_appendV_fits {o c : Nat} (h1 : ofZeros E ts.toList.tail = some false) (hl : (Builtin.lenOf y).run P w = .ok n w) (hf : (Builtin.firstCells i.size n y).run P w = .ok new.toArray w) (hc : len + n ≤ cap)
    (hs : (storeCells ⟨c, o + len * i.size, none⟩ new).run P w = .ok () w') :
    (Builtin.append_ ts ty #[.slice (some ⟨c, o, none⟩) len cap, y]).run P w = .ok (.slice (some ⟨c, o, none⟩) (len + n) cap) w' := by
  have hu := run_und hE (elem_ok he)
  have hsize := run_size hE (show E.size e = some i.size by unfold Env.size; rw [hi]; rfl)
  rcases ofZeros_tail h1 with ⟨ht, _⟩ | ⟨u, d, ht, hd, hz⟩
  · simp [Builtin.append_, h0, ht, hu, hsize, hl, hc, hf, add_addr, hs]
  · have hd' := run_und hE hd
    simp [Builtin.append_, h0, ht, hu, hsize, hd']
    cases d <;> first | (simp [isInt] at hz; done) | simp [hl, hc, hf, add_addr, hs]
theorem run_appendV_nil (h1 : ofZeros E ts.toList.tail = some false) (hl : (Builtin.lenOf y).run P w = .ok n w) (hf : (Builtin.firstCells i.size n y).run P w = .ok new.toArray w) (hc : len + n ≤ cap) :
    (Builtin.append_ ts ty #[.slice none len cap, y]).run P w = .ok (.slice none (len + n) cap) w := by
  have hu := run_und hE (elem_ok he)
  have hsize := run_size hE (show E.size e = some i.size by unfold Env.size; rw [hi]; rfl)
  rcases ofZeros_tail h1 with ⟨ht, _⟩ | ⟨u, d, ht, hd, hz⟩
  · simp [Builtin.append_, h0, ht, hu, hsize, hl, hc, hf]
  · have hd' := run_und hE hd
    simp [Builtin.append_, h0, ht, hu, hsize, hd']
    cases d <;> first | (simp [isInt] at hz; done) | simp [hl, hc, hf]
theorem run_appendV_grows {old : List Value} (h1 : ofZeros E ts.toList.tail = some false) (hl : (Builtin.lenOf y).run P w = .ok n w) (hf : (Builtin.firstCells i.size n y).run P (drewn w) = .ok new.toArray (drewn w)) (hc : ¬ len + n ≤ cap)
    (hz : i.zero = some zv) (hb : (len + n) * (i.bytes + 1) ≤ 2 ^ 36) (ho : (Builtin.firstCells i.size len (.slice base len cap)).run P (drewn w) = .ok old.toArray (drewn w)) :
    ∃ N rest, len + n ≤ N ∧ rest.size = (N - (len + n)) * zv.cells.size ∧ (Builtin.append_ ts ty #[.slice base len cap, y]).run P w = .ok (.slice (some ⟨w.heap.size, 0, none⟩) (len + n) N) (push (drewn w) (.cells ((old ++ new).toArray ++ rest) e)) := by
  have hu := run_und hE (elem_ok he)
  have hsize := run_size hE (show E.size e = some i.size by unfold Env.size; rw [hi]; rfl)
  have hzero := run_zero hE (show E.zero e = some zv by unfold Env.zero; rw [hi]; exact hz)
  have hinfo := run_info hE hi
  have hn := next_room (show cap < len + n by omega) hb
  have hs := need_small hb
  have hm' : ¬ (IntKind.i64.max < (len : Int) + (n : Int) ∧ i.bytes = 0) := by
    rw [show IntKind.i64.max = 9223372036854775807 from rfl]; omega
  have hn' : ¬ 281474976710656 < Builtin.nextslicecap (len + n) cap * i.bytes := hn
  simp only [drewn] at ho hf
  refine ⟨len + n + w.tape w.drawn (.appendCap (len + n) cap e) % (2 ^ 63 - (len + n)), Builtin.zeroCells zv.cells (len + n + w.tape w.drawn (.appendCap (len + n) cap e) % (2 ^ 63 - (len + n)) - (len + n)), by omega, by simp [Builtin.zeroCells], ?_⟩
  rcases ofZeros_tail h1 with ⟨ht, _⟩ | ⟨u, d, ht, hd, hz⟩
  · simp [Builtin.append_, h0, ht, hu, hsize, hl, hc, hinfo, hm', hn', Question.forced, Question.cut, ho, hf, hzero, Go.newRow, newObj, Sem.run, push, drewn]
    rw [← Array.append_assoc, show old.toArray ++ new.toArray = (old ++ new).toArray by simp]
  · have hd' := run_und hE hd
    simp [Builtin.append_, h0, ht, hu, hsize, hd']
    cases d <;> first | (simp [isInt] at hz; done) | (simp [hl, hc, hinfo, hm', hn', Question.forced, Question.cut, ho, hf, hzero, Go.newRow, newObj, Sem.run, push, drewn]; rw [← Array.append_assoc, show old.toArray ++ new.toArray = (old ++ new).toArray by simp])

/-- What is added is told by a number of zeros. -/
theorem run_appendZ_fits {o c : Nat} {k : IntKind} (h1 : ofZeros E ts.toList.tail = some true) (hn : n ≤ 2 ^ 30) (hnb : n * i.bytes ≤ 2 ^ 40) (hz : i.zero = some zv) (hnew : (if n * i.size = 0 then #[] else Builtin.zeroCells zv.cells n) = new.toArray) (hc : len + n ≤ cap)
    (hs : (storeCells ⟨c, o + len * i.size, none⟩ new).run P w = .ok () w') :
    (Builtin.append_ ts ty #[.slice (some ⟨c, o, none⟩) len cap, .int k (n : Int)]).run P w = .ok (.slice (some ⟨c, o, none⟩) (len + n) cap) w' := by
  have hu := run_und hE (elem_ok he)
  have hsize := run_size hE (show E.size e = some i.size by unfold Env.size; rw [hi]; rfl)
  have hzero := run_zero hE (show E.zero e = some zv by unfold Env.zero; rw [hi]; exact hz)
  have hinfo := run_info hE hi
  have hw := wrap_small hn
  have hb : ¬ (281474976710656 : Int) < (n : Int) * (i.bytes : Int) := by rw [← Int.natCast_mul]; omega
  rcases ofZeros_tail h1 with ⟨_, hf⟩ | ⟨u, d, ht, hd, hzz⟩
  · cases hf
  · have hd' := run_und hE hd
    simp [Builtin.append_, h0, ht, hu, hsize, hd']
    cases d <;> first | (simp [isInt] at hzz; done) | skip
    by_cases h00 : n * i.size = 0
    · rw [if_pos h00] at hnew
      have hnn : new = [] := by simpa using hnew.symm
      subst hnn
      simp [asInt, asIntOf, hw, hinfo, hb, hc, h00, hs, add_addr, show ¬ ((n : Int) < 0) by omega]
    · rw [if_neg h00] at hnew
      simp [asInt, asIntOf, hw, hinfo, hb, hc, h00, hs, add_addr, hzero, hnew, show ¬ ((n : Int) < 0) by omega]
theorem run_appendZ_nil {k : IntKind} (h1 : ofZeros E ts.toList.tail = some true) (hn : n ≤ 2 ^ 30) (hnb : n * i.bytes ≤ 2 ^ 40) (hz : i.zero = some zv) (hc : len + n ≤ cap) :
    (Builtin.append_ ts ty #[.slice none len cap, .int k (n : Int)]).run P w = .ok (.slice none (len + n) cap) w := by
  have hu := run_und hE (elem_ok he)
  have hsize := run_size hE (show E.size e = some i.size by unfold Env.size; rw [hi]; rfl)
  have hzero := run_zero hE (show E.zero e = some zv by unfold Env.zero; rw [hi]; exact hz)
  have hinfo := run_info hE hi
  have hw := wrap_small hn
  have hb : ¬ (281474976710656 : Int) < (n : Int) * (i.bytes : Int) := by rw [← Int.natCast_mul]; omega
  rcases ofZeros_tail h1 with ⟨_, hf⟩ | ⟨u, d, ht, hd, hzz⟩
  · cases hf
  · have hd' := run_und hE hd
    simp [Builtin.append_, h0, ht, hu, hsize, hd']
    cases d <;> first | (simp [isInt] at hzz; done) | skip
    by_cases h00 : n * i.size = 0
    · simp [asInt, asIntOf, hw, hinfo, hb, hc, h00, show ¬ ((n : Int) < 0) by omega]
    · simp [asInt, asIntOf, hw, hinfo, hb, hc, hzero, show ¬ ((n : Int) < 0) by omega]
theorem run_appendZ_grows {old : List Value} {k : IntKind} (h1 : ofZeros E ts.toList.tail = some true) (hn0 : n ≤ 2 ^ 30) (hnb : n * i.bytes ≤ 2 ^ 40) (hc : ¬ len + n ≤ cap)
    (hz : i.zero = some zv) (hnew : (if n * i.size = 0 then #[] else Builtin.zeroCells zv.cells n) = new.toArray) (hb : (len + n) * (i.bytes + 1) ≤ 2 ^ 36) (ho : (Builtin.firstCells i.size len (.slice base len cap)).run P (drewn w) = .ok old.toArray (drewn w)) :
    ∃ N rest, len + n ≤ N ∧ rest.size = (N - (len + n)) * zv.cells.size ∧ (Builtin.append_ ts ty #[.slice base len cap, .int k (n : Int)]).run P w = .ok (.slice (some ⟨w.heap.size, 0, none⟩) (len + n) N) (push (drewn w) (.cells ((old ++ new).toArray ++ rest) e)) := by
  have hu := run_und hE (elem_ok he)
  have hsize := run_size hE (show E.size e = some i.size by unfold Env.size; rw [hi]; rfl)
  have hzero := run_zero hE (show E.zero e = some zv by unfold Env.zero; rw [hi]; exact hz)
  have hinfo := run_info hE hi
  have hn := next_room (show cap < len + n by omega) hb
  have hs := need_small hb
  have hm' : ¬ IntKind.i64.max < (len : Int) + (n : Int) := by
    rw [show IntKind.i64.max = 9223372036854775807 from rfl]; omega
  have hn' : ¬ 281474976710656 < Builtin.nextslicecap (len + n) cap * i.bytes := hn
  have hw := wrap_small hn0
  have hb2 : ¬ (281474976710656 : Int) < (n : Int) * (i.bytes : Int) := by rw [← Int.natCast_mul]; omega
  simp only [drewn] at ho
  refine ⟨len + n + w.tape w.drawn (.appendCap (len + n) cap e) % (2 ^ 63 - (len + n)), Builtin.zeroCells zv.cells (len + n + w.tape w.drawn (.appendCap (len + n) cap e) % (2 ^ 63 - (len + n)) - (len + n)), by omega, by simp [Builtin.zeroCells], ?_⟩
  rcases ofZeros_tail h1 with ⟨_, hf⟩ | ⟨u, d, ht, hd, hzz⟩
  · cases hf
  · have hd' := run_und hE hd
    simp [Builtin.append_, h0, ht, hu, hsize, hd']
    cases d <;> first | (simp [isInt] at hzz; done) | skip
    by_cases h00 : n * i.size = 0
    · rw [if_pos h00] at hnew
      have hnn : new = [] := by simpa using hnew.symm
      subst hnn
      simp [asInt, asIntOf, hw, hinfo, hb2, hc, h00, hm', hn', Question.forced, Question.cut, ho, hzero, Go.newRow, newObj, Sem.run, push, drewn, show ¬ ((n : Int) < 0) by omega]
    · rw [if_neg h00] at hnew
      simp [asInt, asIntOf, hw, hinfo, hb2, hc, h00, hm', hn', Question.forced, Question.cut, ho, hzero, hnew, Go.newRow, newObj, Sem.run, push, drewn, show ¬ ((n : Int) < 0) by omega]
      rw [← Array.append_assoc, show old.toArray ++ new.toArray = (old ++ new).toArray by simp]
end run
end Go.Ev
/- append, on both sides. -/
namespace Go.Ev
variable {E : Env} {β β' : Bond} {s s' : AS} {w w' : World} {P : Program}

theorem Sim.heap (h : Sim E β s w) (e : w'.heap = w.heap) : Sim E β s w' where
  lt i c sh g hi := by rw [e]; exact h.lt i c sh g hi
  blk i c sh g b hi hb := by rw [e]; exact h.blk i c sh g b hi hb
  inj := h.inj
  fam := h.fam
  ng := h.ng
  glob := h.glob
  laid c hc := by rw [e]; exact h.laid c hc
theorem Post.heapL {w0 : World} (h : Post E β s w β' s' w') (e : w0.heap = w.heap) (es : Same w0 w) : Post E β s w0 β' s' w' where
  same := es.trans h.same
  ext := h.ext
  new := h.new
  sim := h.sim
  size := by rw [e]; exact h.size
  frame c hc hn := by rw [e]; exact h.frame c (by rw [← e]; exact hc) hn
  fresh i c sh g a b := by rw [e]; exact h.fresh i c sh g a b

theorem newRow_kept (e : TypeId) (t : Tr Value) (n len cap : Nat) : Kept s (newRow s e t n len cap).2 := (Kept.alloc s _).trans (.alloc _ _)
theorem newRow_sim (h : Sim E β s w) {e : TypeId} {z : Nat} (hz : E.size e = some z) {t : Tr Value} {n len cap m : Nat} {arr : Array Value} (fro' : Nat × Nat) (hfr : ∀ k, k < arr.size → fro'.1 ≤ k → k < fro'.2 → False)
    (hc : ∀ i v, i < n → t.get i = some v → ∃ v', arr[i]? = some v' ∧ VR β v v' ∧ oneCell v = true) (hn : n ≤ arr.size) (hm : cap ≤ m) (hN : m * z ≤ arr.size) :
    ∃ β', Post E β s w β' (newRow s e t n len cap).2 (push w (.cells arr e fro')) ∧ VR β' (newRow s e t n len cap).1 (.slice (some ⟨w.heap.size, 0, none⟩) len m) := by
  have p1 := Post.hidden h (.fam [(s.next + 1, n)])
  have hext : Ext β (upd β (s.next + 1) (w.heap.size, 0, some (arr.size, z))) := .upd (h.unset (Nat.le_succ _))
  have p2 := Post.made (b := .cells n t e (0, 0) (some (s.next, 0))) (o := .cells arr e fro') (g := some (arr.size, z)) p1.sim
    (.cells rfl (fun N z' he => by cases he; exact ⟨rfl, hz⟩) (fun he => by cases he) (by omega) (fun i v hi hv => by
      obtain ⟨v', h1, h2, h3⟩ := hc i v hi hv
      exact ⟨v', by rw [Nat.zero_add]; exact h1, h2.ext hext, h3⟩) (fun k h0 h1 h2 => by rw [Nat.zero_add] at *; exact (hfr k h0 h1 h2).elim))
    (fun f rel k he => by
      cases he
      refine ⟨Nat.lt_succ_self _, h.unset (Nat.le_refl _), [(s.next + 1, n)], Tr.get_set_eq _ _ _, ?_, ⟨fun x hx => by simp at hx, trivial⟩⟩
      rw [Nat.zero_add]
      exact List.mem_singleton.2 rfl)
  exact ⟨_, p1.trans p2 (.alloc _ _) (.alloc _ _), .slice (sh := 0) (g := some (arr.size, z)) 0 len (upd_eq _ _ _) hm (fun he => by cases he) (fun N z' he => by cases he; omega)⟩

/-! the family's record -/
theorem killAbove_kept (top : Nat) : ∀ (l : List (Nat × Nat)) (s : AS), Kept s (killAbove top l s).2 := by
  intro l
  induction l with
  | nil => exact fun s => .refl s
  | cons x l ih =>
    intro s
    unfold killAbove
    cases Nat.ble x.2 top with
    | true => exact .refl s
    | false => exact (Kept.kill s x.1).trans (ih _)
theorem killAbove_post (top : Nat) : ∀ (l : List (Nat × Nat)) (s : AS), Sim E β s w → Post E β s w β (killAbove top l s).2 w := by
  intro l
  induction l with
  | nil => exact fun s h => .refl h
  | cons x l ih =>
    intro s h
    unfold killAbove
    cases Nat.ble x.2 top with
    | true => exact .refl h
    | false => exact (Post.kill h x.1).trans (ih _ (Post.kill h x.1).sim) (.kill _ _) (killAbove_kept _ _ _)
theorem killAbove_next (top : Nat) : ∀ (l : List (Nat × Nat)) (s : AS), (killAbove top l s).2.next = s.next := by
  intro l
  induction l with
  | nil => exact fun s => rfl
  | cons x l ih =>
    intro s
    unfold killAbove
    cases Nat.ble x.2 top with
    | true => rfl
    | false => exact (ih _).trans (kill_next s x.1)
theorem killAbove_rec (top : Nat) : ∀ (l : List (Nat × Nat)) (s : AS) {f : Nat} {ids : List (Nat × Nat)}, s.heap.get f = some (.fam ids) → (killAbove top l s).2.heap.get f = some (.fam ids) := by
  intro l
  induction l with
  | nil => exact fun _ _ _ h => h
  | cons x l ih =>
    intro s f ids h
    unfold killAbove
    cases Nat.ble x.2 top with
    | true => exact h
    | false => exact ih _ (kill_rec s x.1 h)
/-- What is alive behind it. -/
theorem killAbove_get (top : Nat) : ∀ (l : List (Nat × Nat)) (s : AS) (k : Nat), Sorted l →
    ((killAbove top l s).2.heap.get k = s.heap.get k ∧ (∀ t, (k, t) ∈ l → famOf (s.heap.get k) ≠ none → (k, t) ∈ (killAbove top l s).1) ∨ (killAbove top l s).2.heap.get k = some .dead ∧ ∃ t, (k, t) ∈ l ∧ top < t) := by
  intro l
  induction l with
  | nil => exact fun s k _ => .inl ⟨rfl, fun t h => by cases h⟩
  | cons x l ih =>
    intro s k hs
    unfold killAbove
    cases hx : Nat.ble x.2 top with
    | true => exact .inl ⟨rfl, fun t h _ => h⟩
    | false =>
      have hgt : top < x.2 := Nat.lt_of_not_le fun e => by rw [Nat.ble_eq_true_of_le e] at hx; cases hx
      rcases ih (Ev.kill s x.1) k hs.2 with ⟨h1, h2⟩ | ⟨h1, t, h2, h3⟩
      · rcases kill_get s x.1 k with h | ⟨h, rfl⟩
        · refine .inl ⟨h1.trans h, fun t ht hf => ?_⟩
          cases ht with
          | head =>
            have := kill_self s k
            rw [h] at this
            exact absurd this hf
          | tail _ ht => exact h2 t ht (by rw [h]; exact hf)
        · exact .inr ⟨h1.trans h, x.2, List.mem_cons_self, hgt⟩
      · exact .inr ⟨h1, t, List.mem_cons_of_mem _ h2, h3⟩
theorem killAbove_left (top : Nat) : ∀ (l : List (Nat × Nat)) (s : AS), Sorted l → Sorted (killAbove top l s).1 ∧ ∀ x ∈ (killAbove top l s).1, x.2 ≤ top := by
  intro l
  induction l with
  | nil => exact fun s _ => ⟨trivial, fun x h => by cases h⟩
  | cons x l ih =>
    intro s hs
    unfold killAbove
    cases hx : Nat.ble x.2 top with
    | true =>
      refine ⟨hs, fun y hy => ?_⟩
      have := le_of_ble hx
      cases hy with
      | head => exact this
      | tail _ hy => exact Nat.le_trans (hs.1 y hy) this
    | false => exact ih _ hs.2

/-- A row that lies in another one's room. -/
theorem Post.overlaid (h : Sim E β s w) {b c sh N z f rel : Nat} {e : TypeId} {fro' : Nat × Nat} {arr arr' : Array Value} (hb : β b = some (c, sh, some (N, z)))
    (hf1 : f < b) (hf2 : β f = none) (fellow : ∀ i sh' g', β i = some (c, sh', g') → alive (s.heap.get i) = true → ∃ ri ni, famOf (s.heap.get i) = some (f, ri, ni) ∧ sh + ri = sh' + rel)
    (hw : w.heap[c]? = some (.cells arr e fro')) {n o mid : Nat} {t : Tr Value} {fro2 : Nat × Nat}
    (hlow : ∀ j x rel' n', β j = some x → famOf (s.heap.get j) = some (f, rel', n') → rel' + n' ≤ rel + o + mid)
    (hsz : arr'.size = arr.size) (hsame : ∀ k, k < sh + o + mid → arr'[k]? = arr[k]?)
    {ids : List (Nat × Nat)} (hrec : s.heap.get f = some (.fam ids)) (hmem : (s.next, rel + o + n) ∈ ids) (hsort : Sorted ids)
    (hbr : BR E (upd β s.next (c, sh + o, some (N, z))) (sh + o) (some (N, z)) (.cells n t e fro2 (some (f, rel + o))) (.cells arr' e fro'))
    (hwr : b < s.mark → ∃ f ∈ s.wr, f ≤ b) :
    Post E β s w (upd β s.next (c, sh + o, some (N, z))) (s.alloc (.cells n t e fro2 (some (f, rel + o)))) (at' w c (.cells arr' e fro')) := by
  have hn := h.unset (Nat.le_refl s.next)
  have hc := (h.lt b c sh _ hb).2
  have hbl := (h.lt b c sh _ hb).1
  have he : Ext β (upd β s.next (c, sh + o, some (N, z))) := .upd hn
  have hh : ∀ i, i < s.next → (s.alloc (.cells n t e fro2 (some (f, rel + o)))).heap.get i = s.heap.get i := fun i hi => Tr.get_set_ne _ _ (by omega)
  have h0 : (s.alloc (.cells n t e fro2 (some (f, rel + o)))).heap.get s.next = some (.cells n t e fro2 (some (f, rel + o))) := Tr.get_set_eq _ _ _
  have old : ∀ i d sh' g', upd β s.next (c, sh + o, some (N, z)) i = some (d, sh', g') → (i = s.next ∧ d = c ∧ sh' = sh + o ∧ g' = some (N, z)) ∨ (β i = some (d, sh', g') ∧ i < s.next ∧ d < w.heap.size) := by
    intro i d sh' g' e
    by_cases hi : i = s.next
    · subst hi; rw [upd_eq] at e; cases e; exact .inl ⟨rfl, rfl, rfl, rfl⟩
    · rw [upd_ne β _ hi] at e; exact .inr ⟨e, h.lt i d sh' g' e⟩
  refine ⟨he, fun i x e n => ?_, ⟨?_, ?_, ?_, ?_, ?_, ?_, ?_⟩, by rw [at_size]; exact Nat.le_refl _, fun d hd hnn => at_ne w _ fun e => hnn b _ hb e, fun i d sh' g' e n => ?_, ⟨rfl, rfl, rfl⟩⟩
  · obtain ⟨d, sh', g'⟩ := x
    rcases old i d sh' g' e with ⟨rfl, _⟩ | ⟨e', _⟩
    · exact Nat.le_refl _
    · rw [n] at e'; cases e'
  · intro i d sh' g' e
    rw [at_size]
    show i < s.next + 1 ∧ _
    rcases old i d sh' g' e with ⟨rfl, rfl, _⟩ | ⟨_, h1, h2⟩ <;> omega
  · intro i d sh' g' b' e hb'
    rcases old i d sh' g' e with ⟨rfl, rfl, rfl, rfl⟩ | ⟨e', h1, h2⟩
    · rw [h0] at hb'; cases hb'
      exact ⟨_, at_eq _ hc, hbr⟩
    · rw [hh i h1] at hb'
      obtain ⟨o', ho', r⟩ := h.blk i d sh' g' b' e' hb'
      by_cases hd : c = d
      · subst hd
        refine ⟨_, at_eq _ hc, ?_⟩
        cases ha : alive (s.heap.get i) with
        | false => rw [hb'] at ha; cases b' <;> first | exact .dead _ | exact absurd ha (by simp [alive])
        | true =>
          obtain ⟨ri, ni, hfm, hsh⟩ := fellow i sh' g' e' ha
          have hl := hlow i _ ri ni e' hfm
          rw [hw] at ho'; cases ho'
          rw [hb'] at hfm
          cases r with
          | dead => cases hfm
          | cells hg hN hz hn hcc hff =>
            rename_i n0 t0 fro0 fam0
            cases fam0 with
            | none => cases hfm
            | some p =>
              cases hfm
              refine .cells hg (fun N z hx => by rw [hsz]; exact hN N z hx) (fun hx => by subst hx; cases hg) (by rw [hsz]; exact hn) (fun k v hk hv => ?_) (fun k hk h1 h2 => hff k (by rw [← hsz]; exact hk) h1 h2)
              obtain ⟨v', hv', rv, h1'⟩ := hcc k v hk hv
              exact ⟨v', by rw [hsame _ (by omega)]; exact hv', rv.ext he, h1'⟩
      · exact ⟨o', by rw [at_ne w _ hd]; exact ho', r.ext he⟩
  · intro i j d sh1 g1 sh2 g2 e e' hne ai aj
    rcases old i d sh1 g1 e with ⟨rfl, hd, rfl, rfl⟩ | ⟨e1, h1, h2⟩ <;> rcases old j d sh2 g2 e' with ⟨rfl, hd', rfl, rfl⟩ | ⟨e2, h3, h4⟩
    · exact absurd rfl hne
    · subst hd
      rw [hh j h3] at aj
      obtain ⟨rj, nj, hfm, hsh⟩ := fellow j sh2 g2 e2 aj
      exact ⟨f, rel + o, n, rj, nj, by rw [h0]; rfl, by rw [hh j h3]; exact hfm, by omega⟩
    · subst hd'
      rw [hh i h1] at ai
      obtain ⟨ri, ni, hfm, hsh⟩ := fellow i sh1 g1 e1 ai
      exact ⟨f, ri, ni, rel + o, n, by rw [hh i h1]; exact hfm, by rw [h0]; rfl, by omega⟩
    · rw [hh i h1] at *; rw [hh j h3] at *
      exact h.inj i j d sh1 g1 sh2 g2 e1 e2 hne ai aj
  · intro i x f' rel' n' e hf
    obtain ⟨d, sh', g'⟩ := x
    rcases old i d sh' g' e with ⟨rfl, rfl, _⟩ | ⟨e', h1, h2⟩
    · rw [h0] at hf; cases hf
      exact ⟨Nat.lt_trans hf1 hbl, by rw [upd_ne β _ (by omega)]; exact hf2, ids, by rw [hh f (by omega)]; exact hrec, hmem, hsort⟩
    · rw [hh i h1] at hf
      obtain ⟨h1', h2', ids', h3, h4, h5⟩ := h.fam i _ f' rel' n' e' hf
      exact ⟨h1', by rw [upd_ne β _ (by omega)]; exact h2', ids', by rw [hh f' (Nat.lt_trans h1' h1)]; exact h3, h4, h5⟩
  · exact Nat.le_succ_of_le h.ng
  · intro g' hg' hl
    have := h.ng
    rw [upd_ne β _ (by omega)]
    exact h.glob g' hg' hl
  · intro d hd
    obtain ⟨⟨o', h1, h2⟩, h3⟩ := h.laid d hd
    refine ⟨⟨o', by rw [at_ne w _ (h3 b _ hb)]; exact h1, h2⟩, fun i x e => ?_⟩
    obtain ⟨d', sh', g'⟩ := x
    rcases old i d' sh' g' e with ⟨_, rfl, _⟩ | ⟨e', _⟩
    · exact fun ed => h3 b _ hb ed
    · exact h3 i _ e'
  · rcases old i d sh' g' e with ⟨rfl, rfl, _⟩ | ⟨e', _⟩
    · exact .inr ⟨b, sh, _, hb, hwr⟩
    · rw [n] at e'; cases e'

theorem behind_kept {t : Tr Value} {n : Nat} {e : TypeId} {fro : Nat × Nat} {o mid f rel len : Nat} {v : Value} (hr : behind s t n e fro o mid f rel len = some (v, s')) : Kept s s' := by
  unfold behind at hr
  split at hr
  · cases hr
    exact (killAbove_kept _ _ _).trans ((Kept.put _ _ _).trans (.alloc _ _))
  · cases hr
/-- The family's record behind an append. -/
theorem record_sim (h : Sim E β s w) {f : Nat} {ids : List (Nat × Nat)} (hids : s.heap.get f = some (.fam ids)) (hf2 : β f = none) (hsort : Sorted ids) (top new : Nat) (hle : top ≤ new) :
    Post E β s w β ((killAbove top ids s).2.put f (.fam (((killAbove top ids s).2.next, new) :: (killAbove top ids s).1))) w ∧
    (∀ j x rel' n', β j = some x → famOf (((killAbove top ids s).2.put f (.fam (((killAbove top ids s).2.next, new) :: (killAbove top ids s).1))).heap.get j) = some (f, rel', n') → rel' + n' ≤ top) ∧
    (∀ j x, β j = some x → alive (((killAbove top ids s).2.put f (.fam (((killAbove top ids s).2.next, new) :: (killAbove top ids s).1))).heap.get j) = true → ((killAbove top ids s).2.put f (.fam (((killAbove top ids s).2.next, new) :: (killAbove top ids s).1))).heap.get j = s.heap.get j) ∧
    Sorted (((killAbove top ids s).2.next, new) :: (killAbove top ids s).1) := by
  have p1 := killAbove_post (E := E) (β := β) (w := w) top ids s h
  have hleft := killAbove_left top ids s hsort
  have hs : Sorted (((killAbove top ids s).2.next, new) :: (killAbove top ids s).1) := ⟨fun x hx => Nat.le_trans (hleft.2 x hx) hle, hleft.1⟩
  have hin : ∀ i x rel' n', β i = some x → famOf ((killAbove top ids s).2.heap.get i) = some (f, rel', n') → (i, rel' + n') ∈ (killAbove top ids s).1 := by
    intro i x rel' n' hi hf
    rcases killAbove_get top ids s i hsort with ⟨h1, h2⟩ | ⟨h1, _⟩
    · rw [h1] at hf
      obtain ⟨_, _, ids0, h3, h4, _⟩ := h.fam i x f rel' n' hi hf
      rw [hids] at h3; cases h3
      exact h2 _ h4 (by rw [hf]; exact fun e => by cases e)
    · rw [h1] at hf; cases hf
  have hne : ∀ j x, β j = some x → f ≠ j := fun j x hj e => by subst e; rw [hf2] at hj; cases hj
  refine ⟨p1.trans (Post.turned p1.sim (killAbove_rec top ids s hids) hs (fun i x rel' n' hi hf => List.mem_cons_of_mem _ (hin i x rel' n' hi hf)) hf2) (killAbove_kept _ _ _) (.put _ _ _), fun j x rel' n' hj hf => ?_, fun j x hj ha => ?_, hs⟩
  · rw [show ((killAbove top ids s).2.put f _).heap.get j = (killAbove top ids s).2.heap.get j from Tr.get_set_ne _ _ (hne j x hj)] at hf
    exact hleft.2 _ (hin j x rel' n' hj hf)
  · have e : ((killAbove top ids s).2.put f (.fam (((killAbove top ids s).2.next, new) :: (killAbove top ids s).1))).heap.get j = (killAbove top ids s).2.heap.get j := Tr.get_set_ne _ _ (hne j x hj)
    rw [e] at ha ⊢
    rcases killAbove_get top ids s j hsort with ⟨h1, _⟩ | ⟨h1, _⟩
    · exact h1
    · rw [h1] at ha; cases ha

theorem behind_copy (h : Sim E β s w) {b c sh nb f rel : Nat} {g : Gr} {tb : Tr Value} {e : TypeId} {fro : Nat × Nat} (hb : β b = some (c, sh, g)) (hbc : s.heap.get b = some (.cells nb tb e fro (some (f, rel))))
    {t : Tr Value} {n o mid len m z : Nat} {v : Value} {arr : Array Value} (hr : behind s t n e fro o mid f rel len = some (v, s')) (hz : E.size e = some z) (hmid : mid ≤ n)
    (hc : ∀ i v, i < n → t.get i = some v → ∃ v', arr[i]? = some v' ∧ VR β v v' ∧ oneCell v = true) (hn : n ≤ arr.size) (hm : len ≤ m) (hN : m * z ≤ arr.size) :
    ∃ β', Post E β s w β' s' (push w (.cells arr e)) ∧ VR β' v (.slice (some ⟨w.heap.size, 0, none⟩) len m) := by
  obtain ⟨hf1, hf2, ids, hids, hmem, hsort⟩ := h.fam b _ f rel nb hb (by rw [hbc]; rfl)
  unfold behind at hr
  rw [hids] at hr
  cases hr
  obtain ⟨p, _, _, hs⟩ := record_sim h hids hf2 hsort (rel + o + mid) (rel + o + n) (by omega)
  have hnx : s.next ≤ (killAbove (rel + o + mid) ids s).2.next := by rw [killAbove_next]; exact Nat.le_refl _
  have hbl := (h.lt b c sh g hb).1
  have hext : Ext β (upd β ((killAbove (rel + o + mid) ids s).2.next) (w.heap.size, 0, some (arr.size, z))) := .upd (p.sim.unset (Nat.le_refl _))
  have p2 := Post.made (b := .cells n t e (fro.1 - o, fro.2 - o) (some (f, rel + o))) (o := .cells arr e) (g := some (arr.size, z)) p.sim
    (.cells rfl (fun N z' he => by cases he; exact ⟨rfl, hz⟩) (fun he => by cases he) (by omega) (fun i v hi hv => by
      obtain ⟨v', h1, h2, h3⟩ := hc i v hi hv
      exact ⟨v', by rw [Nat.zero_add]; exact h1, h2.ext hext, h3⟩) (fun k _ h1 h2 => by simp at h2))
    (fun f' rel' k he => by
      cases he
      exact ⟨Nat.lt_of_lt_of_le (Nat.lt_trans hf1 hbl) hnx, hf2, _, Tr.get_set_eq _ _ _, List.mem_cons_self, hs⟩)
  exact ⟨_, p.trans p2 ((killAbove_kept _ _ _).trans (.put _ _ _)) (.alloc _ _), .slice (sh := 0) (g := some (arr.size, z)) 0 len (upd_eq _ _ _) hm (fun he => by cases he) (fun N z' he => by cases he; omega)⟩

theorem behind_over (h : Sim E β s w) {b c sh nb f rel : Nat} {g : Gr} {tb : Tr Value} {e : TypeId} {fro fro' : Nat × Nat} (hb : β b = some (c, sh, g)) (hbc : s.heap.get b = some (.cells nb tb e fro (some (f, rel))))
    {t : Tr Value} {n o mid len m z : Nat} {v : Value} {arr arr' : Array Value} (hr : behind s t n e fro o mid f rel len = some (v, s')) (hz : E.size e = some z) (hmid : mid ≤ n) (hw : w.heap[c]? = some (.cells arr e fro'))
    (hsz : arr'.size = arr.size) (hsame : ∀ k, k < sh + o + mid → arr'[k]? = arr[k]?)
    (hc : ∀ i v, i < n → t.get i = some v → ∃ v', arr'[sh + o + i]? = some v' ∧ VR β v v' ∧ oneCell v = true) (hn : sh + o + n ≤ arr.size) (hm : len ≤ m) (hN : sh + o + m * z ≤ arr.size) :
    ∃ β', Post E β s w β' s' (at' w c (.cells arr' e fro')) ∧ VR β' v (.slice (some ⟨c, sh + o, none⟩) len m) := by
  obtain ⟨hf1, hf2, ids, hids, hmem, hsort⟩ := h.fam b _ f rel nb hb (by rw [hbc]; rfl)
  obtain ⟨arr0, fro0, ha0, hg0, hN0, hz0, hn0, hc0, hfr0⟩ := h.row hb hbc
  rw [hw] at ha0; cases ha0
  obtain ⟨⟨N, z0⟩, rfl⟩ : ∃ G, g = some G := by cases g with | none => cases hg0 | some G => exact ⟨G, rfl⟩
  obtain ⟨hsN, hz1⟩ := hN0 N z0 rfl
  rw [hz] at hz1; cases hz1
  unfold behind at hr
  rw [hids] at hr
  cases hr
  obtain ⟨p, hlow, hkeep, hs⟩ := record_sim h hids hf2 hsort (rel + o + mid) (rel + o + n) (by omega)
  have hbl := (h.lt b c sh _ hb).1
  have hext : Ext β (upd β ((killAbove (rel + o + mid) ids s).2.next) (c, sh + o, some (N, z))) := .upd (p.sim.unset (Nat.le_refl _))
  have p2 := Post.overlaid (n := n) (o := o) (mid := mid) (t := t) (fro2 := (fro.1 - o, fro.2 - o)) (arr' := arr') p.sim hb hf1 hf2 (fun i sh' g' hi ha => by
      have hk := hkeep i _ hi ha
      rw [hk] at ha ⊢
      by_cases hib : i = b
      · subst hib
        rw [hb] at hi; cases hi
        exact ⟨rel, nb, by rw [hbc]; rfl, rfl⟩
      · obtain ⟨f', ri, ni, rj, nj, h1, h2, h3⟩ := h.inj b i c sh _ sh' g' hb hi (Ne.symm hib) (by rw [hbc]; rfl) ha
        rw [hbc] at h1; cases h1
        exact ⟨rj, nj, h2, h3⟩) hw hlow hsz hsame (Tr.get_set_eq _ _ _) List.mem_cons_self hs
    (.cells rfl (fun N' z' he => by cases he; exact ⟨by rw [hsz]; exact hsN, hz⟩) (fun he => by cases he) (by rw [hsz]; exact hn) (fun i v hi hv => by
      obtain ⟨v', h1, h2, h3⟩ := hc i v hi hv
      exact ⟨v', h1, h2.ext hext, h3⟩) (fun k hk h1 h2 => by
        have := hfr0 (o + k) (by omega) (by omega) (by omega)
        show fro.1 - o ≤ k ∧ k < fro.2 - o
        omega))
    (fun hlt => ⟨f, mem_put _ f _ (by rw [(killAbove_kept _ _ _).mark]; exact Nat.lt_trans hf1 (by rw [show ((killAbove (rel + o + mid) ids s).2.put f _).mark = s.mark from (killAbove_kept _ _ _).mark] at hlt; exact hlt)), Nat.le_of_lt hf1⟩)
  exact ⟨_, p.trans p2 ((killAbove_kept _ _ _).trans (.put _ _ _)) (.alloc _ _), .slice (b := (killAbove (rel + o + mid) ids s).2.next) (sh := sh + o) (g := some (N, z)) 0 len (upd_eq _ _ _) hm (fun he => by cases he) (fun N' z' he => by cases he; omega)⟩
end Go.Ev
/- append, put together. -/
namespace Go.Ev
variable {E : Env} {β β' : Bond} {s s' : AS} {w w' : World} {P : Program}

theorem cells_at (h : Sim E β s w) {b c sh : Nat} {g : Gr} (hb : β b = some (c, sh, g)) {n : Nat} {t : Tr Value} {e : TypeId} {fro fro' : Nat × Nat} {fam : Option (Nat × Nat)} {arr : Array Value}
    (hc : s.heap.get b = some (.cells n t e fro fam)) (ha : w.heap[c]? = some (.cells arr e fro')) {o k : Nat} {l : List Value} (hl : cells s b o k = some l) :
    l.length = k ∧ (k ≠ 0 → o + k ≤ n) ∧ ∀ i v, l[i]? = some v → t.get (o + i) = some v ∧ ∃ v', arr[sh + (o + i)]? = some v' ∧ VR β v v' ∧ oneCell v = true := by
  cases k with
  | zero => cases hl; exact ⟨rfl, fun h => absurd rfl h, fun i v h => by simp at h⟩
  | succ k =>
    obtain ⟨n', t', e', fro2, fam', hc', hl⟩ := inCells_some (show inCells _ _ = some l from hl)
    rw [hc] at hc'; cases hc'
    obtain ⟨hle, hl⟩ := only_some hl
    obtain ⟨arr', fro3, ha', _, _, _, _, hcell, _⟩ := h.row hb hc
    rw [ha] at ha'; cases ha'
    obtain ⟨hlen, hget⟩ := cellsGo_some hl
    have hle : o + (k + 1) ≤ n := le_of_ble hle
    refine ⟨hlen, fun _ => hle, fun i v hi => ⟨hget i v hi, ?_⟩⟩
    have : i < l.length := (List.getElem?_eq_some_iff.1 hi).1
    exact hcell (o + i) v (by omega) (hget i v hi)
theorem get_pair {l m : List Value} {i : Nat} {v : Value} (h : (ofList (l ++ m) 0 .nil).get i = some v) : (l ++ m)[i]? = some v := by
  rw [get_ofList] at h
  by_cases hi : 0 ≤ i ∧ i < 0 + (l ++ m).length
  · rw [if_pos hi] at h; simpa using h
  · rw [if_neg hi] at h; cases h
theorem All2.at {l l' : List Value} (h : All2 (VR β) l l') (h1 : allOne l = true) {rest : Array Value} {i : Nat} {v : Value} (hv : l[i]? = some v) : ∃ v', (l'.toArray ++ rest)[i]? = some v' ∧ VR β v v' ∧ oneCell v = true := by
  obtain ⟨v', h2, r⟩ := h.get hv
  have hi : i < l'.length := (List.getElem?_eq_some_iff.1 h2).1
  exact ⟨v', by rw [Array.getElem?_append_left (by simpa using hi)]; simpa using h2, r, allOne_get h1 hv⟩
theorem allOne_append {l m : List Value} (h : allOne l = true) (h' : allOne m = true) : allOne (l ++ m) = true := by
  induction l with
  | nil => exact h'
  | cons v l ih =>
    simp only [allOne, Bool.and_eq_true] at h
    simp [allOne, h.1, ih h.2]
theorem parts_size (v : Value) : v.cells.size = (parts v).length := by rw [← parts_eq]; simp

theorem appendTo_kept {e : TypeId} {z b o len cap k : Nat} {new : List Value} {v : Value} (hr : appendTo s e z b o len cap k new = some (v, s')) : Kept s s' := by
  unfold appendTo at hr
  cases hk : Nat.ble (len + k) cap with
  | true =>
    rw [hk] at hr
    obtain ⟨s1, h1, h2⟩ := obind_some (show obind _ _ = some (v, s') from hr)
    cases h2
    exact store_kept h1
  | false =>
    rw [hk] at hr
    obtain ⟨old, h1, h2⟩ := obind_some (show obind _ _ = some (v, s') from hr)
    obtain ⟨n, t, e', fro, fam, h3, h4⟩ := inCells_some h2
    cases fam with
    | none => cases h4; exact newRow_kept e _ _ (len + k) (len + k)
    | some p => exact behind_kept (only_some h4).2

section
variable {app : Value → Sem Value} {e : TypeId} {i : TypeInfo} {zv : Value} {len cap k : Nat} {new new' : List Value} {v : Value}
theorem appendTo_sim (h : Sim E β s w) (hi : E.ty e = some i) (hzl : (parts zv).length = i.size) (hnl : new.length = k * i.size) (hn1 : allOne new = true) (hv : All2 (VR β) new new')
    (HF : ∀ c o cap' w', len + k ≤ cap' → (storeCells ⟨c, o + len * i.size, none⟩ new').run P w = .ok () w' → (app (.slice (some ⟨c, o, none⟩) len cap')).run P w = .ok (.slice (some ⟨c, o, none⟩) (len + k) cap') w')
    (HG : ∀ base cap' old', ¬ len + k ≤ cap' → (Builtin.firstCells i.size len (.slice base len cap')).run P (drewn w) = .ok (List.toArray old') (drewn w) →
      ∃ N rest, len + k ≤ N ∧ rest.size = (N - (len + k)) * zv.cells.size ∧ (app (.slice base len cap')).run P w = .ok (.slice (some ⟨w.heap.size, 0, none⟩) (len + k) N) (push (drewn w) (.cells ((old' ++ new').toArray ++ rest) e)))
    {b o : Nat} {x' : Value} (hx : VR β (.slice (some ⟨b, o, none⟩) len cap) x') (hr : appendTo s e i.size b o len cap k new = some (v, s')) :
    ∃ v' w' β', (app x').run P w = .ok v' w' ∧ Post E β s w β' s' w' ∧ VR β' v v' := by
  have hsz : E.size e = some i.size := by unfold Env.size; rw [hi]; rfl
  have hzc : zv.cells.size = i.size := by rw [parts_size, hzl]
  -- a row of its own
  have hroom : ∀ {N : Nat} {old' : List Value} {rest : Array Value}, len + k ≤ N → old'.length = len * i.size → rest.size = (N - (len + k)) * zv.cells.size →
      ((old' ++ new').toArray ++ rest).size = N * i.size := by
    intro N old' rest h1 h2 h3
    have : new'.length = k * i.size := by rw [← hv.len, hnl]
    rw [Array.size_append, List.size_toArray, List.length_append, h2, h3, this, hzc, ← Nat.add_mul, ← Nat.add_mul]
    congr 1; omega
  unfold appendTo at hr
  cases hk : Nat.ble (len + k) cap with
  | true =>
    rw [hk] at hr
    have hk := le_of_ble hk
    obtain ⟨s1, h1, h2⟩ := obind_some (show obind _ _ = some (v, s') from hr)
    cases h2
    cases hx with
    | slice _ _ hb hm hg hN =>
      obtain ⟨w1, r1, p⟩ := store_sim (P := P) h hb hv h1
      exact ⟨_, w1, β, HF _ _ _ w1 (Nat.le_trans hk hm) (by rw [Nat.add_assoc]; exact r1), p, .slice _ _ hb hm hg hN⟩
    | tail _ hb =>
      have hk0 : k = 0 := by omega
      subst hk0
      have : new = [] := by
        have : new.length = 0 := by rw [hnl]; simp
        exact List.length_eq_zero_iff.1 this
      subst this
      cases hv
      cases h1
      exact ⟨_, w, β, HF _ _ _ w (by omega) (by simp [storeCells]), .refl h, .tail _ hb⟩
  | false =>
    rw [hk] at hr
    obtain ⟨old, h1, h2⟩ := obind_some (show obind _ _ = some (v, s') from hr)
    obtain ⟨n, t, e', fro, fam, hbc, h4⟩ := inCells_some h2
    have hd : Sim E β s (drewn w) := h.heap rfl
    -- what is told of the block, and of the program's slice
    obtain ⟨c, sh, g, hb⟩ : ∃ c sh g, β b = some (c, sh, g) := by cases hx <;> exact ⟨_, _, _, ‹_›⟩
    obtain ⟨arr, fro', ha, hg0, hN0, hz0, hn0, hc0, hfr0⟩ := h.row hb hbc
    obtain ⟨hol, hon, hoa⟩ := cells_at h hb hbc ha h1
    have hmk : len * i.size ≤ (len + k) * i.size := Nat.mul_le_mul_right _ (by omega)
    -- the copy's content
    have content : ∀ {old' : List Value} (rest : Array Value), All2 (VR β) old old' → allOne old = true → ∀ (t' : Tr Value), (∀ j v, j < (len + k) * i.size → t'.get j = some v → (old ++ new)[j]? = some v) →
        ∀ j v, j < (len + k) * i.size → t'.get j = some v → ∃ v', ((old' ++ new').toArray ++ rest)[j]? = some v' ∧ VR β v v' ∧ oneCell v = true := by
      intro old' rest ho ho1 t' ht j v hj hv'
      exact (ho.append hv).at (allOne_append ho1 hn1) (ht j v hj hv')
    have tget : ∀ j v, j < (len + k) * i.size → (bif Nat.beq o 0 then ofList new (len * i.size) t else ofList (old ++ new) 0 .nil).get j = some v → (old ++ new)[j]? = some v := by
      intro j v hj hv'
      cases ho : Nat.beq o 0 with
      | false => rw [ho] at hv'; exact get_pair hv'
      | true =>
        rw [ho] at hv'
        have ho := eq_of_beq ho
        subst ho
        rw [show (bif true then ofList new (len * i.size) t else ofList (old ++ new) 0 .nil) = ofList new (len * i.size) t from rfl, get_ofList] at hv'
        by_cases hlt : j < len * i.size
        · rw [if_neg (by omega)] at hv'
          rw [List.getElem?_append_left (by omega)]
          have hjl : j < old.length := by omega
          have := (hoa j old[j] (by simp [hjl])).1
          rw [Nat.zero_add, hv'] at this
          rw [this]; simp [hjl]
        · rw [if_pos ⟨by omega, by rw [hnl, ← Nat.add_mul]; exact hj⟩] at hv'
          rw [List.getElem?_append_right (by omega), hol]
          exact hv'
    -- the program's slice has no room: it copies
    have copy : ∀ base cap', x' = .slice base len cap' → ¬ len + k ≤ cap' → (∃ old', (Builtin.firstCells i.size len (.slice base len cap')).run P (drewn w) = .ok (List.toArray old') (drewn w) ∧ All2 (VR β) old old' ∧ allOne old = true) →
        ∃ v' w' β', (app x').run P w = .ok v' w' ∧ Post E β s w β' s' w' ∧ VR β' v v' := by
      intro base cap' hx' hcap hold
      obtain ⟨old', ho, ro, ho1⟩ := hold
      obtain ⟨N, rest, hN, hrest, hrun⟩ := HG base cap' old' hcap ho
      have hsize := hroom (old' := old') (rest := rest) hN (by rw [← ro.len, hol]) hrest
      have hle : (len + k) * i.size ≤ ((old' ++ new').toArray ++ rest).size := by rw [hsize]; exact Nat.mul_le_mul_right _ hN
      cases fam with
      | none =>
        cases h4
        obtain ⟨β', p, r⟩ := newRow_sim (t := ofList (old ++ new) 0 .nil) (n := (len + k) * i.size) (len := len + k) (cap := len + k) (m := N) (arr := (old' ++ new').toArray ++ rest) hd hsz (0, 0) (fun k _ _ h => (Nat.not_lt_zero _ h).elim) (content rest ro ho1 _ fun j v _ hv' => get_pair hv') hle hN (by rw [hsize]; exact Nat.le_refl _)
        exact ⟨_, _, β', by rw [hx']; exact hrun, p.heapL rfl ⟨rfl, rfl, rfl⟩, r⟩
      | some q =>
        obtain ⟨f, rel⟩ := q
        obtain ⟨hck, h5⟩ := only_some h4
        clear h4
        simp only [Bool.and_eq_true] at hck
        have he := eq_of_beq hck.1
        subst he
        obtain ⟨β', p, r⟩ := behind_copy (arr := (old' ++ new').toArray ++ rest) (m := N) hd hb hbc h5 hsz hmk (content rest ro ho1 _ tget) hle hN (by rw [hsize]; exact Nat.le_refl _)
        exact ⟨_, _, β', by rw [hx']; exact hrun, p.heapL rfl ⟨rfl, rfl, rfl⟩, r⟩
    have hkc : ¬ len + k ≤ cap := fun e => by rw [Nat.ble_eq_true_of_le e] at hk; cases hk
    cases hx with
    | tail _ hb' =>
      refine copy _ _ rfl (by omega) ⟨[], by simp [Builtin.firstCells, loadCells, loadCellsFrom], ?_⟩
      have : old = [] := List.length_eq_zero_iff.1 (by rw [hol]; simp)
      subst this
      exact ⟨.nil, rfl⟩
    | slice _ _ hb' hm hgm hNm =>
      rename_i c2 sh2 cap' g2
      rw [hb] at hb'; cases hb'
      obtain ⟨old', ho, ro, _, ho1⟩ := cells_sim (P := P) hd hb h1
      by_cases hcap : len + k ≤ cap'
      · -- in that row's room
        cases fam with
        | none =>
          have : g = none := by cases g with | none => rfl | some G => cases hg0
          rw [hgm this] at hcap
          exact absurd hcap hkc
        | some q =>
          obtain ⟨f, rel⟩ := q
          obtain ⟨hck, h5⟩ := only_some h4
          clear h4
          simp only [Bool.and_eq_true] at hck
          have he := eq_of_beq hck.1
          subst he
          have hfe := le_of_ble hck.2
          obtain ⟨⟨N, z0⟩, rfl⟩ : ∃ G, g = some G := by cases g with | none => cases hg0 | some G => exact ⟨G, rfl⟩
          obtain ⟨hsN, hz1⟩ := hN0 N z0 rfl
          rw [hsz] at hz1; cases hz1
          have hNm := hNm N _ rfl
          have hcz : (len + k) * i.size ≤ cap' * i.size := Nat.mul_le_mul_right _ hcap
          have hnl' : new'.length = k * i.size := by rw [← hv.len, hnl]
          have hadd : len * i.size + k * i.size = (len + k) * i.size := by rw [← Nat.add_mul]
          have hst := run_stores (P := P) (sh + o + len * i.size) new' 0 arr w ha (by omega) (by rw [hv.one]; exact hn1) (fun j h1 h2 hfz => by
            have := hfr0 (j - sh) (by omega) (by omega) (by omega)
            omega)
          obtain ⟨β', p, r⟩ := behind_over (arr' := wrl arr (sh + o + len * i.size) new') (m := cap') h hb hbc h5 hsz hmk ha (wrl_size _ _ _) (fun j hj => by
              rw [wrl_get _ _ _ _ (by omega), if_neg (by omega)]) (fun j v hj hv' => by
              have hp := tget j v hj hv'
              rw [wrl_get _ _ _ _ (by omega)]
              by_cases hlt : j < len * i.size
              · rw [if_neg (by omega)]
                rw [List.getElem?_append_left (by omega)] at hp
                have := (hoa j v hp).2
                rw [← Nat.add_assoc] at this
                exact this
              · rw [if_pos (by omega), show sh + o + j - (sh + o + len * i.size) = j - len * i.size from by omega]
                rw [List.getElem?_append_right (by omega), hol] at hp
                obtain ⟨v', h5, h6⟩ := hv.get hp
                exact ⟨v', h5, h6, allOne_get hn1 hp⟩) (by omega) hcap (by omega)
          exact ⟨_, _, β', HF _ _ _ _ hcap hst, p, r⟩
      · exact copy _ _ rfl hcap ⟨old', by simpa [Builtin.firstCells] using ho (drewn w) rfl, ro, ho1⟩
end
end Go.Ev
/- Operations upon plain values. -/
namespace Go.Ev
variable {E : Env} {β β' : Bond} {s s' : AS} {w w' : World} {P : Program}

theorem most_eq (k : IntKind) : (most k : Int) = if k.signed then 2 ^ (k.bits - 1) else 2 ^ k.bits := by cases k <;> rfl
theorem wr_eq (k : IntKind) (n : Int) : wr k n = k.wrap n := by
  cases n with
  | ofNat m =>
    show (bif Nat.ble (Nat.succ m) (most k) then Int.ofNat m else bif isU k then .ofNat (Nat.mod m (most k)) else k.wrap (.ofNat m)) = _
    cases h : Nat.ble (Nat.succ m) (most k) with
    | true =>
      have h := le_of_ble h
      cases k <;> simp [most] at h <;> simp [IntKind.wrap, IntKind.bits, IntKind.signed] <;> omega
    | false =>
      cases k <;> simp [isU, kno, most, IntKind.wrap, IntKind.bits, IntKind.signed] <;> first | rfl | (show Int.ofNat (m % _) = _; simp)
  | negSucc m =>
    show (bif Nat.ble (Nat.succ m) (most k) && !isU k then Int.negSucc m else k.wrap (.negSucc m)) = _
    cases h : Nat.ble (Nat.succ m) (most k) && !isU k with
    | false => rfl
    | true =>
      simp only [Bool.and_eq_true] at h
      have h1 : m + 1 ≤ most k := le_of_ble h.1
      have h := h.2
      show Int.negSucc m = _
      have hx : Int.negSucc m = -(m : Int) - 1 := by rw [Int.negSucc_eq]; omega
      generalize Int.negSucc m = x at hx
      cases k <;> first | (simp [isU, kno] at h; done) | skip
      all_goals
        unfold most at h1
        dsimp only at h1
        simp only [IntKind.wrap, IntKind.bits, IntKind.signed, Bool.true_and, ge_iff_le, decide_eq_true_eq]
        simp only [Int.reducePow, Nat.reduceSub]
        omega
theorem wr_small {k : IntKind} {m : Nat} (h : m < most k) : k.wrap (m : Int) = m := by
  rw [← wr_eq]
  show (bif Nat.ble (Nat.succ m) (most k) then Int.ofNat m else _) = _
  rw [Nat.ble_eq_true_of_le (show Nat.succ m ≤ most k from h)]; rfl
theorem iadd_eq (x y : Int) : iadd x y = x + y := by cases x <;> cases y <;> rfl
theorem imul_eq (x y : Int) : imul x y = x * y := by cases x <;> cases y <;> rfl
theorem isub_eq (x y : Int) : isub x y = x - y := by
  cases x <;> cases y <;> first | rfl | skip
  rename_i m n
  show (bif Nat.ble n m then Int.ofNat (Nat.sub m n) else Int.sub (.ofNat m) (.ofNat n)) = _
  cases h : Nat.ble n m with
  | true =>
    have h := le_of_ble h
    show Int.ofNat (m - n) = (m : Int) - (n : Int)
    simp; omega
  | false => rfl
theorem nat_beq (m n : Nat) : Nat.beq m n = decide (m = n) := by
  by_cases h : m = n
  · subst h; simp
  · rw [show Nat.beq m n = false from Bool.eq_false_iff.2 fun e => h (eq_of_beq e)]; simp [h]
theorem ieq_eq (x y : Int) : ieq x y = (x == y) := by
  have nn : ∀ m n : Nat, (Nat.beq m n : Bool) = ((m : Int) == (n : Int)) := fun m n => by
    rw [nat_beq]
    by_cases h : m = n
    · subst h; simp
    · simp [h]; omega
  cases x with
  | ofNat m => cases y with
    | ofNat n => exact nn m n
    | negSucc n => rfl
  | negSucc m => cases y with
    | ofNat n => rfl
    | negSucc n =>
      show Nat.beq m n = _
      rw [nat_beq]
      by_cases h : m = n <;> simp [h]
theorem ilt_eq (x y : Int) : ilt x y = decide (x < y) := by
  cases x <;> cases y <;> simp [ilt] <;> rename_i m n
  · by_cases h : m < n
    · rw [Nat.ble_eq_true_of_le (show Nat.succ m ≤ n from h)]; simp [h]
    · rw [show Nat.ble (m + 1) n = false from Bool.eq_false_iff.2 fun e => h (le_of_ble e)]; simp [h]
  · omega
  · omega
  · by_cases h : n < m
    · rw [Nat.ble_eq_true_of_le (show Nat.succ n ≤ m from h)]; simp; omega
    · rw [show Nat.ble (n + 1) m = false from Bool.eq_false_iff.2 fun e => h (le_of_ble e)]; simp; omega
theorem run_ofSem {α : Type} {x : Sem α} {v : α} (h : ofSem x = some v) : x.run P w = .ok v w := by
  cases x <;> first | (cases h; rfl) | cases h
end Go.Ev
