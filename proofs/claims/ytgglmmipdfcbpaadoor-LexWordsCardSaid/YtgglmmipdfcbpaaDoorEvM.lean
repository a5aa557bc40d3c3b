/- Loads and stores. -/
import Derived.Test.YtgglmmipdfcbpaaDoorEvS
import Derived.Laws.Sem
namespace Go.Ev
variable {E : Env} {β β' : Bond} {s s' : AS} {w w' : World} {P : Program}

structure EnvOK (E : Env) (P : Program) : Prop where
  fn : ∀ f x, E.fn f = some x → P.funcs[f]? = some x
  ty : ∀ t i, E.ty t = some i → P.info? t = some i
  name : ∀ f x, E.fn f = some x → x.name ≠ "runtime.NumGoroutine"
  fine : ∀ f x c, E.fn f = some x → x.body = some c → Ev.fine c = true
  calm : ∀ t, E.calm t = true → P.stoodInHeld t = false ∧ P.eqGuardType P.depth t = false

section types
variable (hE : EnvOK E P)
include hE
theorem run_info {t : TypeId} {i : TypeInfo} (h : E.ty t = some i) (w : World) : (typeInfo t).run P w = .ok i w := by
  simp [typeInfo, program, hE.ty t i h, Sem.run]
theorem und_ok {t : TypeId} {d : TypeDesc} (h : E.und t = some d) : P.underlying t = some d := by
  unfold Env.und at h
  split at h
  · rename_i i hi
    have := hE.ty t i hi
    unfold Program.underlying
    split at h
    · rename_i nm u hd
      rw [this]
      obtain ⟨desc, _⟩ := i
      subst hd
      cases hu : E.ty u with
      | none => rw [hu] at h; cases h
      | some j => rw [hu] at h; simp only [hE.ty u j hu]; exact h
    · rename_i d' hnn
      rw [this]
      obtain ⟨desc, _⟩ := i
      simp only at hnn h
      cases h
      cases d <;> first | rfl | exact (hnn _ _ rfl).elim
  · cases h
theorem run_und {t : TypeId} {d : TypeDesc} (h : E.und t = some d) (w : World) : (underlying t).run P w = .ok d w := by
  simp [underlying, program, und_ok hE h, Sem.run]
theorem run_size {t : TypeId} {n : Nat} (h : E.size t = some n) (w : World) : (sizeOf t).run P w = .ok n w := by
  obtain ⟨i, hi, e⟩ := obind_some h
  cases e
  simp [Go.sizeOf, run_info hE hi]
theorem run_zero {t : TypeId} {v : Value} (h : E.zero t = some v) (w : World) : (zeroValue t).run P w = .ok v w := by
  obtain ⟨i, hi, e⟩ := obind_some h
  simp [zeroValue, run_info hE hi, e]
theorem run_isAgg {t : TypeId} {d : TypeDesc} (h : E.und t = some d) (w : World) : (Go.isAgg t).run P w = .ok (Ev.isAgg d) w := by
  simp only [Go.isAgg, Sem.run_bind, run_und hE h, Result.andThen_ok]
  cases d <;> rfl
end types
theorem shape_ok {t : TypeId} {ag : Bool} {n : Nat} (h : E.shape t = some (ag, n)) : (∃ d, E.und t = some d ∧ Ev.isAgg d = ag) ∧ E.size t = some n := by
  obtain ⟨d, hd, h⟩ := obind_some h
  obtain ⟨m, hm, h⟩ := obind_some h
  cases h
  exact ⟨⟨d, hd, rfl⟩, hm⟩

theorem add_addr (c o i : Nat) : Addr.add ⟨c, o, none⟩ i = ⟨c, o + i, none⟩ := by
  unfold Addr.add
  by_cases h : i = 0
  · subst h; rfl
  · rw [if_neg h]
theorem cell_at {w : World} {c : Nat} {arr : Array Value} {e : TypeId} {fro : Nat × Nat} (h : w.heap[c]? = some (.cells arr e fro)) (o : Nat) : w.cell? ⟨c, o, none⟩ = arr[o]? := by
  simp [World.cell?, h]
theorem run_loadFrom {w : World} {c : Nat} {arr : Array Value} {e : TypeId} {fro : Nat × Nat} (h : w.heap[c]? = some (.cells arr e fro)) (o : Nat) :
    ∀ (l : List Value) (i : Nat) (acc : Array Value), (∀ j v, l[j]? = some v → arr[o + i + j]? = some v) → (loadCellsFrom ⟨c, o, none⟩ i l.length acc).run P w = .ok (acc ++ l.toArray) w := by
  intro l
  induction l with
  | nil => intro i acc _; simp [loadCellsFrom]
  | cons v l ih =>
    intro i acc hl
    have h0 := hl 0 v rfl
    simp only [List.length_cons, loadCellsFrom, Sem.run_bind, run_load, add_addr, cell_at h, show arr[o + i]? = some v from by simpa using h0, Result.andThen_ok]
    rw [ih (i + 1) (acc.push v) fun j u hj => by have := hl (j + 1) u (by simpa using hj); rw [show o + (i + 1) + j = o + i + (j + 1) from by omega]; exact this]
    simp

theorem inCells_some {b : Option Blk} {γ : Type} {f : Nat → Tr Value → TypeId → Nat × Nat → Option (Nat × Nat) → Option γ} {r : γ} (h : inCells b f = some r) :
    ∃ n t e fro fam, b = some (.cells n t e fro fam) ∧ f n t e fro fam = some r := by
  unfold inCells at h
  split at h
  · exact ⟨_, _, _, _, _, rfl, h⟩
  · cases h
/-- A row of cells, on both sides. -/
theorem Sim.row (h : Sim E β s w) {b c sh : Nat} {g : Gr} (hb : β b = some (c, sh, g)) {n : Nat} {t : Tr Value} {e : TypeId} {fro : Nat × Nat} {fam : Option (Nat × Nat)}
    (hc : s.heap.get b = some (.cells n t e fro fam)) : ∃ arr fro', w.heap[c]? = some (.cells arr e fro') ∧ fam.isSome = g.isSome ∧ (∀ N z, g = some (N, z) → arr.size = N ∧ E.size e = some z) ∧ (g = none → sh = 0 ∧ arr.size = n) ∧ sh + n ≤ arr.size ∧
      (∀ i v, i < n → t.get i = some v → ∃ v', arr[sh + i]? = some v' ∧ VR β v v' ∧ oneCell v = true) ∧ (∀ k, sh + k < arr.size → fro'.1 ≤ sh + k → sh + k < fro'.2 → fro.1 ≤ k ∧ k < fro.2) := by
  obtain ⟨o, ho, r⟩ := h.blk b c sh g _ hb hc
  cases r with
  | cells hg hN hz hn hc hf => exact ⟨_, _, ho, hg, hN, hz, hn, hc, hf⟩

theorem cellsGo_some {t : Tr Value} : ∀ {k off : Nat} {l : List Value}, cellsGo t k off = some l → l.length = k ∧ ∀ j v, l[j]? = some v → t.get (off + j) = some v := by
  intro k
  induction k with
  | zero => intro off l h; cases h; exact ⟨rfl, fun j v h => by simp at h⟩
  | succ k ih =>
    intro off l h
    obtain ⟨v, hv, h⟩ := obind_some h
    obtain ⟨l', hl, h⟩ := obind_some h
    cases h
    obtain ⟨h1, h2⟩ := ih hl
    refine ⟨by simp [h1], fun j u hj => ?_⟩
    cases j with
    | zero => simp at hj; subst hj; exact hv
    | succ j => rw [show off + (j + 1) = off.succ + j from by omega]; exact h2 j u (by simpa using hj)

theorem cells_sim (h : Sim E β s w) {b c sh : Nat} {g : Gr} (hb : β b = some (c, sh, g)) {o k : Nat} {l : List Value} (hl : cells s b o k = some l) :
    ∃ l', (∀ W : World, W.heap = w.heap → (loadCells ⟨c, sh + o, none⟩ k).run P W = .ok l'.toArray W) ∧ All2 (VR β) l l' ∧ l.length = k ∧ allOne l = true := by
  cases k with
  | zero => cases hl; exact ⟨[], fun W _ => by simp [loadCells, loadCellsFrom], .nil, rfl, rfl⟩
  | succ k =>
    obtain ⟨n, t, e, fro, fam, hc, hl⟩ := inCells_some (show inCells _ _ = some l from hl)
    obtain ⟨hle, hl⟩ := only_some hl
    obtain ⟨arr, fro', ha, _, _, _, _, hcell, _⟩ := h.row hb hc
    obtain ⟨hlen, hget⟩ := cellsGo_some hl
    have hle := le_of_ble hle
    have hle : o + (k + 1) ≤ n := hle
    -- the program's cells, one by one
    have key : ∀ (m : List Value) (i : Nat), (∀ j v, m[j]? = some v → l[i + j]? = some v) → i + m.length ≤ k + 1 → ∃ m', All2 (VR β) m m' ∧ (∀ j v, m'[j]? = some v → arr[sh + o + i + j]? = some v) ∧ allOne m = true := by
      intro m
      induction m with
      | nil => intro i _ _; exact ⟨[], .nil, fun j v h => by simp at h, rfl⟩
      | cons v m ih =>
        intro i hm hi
        obtain ⟨m', r, hm', ho⟩ := ih (i + 1) (fun j u hj => by rw [show i + 1 + j = i + (j + 1) from by omega]; exact hm (j + 1) u (by simpa using hj)) (by simp at hi ⊢; omega)
        have h0 := hget i v (by simpa using hm 0 v rfl)
        obtain ⟨v', hv', rv, hone⟩ := hcell (o + i) v (by simp at hi; omega) h0
        refine ⟨v' :: m', .cons rv r, fun j u hj => ?_, by simp [allOne, hone, ho]⟩
        cases j with
        | zero => simp at hj; subst hj; rw [show sh + o + i + 0 = sh + (o + i) from by omega]; exact hv'
        | succ j => rw [show sh + o + i + (j + 1) = sh + o + (i + 1) + j from by omega]; exact hm' j u (by simpa using hj)
    obtain ⟨l', r, hl', ho⟩ := key l 0 (fun j v hj => by simpa using hj) (by omega)
    refine ⟨l', fun W hW => ?_, r, hlen, ho⟩
    have := run_loadFrom (P := P) (w := W) (by rw [hW]; exact ha) (sh + o) l' 0 #[] (fun j v hj => by have := hl' j v hj; simpa using this)
    rw [← r.len, hlen] at this
    simpa [loadCells] using this
theorem cell_sim (h : Sim E β s w) {b c sh : Nat} {g : Gr} (hb : β b = some (c, sh, g)) {o : Nat} {v : Value} (hl : cell s b o = some v) :
    ∃ v', w.cell? ⟨c, sh + o, none⟩ = some v' ∧ VR β v v' ∧ oneCell v = true := by
  obtain ⟨n, t, e, fro, fam, hc, hl⟩ := inCells_some (show inCells _ _ = some v from hl)
  obtain ⟨hle, hl⟩ := only_some hl
  obtain ⟨arr, fro', ha, _, _, _, _, hcell, _⟩ := h.row hb hc
  obtain ⟨v', hv', r, h1⟩ := hcell o v (le_of_ble hle) hl
  exact ⟨v', by rw [cell_at ha]; exact hv', r, h1⟩
theorem loadVar_sim (hE : EnvOK E P) (h : Sim E β s w) {a : Addr} {v' : Value} {t : TypeId} {v : Value} (ha : VR β (.pointer (some a)) v') (hl : loadVar E s t a = some v) :
    ∃ a' u, v' = .pointer (some a') ∧ (Go.loadVar t a').run P w = .ok u w ∧ VR β v u := by
  cases ha with
  | ptr o hb =>
    obtain ⟨_, hl⟩ := only_some hl
    obtain ⟨ag, n, hs, hl⟩ := pbind_some hl
    obtain ⟨⟨d, hd, hag⟩, hn⟩ := shape_ok hs
    cases ag with
    | true =>
      obtain ⟨l, hl3, e⟩ := obind_some (show obind (cells s _ o n) (fun l => some (.agg l.toArray)) = some v from hl)
      cases e
      obtain ⟨l', hr, r, _⟩ := cells_sim (P := P) h hb hl3
      exact ⟨_, .agg l'.toArray, rfl, by simp [Go.loadVar, run_isAgg hE hd, hag, run_size hE hn, hr w rfl], .aggL (by simpa using r)⟩
    | false =>
      obtain ⟨u, hu, r, _⟩ := cell_sim h hb (show cell s _ o = some v from hl)
      exact ⟨_, u, rfl, by simp [Go.loadVar, run_isAgg hE hd, hag, hu], r⟩

/-! stores -/
def wrl (arr : Array Value) (o : Nat) : List Value → Array Value
  | [] => arr
  | v :: l => wrl (arr.setIfInBounds o v) (o + 1) l
theorem wrl_size (l : List Value) : ∀ (arr : Array Value) (o : Nat), (wrl arr o l).size = arr.size := by
  induction l with
  | nil => intro _ _; rfl
  | cons v l ih => intro arr o; simp [wrl, ih]
theorem wrl_get (l : List Value) : ∀ (arr : Array Value) (o j : Nat), o + l.length ≤ arr.size → (wrl arr o l)[j]? = if o ≤ j ∧ j < o + l.length then l[j - o]? else arr[j]? := by
  induction l with
  | nil => intro arr o j _; rw [if_neg (by simp)]; rfl
  | cons v l ih =>
    intro arr o j h
    simp only [List.length_cons] at h
    show (wrl (arr.setIfInBounds o v) (o + 1) l)[j]? = _
    rw [ih _ _ _ (by simp; omega)]
    by_cases e : o = j
    · subst e
      rw [if_neg (by omega), if_pos (by simp), Nat.sub_self]
      simp [show o < arr.size from by omega]
    · by_cases h2 : o + 1 ≤ j ∧ j < o + 1 + l.length
      · rw [if_pos h2, if_pos (by simp; omega), show j - o = (j - (o + 1)) + 1 from by omega]; rfl
      · rw [if_neg h2, if_neg (by simp; omega), Array.getElem?_setIfInBounds_ne e]
theorem at_at (w : World) (c : Nat) (o o' : Obj) : at' (at' w c o) c o' = at' w c o' := by simp [at']
theorem at_self {w : World} {c : Nat} {o : Obj} (h : w.heap[c]? = some o) : at' w c o = w := by
  have e : w.heap.setIfInBounds c o = w.heap := by
    apply Array.ext_getElem?
    intro i
    by_cases hi : c = i
    · subst hi
      rw [Array.getElem?_setIfInBounds_self_of_lt (Array.getElem?_eq_some_iff.1 h).1, h]
    · rw [Array.getElem?_setIfInBounds_ne hi]
  unfold at'
  rw [e]
theorem setCell_at {w : World} {c : Nat} {arr : Array Value} {e : TypeId} {fro : Nat × Nat} (h : w.heap[c]? = some (.cells arr e fro)) (o : Nat) (v : Value) :
    w.setCell ⟨c, o, none⟩ v = at' w c (.cells (arr.setIfInBounds o v) e fro) := by
  have hc : c < w.heap.size := (Array.getElem?_eq_some_iff.1 h).1
  unfold World.setCell at'
  congr 1
  apply Array.ext_getElem?
  intro i
  by_cases hi : c = i
  · subst hi
    rw [Array.getElem?_setIfInBounds_self_of_lt hc, Array.getElem?_modify, if_pos rfl, h]; rfl
  · rw [Array.getElem?_setIfInBounds_ne hi, Array.getElem?_modify, if_neg hi]
theorem oneCell_not {v : Value} (h : oneCell v = true) : (∀ a, v ≠ .agg a) ∧ (∀ a, v ≠ .tuple a) := by
  exact ⟨fun a e => by subst e; exact Bool.noConfusion h, fun a e => by subst e; exact Bool.noConfusion h⟩
theorem run_store1 {w : World} {c : Nat} {arr : Array Value} {e : TypeId} {fro : Nat × Nat} (h : w.heap[c]? = some (.cells arr e fro)) {o : Nat} {v : Value} (ho : o < arr.size) (hv : oneCell v = true)
    (hf : ¬ (fro.1 ≤ o ∧ o < fro.2)) : (Go.store ⟨c, o, none⟩ v).run P w = .ok () (at' w c (.cells (arr.setIfInBounds o v) e fro)) := by
  have h1 : w.cell? ⟨c, o, none⟩ = some arr[o] := by rw [cell_at h]; simp [ho]
  have h2 : w.frozen? ⟨c, o, none⟩ = false := by
    simp only [World.frozen?, h, Bool.and_eq_false_iff, decide_eq_false_iff_not]
    omega
  rw [← setCell_at h]
  cases v <;> first | simp [Go.store, Sem.run, h1, h2]; done | cases hv
theorem run_stores {c : Nat} {e : TypeId} {fro : Nat × Nat} (o : Nat) : ∀ (vs : List Value) (i : Nat) (arr : Array Value) (w : World), w.heap[c]? = some (.cells arr e fro) → o + i + vs.length ≤ arr.size → allOne vs = true →
    (∀ k, o + i ≤ k → k < o + i + vs.length → ¬ (fro.1 ≤ k ∧ k < fro.2)) → (storeCells ⟨c, o, none⟩ vs i).run P w = .ok () (at' w c (.cells (wrl arr (o + i) vs) e fro)) := by
  intro vs
  induction vs with
  | nil =>
    intro i arr w h _ _ _
    have hc : c < w.heap.size := (Array.getElem?_eq_some_iff.1 h).1
    simp only [storeCells, Sem.run_pure, wrl]
    rw [at_self h]
  | cons v vs ih =>
    intro i arr w h hl h1 hf
    have hc : c < w.heap.size := (Array.getElem?_eq_some_iff.1 h).1
    simp only [allOne, Bool.and_eq_true] at h1
    simp only [List.length_cons] at hl hf
    simp only [storeCells, add_addr, Sem.run_bind, run_store1 (P := P) h (show o + i < arr.size from by omega) h1.1 (hf _ (by omega) (by omega)), Result.andThen_ok]
    rw [ih (i + 1) _ _ (at_eq _ hc) (by simp; omega) h1.2 (fun k h1 h2 => hf k (by omega) (by omega)), at_at]
    rfl

theorem allOne_get {l : List Value} (h : allOne l = true) {i : Nat} {v : Value} (hv : l[i]? = some v) : oneCell v = true := by
  induction l generalizing i with
  | nil => simp at hv
  | cons u l ih =>
    simp only [allOne, Bool.and_eq_true] at h
    cases i with
    | zero => simp at hv; exact hv ▸ h.1
    | succ i => exact ih h.2 (by simpa using hv)
theorem All2.one {l l' : List Value} (h : All2 (VR β) l l') : allOne l' = allOne l := by
  induction h with
  | nil => rfl
  | cons h _ ih => simp [allOne, h.one, ih]
theorem outside_ok {fro fro' : Nat × Nat} {sh o k n S : Nat} (hf : ∀ k, sh + k < S → fro'.1 ≤ sh + k → sh + k < fro'.2 → fro.1 ≤ k ∧ k < fro.2) (ho : outside fro o n = true) (h1 : sh + o ≤ k) (h2 : k < sh + o + n) (hS : k < S) : ¬ (fro'.1 ≤ k ∧ k < fro'.2) := by
  intro hk
  have := hf (k - sh) (by omega) (by omega) (by omega)
  simp only [outside, Bool.or_eq_true, Nat.ble_eq] at ho
  have e : Nat.add o n = o + n := rfl
  rw [e] at ho
  omega
/-- What a row's cells are behind a store. -/
theorem BR.stored {sh : Nat} {g : Gr} {n : Nat} {t : Tr Value} {e : TypeId} {fro fro' : Nat × Nat} {fam : Option (Nat × Nat)} {arr : Array Value} {o : Nat} {vs vs' : List Value}
    (hg : fam.isSome = g.isSome) (hN : ∀ N z, g = some (N, z) → arr.size = N ∧ E.size e = some z) (hz : g = none → sh = 0 ∧ arr.size = n) (hn : sh + n ≤ arr.size) (hc : ∀ i v, i < n → t.get i = some v → ∃ v', arr[sh + i]? = some v' ∧ VR β v v' ∧ oneCell v = true)
    (hf : ∀ k, sh + k < arr.size → fro'.1 ≤ sh + k → sh + k < fro'.2 → fro.1 ≤ k ∧ k < fro.2) (hv : All2 (VR β) vs vs') (h1 : allOne vs = true) (ho : o + vs.length ≤ n) :
    BR E β sh g (.cells n (ofList vs o t) e fro fam) (.cells (wrl arr (sh + o) vs') e fro') := by
  refine .cells hg (fun N z h => by rw [wrl_size]; exact hN N z h) (fun h => ⟨(hz h).1, by rw [wrl_size]; exact (hz h).2⟩) (by rw [wrl_size]; exact hn) (fun i v hi hv' => ?_) (by rw [wrl_size]; exact hf)
  rw [get_ofList] at hv'
  rw [wrl_get _ _ _ _ (by rw [← hv.len]; omega), ← hv.len]
  by_cases h : o ≤ i ∧ i < o + vs.length
  · rw [if_pos h] at hv'
    rw [if_pos (by omega), show sh + i - (sh + o) = i - o from by omega]
    obtain ⟨v'', h2, r⟩ := hv.get hv'
    exact ⟨v'', h2, r, allOne_get h1 hv'⟩
  · rw [if_neg h] at hv'
    rw [if_neg (by omega)]
    exact hc i v hi hv'
end Go.Ev
