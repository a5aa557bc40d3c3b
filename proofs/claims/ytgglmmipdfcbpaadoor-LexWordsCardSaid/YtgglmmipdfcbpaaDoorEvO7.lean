/- Types, lengths, copies; all operations but calls. -/
import Derived.Test.YtgglmmipdfcbpaaDoorEvO6
namespace Go.Ev
variable {E : Env} {β β' : Bond} {s s' : AS} {w w' : World} {P : Program}

theorem missing_filter (want : Array (String × TypeId)) (got : Array Method) : missing want.toList got.toList = !(want.toList.filter fun (p : String × TypeId) => !got.any fun m => m.name == p.1 && m.sig == p.2).isEmpty := by
  unfold missing
  cases h : (want.toList.any fun w => !got.toList.any fun m => m.name == w.1 && m.sig == w.2) with
  | false =>
    rw [List.any_eq_false] at h
    have : (want.toList.filter fun (p : String × TypeId) => !got.any fun m => m.name == p.1 && m.sig == p.2) = [] := by
      rw [List.filter_eq_nil_iff]
      intro p hp
      have := h p hp
      simpa using this
    rw [this]; rfl
  | true =>
    rw [List.any_eq_true] at h
    obtain ⟨p, hp, hq⟩ := h
    have : p ∈ (want.toList.filter fun (p : String × TypeId) => !got.any fun m => m.name == p.1 && m.sig == p.2) := by
      rw [List.mem_filter]
      exact ⟨hp, by simpa using hq⟩
    cases hf : (want.toList.filter fun (p : String × TypeId) => !got.any fun m => m.name == p.1 && m.sig == p.2) with
    | nil => rw [hf] at this; cases this
    | cons a l => rfl
theorem missing_none {want : Array (String × TypeId)} {got : Array Method} (h : missing want.toList got.toList = false) : Instr.missingMethod want got = none := by
  rw [missing_filter] at h
  have : (want.toList.filter fun (p : String × TypeId) => !got.any fun m => m.name == p.1 && m.sig == p.2) = [] := by
    simpa using h
  unfold Instr.missingMethod
  simp only [this]
  rfl
theorem least_cons (l : List String) (h : l ≠ []) : ∃ m, Instr.least l = some m := by
  cases l with
  | nil => exact absurd rfl h
  | cons a l => exact ⟨_, rfl⟩
theorem missing_some {want : Array (String × TypeId)} {got : Array Method} (h : missing want.toList got.toList = true) : ∃ m, Instr.missingMethod want got = some m := by
  rw [missing_filter] at h
  have hne : (want.toList.filter fun (p : String × TypeId) => !got.any fun m => m.name == p.1 && m.sig == p.2).map (·.1) ≠ [] := by
    intro e
    rw [List.map_eq_nil_iff] at e
    rw [e] at h; cases h
  unfold Instr.missingMethod
  dsimp only
  generalize (want.toList.filter fun (p : String × TypeId) => !got.any fun m => m.name == p.1 && m.sig == p.2).map (·.1) = L at hne
  cases hp : L.partition (·.contains '.') with
  | mk un ex =>
    have hmem : ∀ a ∈ L, a ∈ un ∨ a ∈ ex := by
      intro a ha
      rw [List.partition_eq_filter_filter] at hp
      cases hp
      simp only [List.mem_filter, ha, true_and, Function.comp]
      cases a.contains '.' <;> simp
    cases L with
    | nil => exact absurd rfl hne
    | cons a L =>
      cases ex with
      | cons b ex => exact ⟨_, rfl⟩
      | nil =>
        cases un with
        | cons b un => exact ⟨_, rfl⟩
        | nil => rcases hmem a List.mem_cons_self with h | h <;> cases h
theorem holds_run {ok : Bool} {v v' : Value} {r : Value} (hv : VR β v v') (h : holdsA ok v = some r) : ∃ r', (pure (if ok then .tuple #[v', .bool true] else v') : Sem Value).run P w = .ok r' w ∧ VR β r r' := by
  cases h
  refine ⟨_, rfl, ?_⟩
  cases ok
  · exact hv
  · exact .tupleL (.cons hv (.cons (.bool _) .nil))
theorem fails_run (hE : EnvOK E P) {u : TypeId} {ok : Bool} {r : Value} (h : failsA E u ok = some r) : ok = true ∧ ∃ z, (zeroValue u).run P w = .ok z w ∧ r = .tuple #[z, .bool false] ∧ VR β r r := by
  obtain ⟨h1, h⟩ := only_some h
  obtain ⟨z, h2, h⟩ := obind_some h
  obtain ⟨h3, h⟩ := only_some h
  cases h
  exact ⟨h1, z, run_zero hE h2 w, rfl, .tupleL (.cons (.plain h3) (.cons (.bool _) .nil))⟩
theorem typeAssert_sim (hE : EnvOK E P) {x x' v : Value} {xt u : TypeId} {ok : Bool} (hx : VR β x x') (h : Ev.typeAssert E x u ok = some v) :
    ∃ v', (Instr.typeAssert x' xt u ok).run P w = .ok v' w ∧ VR β v v' := by
  obtain ⟨d, hu, h⟩ := obind_some h
  have hu := run_und hE hu w
  cases hd : isIface d with
  | some W =>
    rw [hd] at h
    have h : assertI E W u ok x = some v := h
    unfold isIface at hd
    split at hd
    · rename_i ms hq
      cases hd
      unfold assertI at h
      split at h
      · cases hx
        obtain ⟨rfl, z, h1, rfl, h2⟩ := fails_run (P := P) (w := w) (β := β) hE h
        exact ⟨_, by simp [Instr.typeAssert, hu, h1], h2⟩
      · rename_i t v0 hq1 hq2
        obtain ⟨i, h1, h⟩ := obind_some h
        cases hx with
        | iface _ hv =>
          cases hm : missing ms.toList i.methods.toList with
          | true =>
            rw [hm] at h
            obtain ⟨rfl, z, h3, rfl, h4⟩ := fails_run (P := P) (w := w) (β := β) hE (show failsA E u ok = some v from h)
            obtain ⟨m, h5⟩ := missing_some hm
            exact ⟨_, by simp [Instr.typeAssert, hu, run_info hE h1, h5, h3], h4⟩
          | false =>
            rw [hm] at h
            obtain ⟨r', h3, h4⟩ := holds_run (P := P) (w := w) (VR.iface t hv) (show holdsA ok (.iface t v0) = some v from h)
            refine ⟨r', ?_, h4⟩
            rw [← h3]
            simp [Instr.typeAssert, hu, run_info hE h1, missing_none hm]
      · cases h
    · cases hd
  | none =>
    rw [hd] at h
    have h : assertC E u ok x = some v := h
    have hni : ∀ ms, d ≠ .interface ms := fun ms e => by subst e; cases hd
    unfold assertC at h
    split at h
    · cases hx
      obtain ⟨rfl, z, h1, rfl, h2⟩ := fails_run (P := P) (w := w) (β := β) hE h
      refine ⟨_, ?_, h2⟩
      simp only [Instr.typeAssert, Sem.run_bind, hu, Result.andThen_ok]
      cases d <;> first | exact absurd rfl (hni _) | simp [h1]
    · rename_i t v0 hq1 hq2
      cases hx with
      | iface _ hv =>
        cases htu : Nat.beq t u with
        | true =>
          rw [htu] at h
          have := eq_of_beq htu
          subst this
          obtain ⟨r', h3, h4⟩ := holds_run (P := P) (w := w) hv (show holdsA ok v0 = some v from h)
          refine ⟨r', ?_, h4⟩
          rw [← h3]
          simp only [Instr.typeAssert, Sem.run_bind, hu, Result.andThen_ok]
          cases d <;> first | exact absurd rfl (hni _) | simp
        | false =>
          rw [htu] at h
          have hne : ¬ t = u := fun e => by rw [e, Nat.beq_refl] at htu; cases htu
          obtain ⟨rfl, z, h1, rfl, h2⟩ := fails_run (P := P) (w := w) (β := β) hE (show failsA E u ok = some v from h)
          refine ⟨_, ?_, h2⟩
          simp only [Instr.typeAssert, Sem.run_bind, hu, Result.andThen_ok]
          cases d <;> first | exact absurd rfl (hni _) | simp [hne, h1]
    · cases h
theorem len_sim (hE : EnvOK E P) (h : Sim E β s w) {ts : Array TypeId} {t ty : TypeId} {x x' v : Value} (ht : ts[0]? = some t) (hx : VR β x x') (hl : lenB E s t x = some v) :
    (Builtin.len_ ts ty #[x']).run P w = .ok v w ∧ bare v = true := by
  unfold lenB at hl
  split at hl
  · rename_i b hu; cases hl; cases hx
    exact ⟨by simp [Builtin.len_, ht, run_und hE hu]; rfl, rfl⟩
  · rename_i n e x hu; cases hl
    refine ⟨?_, rfl⟩
    simp [Builtin.len_, ht, run_und hE hu]; rfl
  · rename_i e a n c hu; cases hl
    refine ⟨?_, rfl⟩
    cases hx <;> (simp [Builtin.len_, ht, run_und hE hu]; rfl)
  · rename_i k e hu; cases hl; cases hx
    refine ⟨?_, rfl⟩
    simp [Builtin.len_, ht, run_und hE hu]; rfl
  · rename_i k e m hu
    split at hl
    · rename_i es cl hm
      cases hl
      cases hx with
      | map hb =>
        obtain ⟨en, h4, h5⟩ := h.mapAt hb hm
        refine ⟨?_, rfl⟩
        have : es.length = en.size := by rw [h5.len]; simp
        simp [Builtin.len_, ht, run_und hE hu, getObj, Sem.run, h4, goInt, Go.goInt, this]
    · cases hl
  · cases hl
theorem cap_sim (hE : EnvOK E P) (h : Sim E β s w) {ts : Array TypeId} {t ty : TypeId} {x x' v : Value} (ht : ts[0]? = some t) (hx : VR β x x') (hl : capB E s t x = some v) :
    (Builtin.cap_ ts ty #[x']).run P w = .ok v w ∧ bare v = true := by
  unfold capB at hl
  split at hl
  · rename_i e a n c hu
    split at hl
    · rename_i hg
      cases hl
      refine ⟨?_, rfl⟩
      obtain ⟨n0, tb, e', fro, fam, hbc, hfm⟩ := inCells_some (show inCells _ _ = some false from hg)
      cases hx with
      | slice _ _ hb hm hgm hN =>
        rename_i b c' sh m' g o
        obtain ⟨arr, fro', ha, hg0, _⟩ := h.row hb hbc
        have hgn : g = none := by
          cases g with
          | none => rfl
          | some G => cases fam with | none => cases hg0 | some q => cases hfm
        rw [hgm hgn]
        simp [Builtin.cap_, ht, run_und hE hu]; rfl
      | tail _ hb =>
        simp [Builtin.cap_, ht, run_und hE hu]; rfl
    · cases hl
  · rename_i e n c hu
    cases hl; cases hx
    refine ⟨?_, rfl⟩
    simp [Builtin.cap_, ht, run_und hE hu]; rfl
  · cases hl
theorem lenOf_run {x x' : Value} {n : Nat} (hx : VR β x x') (h : lenOf x = some n) : (Builtin.lenOf x').run P w = .ok n w := by
  unfold lenOf at h
  split at h
  · cases h; cases hx <;> rfl
  · cases h; cases hx; rfl
  · cases h
theorem first_run (h : Sim E β s w) {x x' : Value} {z n : Nat} {l : List Value} (hx : VR β x x') (hf : firstCells s z n x = some l) (hn : ∀ m, lenOf x = some m → n ≤ m) :
    ∃ l', (∀ W : World, W.heap = w.heap → (Builtin.firstCells z n x').run P W = .ok l'.toArray W) ∧ All2 (VR β) l l' ∧ allOne l = true := by
  unfold firstCells at hf
  split at hf
  · rename_i b o len cap
    cases hx with
    | slice _ _ hb =>
      obtain ⟨l', h1, h2, _, h3⟩ := cells_sim (P := P) h hb hf
      exact ⟨l', fun W hW => by simpa [Builtin.firstCells] using h1 W hW, h2, h3⟩
    | tail _ hb =>
      have : n = 0 := Nat.le_zero.1 (hn 0 rfl)
      subst this
      rw [Nat.zero_mul] at hf
      cases hf
      exact ⟨[], fun W _ => by simp [Builtin.firstCells, loadCells, loadCellsFrom], .nil, rfl⟩
  · cases hf; cases hx; exact ⟨[], fun W _ => by simp [Builtin.firstCells], .nil, rfl⟩
  · rename_i b
    cases hf; cases hx
    have e : bytesOf (b.extract 0 n) = (bytesOf b).take n := by simp [bytesOf, ByteArray.data_extract, List.map_take]
    refine ⟨(bytesOf b).take n, fun W _ => ?_, (bytesOf_all b).take n, by rw [← e]; exact bytesOf_one _⟩
    rw [← e, ← bytesOf_arr]
    rfl
  · cases hf
end Go.Ev
