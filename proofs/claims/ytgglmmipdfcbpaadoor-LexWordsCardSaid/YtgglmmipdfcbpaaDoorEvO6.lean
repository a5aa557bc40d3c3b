/- Maps, texts read by characters, types, lengths, copies. -/
import Derived.Test.YtgglmmipdfcbpaaDoorEvO5
namespace Go.Ev
variable {E : Env} {β β' : Bond} {s s' : AS} {w w' : World} {P : Program}

/-- An entry of a map, on both sides. -/
def MR (β : Bond) (a : Value × Value × Nat) (b : MapEntry) : Prop := VR β a.1 b.key ∧ VR β a.2.1 b.val ∧ a.2.2 = b.born
def simpleKey (d : TypeDesc) : Prop := (∃ k, d = .int k) ∨ d = .string ∨ d = .bool
theorem keyKind_some {t e : TypeId} {d : TypeDesc} (h : keyKind E t = some (d, e)) : ∃ k, E.und t = some (.map k e) ∧ E.und k = some d ∧ simpleKey d := by
  unfold keyKind at h
  split at h
  · rename_i k e' hu
    split at h <;> first | (cases h; done) | skip
    · rename_i hk; cases h; exact ⟨k, hu, hk, .inl ⟨_, rfl⟩⟩
    · rename_i hk; cases h; exact ⟨k, hu, hk, .inr (.inl rfl)⟩
    · rename_i hk; cases h; exact ⟨k, hu, hk, .inr (.inr rfl)⟩
  · cases h
theorem str_beq (m n : ByteArray) : (m == n) = bytesEq m.data.toList n.data.toList := by
  rw [bytesEq_eq]
  have h1 : (m == n) = (m.data == n.data) := rfl
  rw [h1]
  by_cases h : m.data = n.data
  · simp [h]
  · have h2 : ¬ m.data.toList = n.data.toList := fun e => h (Array.ext' e)
    rw [beq_eq_false_iff_ne.2 h, beq_eq_false_iff_ne.2 h2]
theorem kno_inj : ∀ k k', Nat.beq (kno k) (kno k') = true → k = k' := by intro k k' h; cases k <;> cases k' <;> first | rfl | cases h
theorem same_sim {d : TypeDesc} {a b a' b' : Value} {q : Bool} (ha : VR β a a') (hb : VR β b b') (h : sameKey d a b = some q) : Instr.sameNow d a' b' = some q ∧ (q = true → Instr.sameBits 10000 b' a' = true) := by
  unfold sameKey at h
  split at h
  · rename_i k m k' n
    obtain ⟨h1, h2⟩ := only_some h
    have := kno_inj _ _ h1
    subst this
    cases ha; cases hb
    cases h2
    rw [ieq_eq]
    refine ⟨by simp [Instr.sameNow], fun e => ?_⟩
    have : m = n := by simpa using e
    subst this
    simp [Instr.sameBits]
  · rename_i m n
    cases ha; cases hb; cases h
    refine ⟨by simp [Instr.sameNow, str_beq], fun e => ?_⟩
    rw [bytesEq_eq] at e
    have : m = n := by
      have : m.data.toList = n.data.toList := by simpa using e
      cases m; cases n; simp only at this; rw [Array.ext' this]
    subst this
    show (m == m) = true
    rw [str_beq, bytesEq_eq]; simp
  · rename_i m n
    cases ha; cases hb; cases h
    refine ⟨rfl, fun e => ?_⟩
    have : m = n := by simpa using e
    subst this
    simp [Instr.sameBits]
  · cases h
theorem run_checkKey (hE : EnvOK E P) {t : TypeId} {d : TypeDesc} {k' : Value} {b : Bool} (hu : E.und t = some d) (hd : simpleKey d) : (Instr.checkKey b 10000 t k').run P w = .ok () w := by
  obtain ⟨n, hn⟩ : ∃ n, (10000 : Nat) = n + 1 := ⟨9999, rfl⟩
  rw [hn]
  rcases hd with ⟨k, rfl⟩ | rfl | rfl <;> simp [Instr.checkKey, run_und hE hu]
theorem find_sim {d : TypeDesc} {k k' : Value} (hk : VR β k k') : ∀ {es : List (Value × Value × Nat)} {en : List MapEntry} {r : Option Value} (i : Nat), All2 (MR β) es en → findKey d k es = some r →
    (r = none ∧ Instr.findNow d k' en i = some none) ∨ ∃ v j v', r = some v ∧ Instr.findNow d k' en i = some (some (j, v')) ∧ VR β v v' := by
  intro es
  induction es with
  | nil => intro en r i h hf; cases h; cases hf; exact .inl ⟨rfl, rfl⟩
  | cons e es ih =>
    intro en r i h hf
    cases h with
    | cons h1 h2 =>
      rename_i e' en
      obtain ⟨k1, v1, b1⟩ := e
      unfold findKey at hf
      split at hf
      · rename_i hs
        cases hf
        obtain ⟨h3, _⟩ := same_sim hk h1.1 hs
        exact .inr ⟨v1, i, e'.val, rfl, by simp [Instr.findNow, h3], h1.2.1⟩
      · rename_i hs
        obtain ⟨h3, _⟩ := same_sim hk h1.1 hs
        rcases ih (i + 1) h2 hf with ⟨h4, h5⟩ | ⟨v, j, v', h4, h5, h6⟩
        · exact .inl ⟨h4, by simp [Instr.findNow, h3, h5]⟩
        · exact .inr ⟨v, j, v', h4, by simp [Instr.findNow, h3, h5], h6⟩
      · cases hf
theorem set_sim {d : TypeDesc} {k k' v v' : Value} {clock : Nat} (hk : VR β k k') (hv : VR β v v') : ∀ {es es' : List (Value × Value × Nat)} {en : List MapEntry} {c : Nat} (i : Nat), All2 (MR β) es en → setKey d k v clock es = some (es', c) →
    (c = clock + 1 ∧ Instr.findNow d k' en i = some none ∧ All2 (MR β) es' (en ++ [{ key := k', val := v', born := clock }])) ∨
    ∃ j u old, c = clock ∧ Instr.findNow d k' en i = some (some (i + j, u)) ∧ en[j]? = some old ∧ Instr.sameBits 10000 old.key k' = true ∧ All2 (MR β) es' (en.modify j fun e => { e with key := k', val := v' }) := by
  intro es
  induction es with
  | nil => intro es' en c i h hf; cases h; cases hf; exact .inl ⟨rfl, rfl, .cons ⟨hk, hv, rfl⟩ .nil⟩
  | cons e es ih =>
    intro es' en c i h hf
    cases h with
    | cons h1 h2 =>
      rename_i e' en
      obtain ⟨k1, v1, b1⟩ := e
      unfold setKey at hf
      split at hf
      · rename_i hs
        cases hf
        obtain ⟨h3, h4⟩ := same_sim hk h1.1 hs
        exact .inr ⟨0, e'.val, e', rfl, by simp [Instr.findNow, h3], rfl, h4 rfl, .cons ⟨hk, hv, h1.2.2⟩ h2⟩
      · rename_i hs
        obtain ⟨h3, _⟩ := same_sim hk h1.1 hs
        split at hf
        · rename_i l' c' hl
          cases hf
          rcases ih (i + 1) h2 hl with ⟨h4, h5, h6⟩ | ⟨j, u, old, h4, h5, h6, h7, h8⟩
          · exact .inl ⟨h4, by simp [Instr.findNow, h3, h5], .cons h1 h6⟩
          · exact .inr ⟨j + 1, u, old, h4, by simp [Instr.findNow, h3, h5]; omega, by simpa using h6, h7, by simpa using All2.cons h1 h8⟩
        · cases hf
      · cases hf
theorem Sim.mapAt (h : Sim E β s w) {b c sh : Nat} {g : Gr} (hb : β b = some (c, sh, g)) {es : List (Value × Value × Nat)} {clock : Nat} (hm : s.heap.get b = some (.map es clock)) : ∃ en, w.heap[c]? = some (.map en clock) ∧ All2 (MR β) es en.toList := by
  obtain ⟨o, ho, r⟩ := h.blk b c sh g _ hb hm
  cases r with
  | map _ h => exact ⟨_, ho, h⟩
theorem lookup_sim (hE : EnvOK E P) (h : Sim E β s w) {t : TypeId} {x k x' k' v : Value} {ok : Bool} (hx : VR β x x') (hk : VR β k k') (hl : Ev.lookup E s t x k ok = some v) :
    ∃ v', (Instr.lookup t x' k' ok).run P w = .ok v' w ∧ VR β v v' := by
  obtain ⟨d, e, hkk, hl⟩ := pbind_some hl
  obtain ⟨es, hes, hl⟩ := obind_some hl
  obtain ⟨r, hr, hl⟩ := obind_some hl
  obtain ⟨kt, h1, h2, h3⟩ := keyKind_some hkk
  have hck := fun b => run_checkKey (P := P) (w := w) (k' := k') (b := b) hE h2 h3
  -- the map's entries
  obtain ⟨en, hen, hx'⟩ : ∃ en : Array MapEntry, All2 (MR β) es en.toList ∧ (x' = .map none ∧ en = #[] ∨ ∃ c cl, x' = .map (some c) ∧ w.heap[c]? = some (.map en cl)) := by
    unfold entriesOf at hes
    split at hes
    · cases hes; cases hx; exact ⟨#[], .nil, .inl ⟨rfl, rfl⟩⟩
    · split at hes
      · rename_i hm
        cases hes
        cases hx with
        | map hb =>
          obtain ⟨en, h4, h5⟩ := h.mapAt hb hm
          exact ⟨en, h5, .inr ⟨_, _, rfl, h4⟩⟩
      · cases hes
    · cases hes
  rcases find_sim hk 0 hen hr with ⟨rfl, hf⟩ | ⟨u, j, u', rfl, hf, hu⟩
  · obtain ⟨z, hz, hl⟩ := obind_some (show obind (E.zero e) _ = some v from hl)
    obtain ⟨hp, hl⟩ := only_some hl
    cases hl
    have hz1 := run_zero hE hz w
    have hz2 : VR β z z := .plain hp
    refine ⟨if ok then .tuple #[z, .bool false] else z, ?_, ?_⟩
    · rcases hx' with ⟨rfl, rfl⟩ | ⟨c, cl, rfl, hc⟩
      · simp only [Instr.lookup, Sem.run_bind, run_und hE h1, Result.andThen_ok, Sem.run_pure, hck, Instr.findKey, run_und hE h2, hf, hz1]
      · simp only [Instr.lookup, Sem.run_bind, run_und hE h1, Result.andThen_ok, Sem.run_pure, hck, Instr.findKey, run_und hE h2, hf, hz1, getObj, Sem.run, hc]
    · cases ok
      · exact hz2
      · exact .tupleL (.cons hz2 (.cons (.bool _) .nil))
  · cases hl
    refine ⟨if ok then .tuple #[u', .bool true] else u', ?_, ?_⟩
    · rcases hx' with ⟨rfl, rfl⟩ | ⟨c, cl, rfl, hc⟩
      · simp only [Instr.lookup, Sem.run_bind, run_und hE h1, Result.andThen_ok, Sem.run_pure, hck, Instr.findKey, run_und hE h2, hf]
      · simp only [Instr.lookup, Sem.run_bind, run_und hE h1, Result.andThen_ok, Sem.run_pure, hck, Instr.findKey, run_und hE h2, hf, getObj, Sem.run, hc]
    · cases ok
      · exact hu
      · exact .tupleL (.cons hu (.cons (.bool _) .nil))
theorem mapUpdate_sim (hE : EnvOK E P) (h : Sim E β s w) {t : TypeId} {x k v x' k' v' : Value} (hx : VR β x x') (hk : VR β k k') (hv : VR β v v') (hl : Ev.mapUpdate E s t x k v = some s') :
    ∃ w', (Instr.mapUpdate t x' k' v').run P w = .ok () w' ∧ Post E β s w β s' w' := by
  unfold Ev.mapUpdate at hl
  split at hl
  · rename_i d e m hkk
    obtain ⟨kt, h1, h2, h3⟩ := keyKind_some hkk
    have hck := fun b => run_checkKey (P := P) (w := w) (k' := k') (b := b) hE h2 h3
    split at hl
    · rename_i es c hm
      split at hl
      · rename_i es' c' hs
        cases hl
        cases hx with
        | map hb =>
          rename_i cc sh g
          obtain ⟨en, h4, h5⟩ := h.mapAt hb hm
          have hu : ∀ j sh' g', j ≠ m → β j = some (cc, sh', g') → alive (s.heap.get j) = false := fun j sh' g' hj e => by
            cases hal : alive (s.heap.get j) with
            | false => rfl
            | true =>
              obtain ⟨f, ri, ni, rj, nj, h6, _⟩ := h.inj m j cc sh g sh' g' hb e (Ne.symm hj) (by rw [hm]; rfl) hal
              rw [hm] at h6; cases h6
          rcases set_sim hk hv 0 h5 hs with ⟨rfl, h6, h7⟩ | ⟨j, u, old, rfl, h6, h7, h8, h9⟩
          · refine ⟨at' w cc (.map (en.push { key := k', val := v', born := c }) (c + 1)), ?_, Post.wrote h hb (.map (c + 1) (show All2 (MR β) es' (en.push { key := k', val := v', born := c }).toList from by simpa using h7)) hu (by rw [hm]; rfl) (fun ids e => by rw [hm] at e; cases e)⟩
            simp only [Instr.mapUpdate, Sem.run_bind, run_und hE h1, Result.andThen_ok, getObj, Sem.run, h4, hck, Instr.findKey, run_und hE h2, h6, Sem.run_pure, setObj]
            rfl
          · rw [Nat.zero_add] at h6
            refine ⟨at' w cc (.map (en.modify j fun e => { e with key := k', val := v' }) c'), ?_, Post.wrote h hb (.map c' (by rw [Array.toList_modify]; exact h9)) hu (by rw [hm]; rfl) (fun ids e => by rw [hm] at e; cases e)⟩
            have h10 : ((en[j]?).map (·.key)).getD k' = old.key := by rw [show en[j]? = en.toList[j]? by simp, h7]; rfl
            simp only [Instr.mapUpdate, Sem.run_bind, run_und hE h1, Result.andThen_ok, getObj, Sem.run, h4, hck, Instr.findKey, run_und hE h2, h6, Sem.run_pure, setObj, h10, Instr.keyThatStays, h8, if_true]
            rfl
      · cases hl
    · cases hl
  · cases hl

/-! a text, character by character -/
theorem range_sim (hE : EnvOK E P) (h : Sim E β s w) {t : TypeId} {b : ByteArray} (hu : E.und t = some .string) :
    ∃ w' β', (Instr.range t (.string b)).run P w = .ok (.pointer (some ⟨w.heap.size, 0, none⟩)) w' ∧ Post E β s w β' (s.alloc (.strIter b 0)) w' ∧ VR β' (at_ s.next 0) (.pointer (some ⟨w.heap.size, 0, none⟩)) := by
  refine ⟨push w (.stringIter b 0), upd β s.next (w.heap.size, 0, none), by simp [Instr.range, run_und hE hu, newObj, Sem.run, push], Post.made h (.strIter rfl b 0) (fun f rel n e => by cases e), .ptr (sh := 0) 0 (upd_eq _ _ _)⟩
theorem next_sim (h : Sim E β s w) {it' : Value} {r : Nat} {b : ByteArray} {pos : Nat} {ty : TypeId} {res : Option Value × AS} (hx : VR β (.pointer (some ⟨r, 0, none⟩)) it') (hr : s.heap.get r = some (.strIter b pos)) (hn : nextStr s r b pos = some res) :
    ∃ v' w', (Instr.next it' true ty).run P w = .ok v' w' ∧ Post E β s w β res.2 w' ∧ ∃ u, res.1 = some u ∧ VR β u v' := by
  cases hx with
  | ptr _ hb =>
    rename_i c sh g
    obtain ⟨o, ho, br⟩ := h.blk r c _ g _ hb hr
    have h0 : sh = 0 ∧ o = .stringIter b pos := by cases br with | strIter h0 => exact ⟨h0, rfl⟩
    obtain ⟨h0, rfl⟩ := h0
    subst h0
    unfold nextStr at hn
    cases hp : Nat.ble (Nat.succ pos) b.size with
    | true =>
      rw [hp] at hn
      cases hn
      have hp : pos < b.size := le_of_ble hp
      refine ⟨.tuple #[.bool true, .int .i64 pos, .int .i32 (Utf8.decode b pos).1], at' w c (.stringIter b (pos + (Utf8.decode b pos).2)), ?_, Post.wrote h hb (.strIter rfl _ _) (fun j sh' g' hj e => ?_) (by rw [hr]; rfl) (fun ids e => by rw [hr] at e; cases e), _, rfl, .tupleL (.cons (.bool _) (.cons (.int _ _) (.cons (.int _ _) .nil)))⟩
      · simp only [Instr.next, Sem.run_bind, getObj, Sem.run, Nat.add_zero, ho, Result.andThen_ok, if_pos hp, setObj, Sem.run_pure]
        rfl
      · cases hal : alive (s.heap.get j) with
        | false => rfl
        | true =>
          obtain ⟨f, ri, ni, rj, nj, h6, _⟩ := h.inj r j c _ g sh' g' hb e (Ne.symm hj) (by rw [hr]; rfl) hal
          rw [hr] at h6; cases h6
    | false =>
      rw [hp] at hn
      cases hn
      have hp : ¬ pos < b.size := fun e => by rw [Nat.ble_eq_true_of_le (show Nat.succ pos ≤ b.size from e)] at hp; cases hp
      refine ⟨.tuple #[.bool false], w, ?_, .refl h, _, rfl, .tupleL (.cons (.bool _) .nil)⟩
      simp only [Instr.next, Sem.run_bind, getObj, Sem.run, Nat.add_zero, ho, Result.andThen_ok, if_neg hp, Sem.run_pure]
end Go.Ev
