import Derived.Laws.BytesString
import Derived.Test.YthhkpoobcnmdgaaDoorBE3
/- Conversions, texts, maps, types. -/
namespace Go.Ev
variable {E : Env} {β β' : Bond} {s s' : AS} {w w' : World} {P : Program}

theorem toBytes_some : ∀ {l : List Value} {b r : ByteArray}, toBytes l b = some r → ∃ ns : List Int, l = ns.map (Value.int .u8) ∧ r = ns.foldl (fun r n => r.push (UInt8.ofNat n.toNat)) b := by
  intro l
  induction l with
  | nil => intro b r h; cases h; exact ⟨[], rfl, rfl⟩
  | cons v l ih =>
    intro b r h
    cases v <;> first | (cases h; done) | skip
    rename_i k n
    cases k <;> first | (cases h; done) | skip
    obtain ⟨ns, h1, h2⟩ := ih (show toBytes l (b.push (UInt8.ofNat n.toNat)) = some r from h)
    exact ⟨n :: ns, by simp [h1], by simpa using h2⟩
theorem All2.bytes {ns : List Int} {l' : List Value} (h : All2 (VR β) (ns.map (Value.int .u8)) l') : l' = ns.map (Value.int .u8) := by
  induction ns generalizing l' with
  | nil => cases h; rfl
  | cons n ns ih =>
    cases h with
    | cons h1 h2 => cases h1; rw [ih h2]; rfl
theorem toStr_sim (hE : EnvOK E P) (h : Sim E β s w) {src dst : TypeId} {x' : Value} {base : Option Addr} {len cap : Nat} {v : Value} (hd : E.und dst = some .string) (hx : VR β (.slice base len cap) x') (hr : toStr E s src base len = some v) :
    ∃ v', (Go.convert src dst x').run P w = .ok v' w ∧ VR β v v' := by
  obtain ⟨e, he, hr⟩ := obind_some hr
  have hu := elem_ok he
  split at hr
  · rename_i heu hrx
    cases hr
    cases hx
    refine ⟨.string .empty, ?_, .string _⟩
    simp [Go.convert, run_und hE hu, run_und hE hd, run_und hE heu, Conv.bytesToString]
  · rename_i b o heu hrx
    obtain ⟨l, h1, h2⟩ := obind_some hr
    obtain ⟨r, h3, h4⟩ := obind_some h2
    cases h4
    obtain ⟨ns, rfl, rfl⟩ := toBytes_some h3
    refine ⟨_, ?_, .string _⟩
    cases hx with
    | slice _ _ hb =>
      obtain ⟨l', hl, r, _⟩ := cells_sim (P := P) h hb h1
      have := r.bytes
      subst this
      simp [Go.convert, run_und hE hu, run_und hE hd, run_und hE heu, run_bytesToString w _ _ _ ns (hl w rfl)]
    | tail _ hb =>
      have : ns = [] := by
        have h9 : some [] = some (ns.map (Value.int .u8)) := h1
        exact List.map_eq_nil_iff.1 (Option.some.inj h9).symm
      subst this
      have hl : ∀ c' o', (loadCells ⟨c', o', none⟩ 0).run P w = .ok (([] : List Int).map (Value.int .u8)).toArray w := fun c' o' => by simp [loadCells, loadCellsFrom]
      simp [Go.convert, run_und hE hu, run_und hE hd, run_und hE heu, run_bytesToString w _ _ _ [] (hl _ _)]
  · cases hr
theorem bytesOf_len (b : ByteArray) : (bytesOf b).length = b.size := by simp [bytesOf]
theorem bytesOf_one (b : ByteArray) : allOne (bytesOf b) = true := by
  unfold bytesOf
  induction b.data.toList with
  | nil => rfl
  | cons c l ih => simpa [allOne, oneCell] using ih
theorem bytesOf_all (b : ByteArray) : All2 (VR β) (bytesOf b) (bytesOf b) := by
  unfold bytesOf
  induction b.data.toList with
  | nil => exact .nil
  | cons c l ih => exact .cons (.int _ _) ih
theorem bytesOf_arr (b : ByteArray) : (b.data.map fun c => Value.int .u8 (c.toNat : Int)) = (bytesOf b).toArray := by
  unfold bytesOf
  apply Array.ext'
  simp
theorem run_newRow (w : World) (e : TypeId) (arr : Array Value) : (Go.newRow e arr).run P w = .ok ⟨w.heap.size, 0, none⟩ (push w (.cells arr e)) := by
  simp [Go.newRow, newObj, Sem.run, push]
theorem run_mark (w : World) (e : TypeId) (arr : Array Value) : (markStringish ⟨w.heap.size, 0, none⟩).run P (push w (.cells arr e)) = .ok () (push w (.cells arr e (arr.size, arr.size + 1))) := by
  have h1 : (push w (.cells arr e)).shape? w.heap.size = some (e, arr.size) := by simp [World.shape?, push_new]
  have h2 : (push w (.cells arr e)).freeze ⟨w.heap.size, arr.size, none⟩ 1 = push w (.cells arr e (arr.size, arr.size + 1)) := by
    unfold World.freeze push
    rw [if_neg (by decide)]
    congr 1
    apply Array.ext_getElem?
    intro i
    by_cases hi : w.heap.size = i
    · subst hi
      rw [Array.getElem?_modify, if_pos rfl, Array.getElem?_push, if_pos rfl, Array.getElem?_push, if_pos rfl]
      simp
    · rw [Array.getElem?_modify, if_neg hi, Array.getElem?_push, Array.getElem?_push, if_neg (Ne.symm hi), if_neg (Ne.symm hi)]
  unfold markStringish
  simp only [Sem.run_bind, Go.shape, Sem.run, h1, Result.andThen_ok, freeze, h2]
theorem ofStr_sim (hE : EnvOK E P) (h : Sim E β s w) {src dst : TypeId} {b : ByteArray} {r : Value × AS} (hs : E.und src = some .string) (hr : ofStr E s dst b = some r) :
    ∃ v' w' β', (Go.convert src dst (.string b)).run P w = .ok v' w' ∧ Post E β s w β' r.2 w' ∧ VR β' r.1 v' := by
  obtain ⟨e, he, hr⟩ := obind_some hr
  have hu := elem_ok he
  split at hr
  · rename_i heu
    obtain ⟨z, h1, h2⟩ := obind_some hr
    obtain ⟨h3, h4⟩ := only_some h2
    cases h4
    simp only [Bool.and_eq_true] at h3
    have := eq_of_beq h3.2
    subst this
    have hd : Sim E β s (drewn w) := h.heap rfl
    obtain ⟨N, hN, hrun⟩ : ∃ N, b.size ≤ N ∧ (choose (.appendCap b.size 0 e)).run P w = .ok N (drewn w) := ⟨_, by omega, run_appendCap w b.size 0 e⟩
    have hlen : ((bytesOf b).toArray ++ Array.replicate (N - b.size) (Value.int .u8 0)).size = N := by
      simp [bytesOf_len]; omega
    obtain ⟨β', p, q⟩ := newRow_sim (t := ofList (bytesOf b) 0 .nil) (n := b.size) (len := b.size) (cap := b.size) (m := N) (arr := (bytesOf b).toArray ++ Array.replicate (N - b.size) (Value.int .u8 0)) hd h1 (N, N + 1)
      (fun k h1 h2 _ => by rw [hlen] at h1; exact absurd h2 (by simp; omega)) (fun i v hi hg => by
        rw [get_ofList, if_pos (by rw [bytesOf_len]; omega)] at hg
        exact (bytesOf_all b).at (bytesOf_one b) (show (bytesOf b)[i]? = some v by simpa using hg)) (by rw [hlen]; exact hN) hN (by rw [hlen]; omega)
    refine ⟨_, _, β', ?_, p.heapL rfl ⟨rfl, rfl, rfl⟩, q⟩
    have hm := run_mark (P := P) (drewn w) e ((bytesOf b).toArray ++ Array.replicate (N - b.size) (Value.int .u8 0))
    rw [hlen] at hm
    simp only [Go.convert, Sem.run_bind, run_und hE hu, run_und hE hs, run_und hE heu, Result.andThen_ok, Conv.stringToBytes, hrun, bytesOf_arr, run_newRow, hm, Sem.run_pure]
  · cases hr
theorem convert_sim (hE : EnvOK E P) {src dst : TypeId} {x x' : Value} {v : Value} (hx : VR β x x') (h : Ev.convert E src dst x = some v) :
    (Go.convert src dst x').run P w = .ok v w ∧ bare v = true := by
  unfold Ev.convert at h
  split at h
  · rename_i d k k' n hs hd
    cases h; cases hx
    refine ⟨?_, rfl⟩
    rw [wr_eq]
    simp [Go.convert, run_und hE hs, run_und hE hd, Conv.intToInt]
  · rename_i b hs hd
    cases h; cases hx
    refine ⟨?_, rfl⟩
    simp [Go.convert, run_und hE hs, run_und hE hd]
  · cases h
end Go.Ev
/- Maps, texts read by characters, types, lengths, copies. -/
namespace Go.Ev
variable {E : Env} {β β' : Bond} {s s' : AS} {w w' : World} {P : Program}

/-- An entry of a map, on both sides. -/
def MR (β : Bond) (a : Value × Value × Nat) (b : MapEntry) : Prop := VR β a.1 b.key ∧ VR β a.2.1 b.val ∧ a.2.2 = b.born
def simpleKey (d : TypeDesc) : Prop := (∃ k, d = .int k) ∨ d = .string ∨ d = .bool
theorem keyKind_some {t e : TypeId} {d : TypeDesc} (h : keyKind E t = some (d, e)) : ∃ k, E.und t = some (.map k e) ∧ E.und k = some d ∧ simpleKey d := by
  unfold keyKind at h
  split at h
  · rename_i k e' hu
    split at h <;> first | (cases h; done) | skip
    · rename_i hk; cases h; exact ⟨k, hu, hk, .inl ⟨_, rfl⟩⟩
    · rename_i hk; cases h; exact ⟨k, hu, hk, .inr (.inl rfl)⟩
    · rename_i hk; cases h; exact ⟨k, hu, hk, .inr (.inr rfl)⟩
  · cases h
theorem str_beq (m n : ByteArray) : (m == n) = bytesEq m.data.toList n.data.toList := by
  rw [bytesEq_eq]
  have h1 : (m == n) = (m.data == n.data) := rfl
  rw [h1]
  by_cases h : m.data = n.data
  · simp [h]
  · have h2 : ¬ m.data.toList = n.data.toList := fun e => h (Array.ext' e)
    rw [beq_eq_false_iff_ne.2 h, beq_eq_false_iff_ne.2 h2]
theorem kno_inj : ∀ k k', Nat.beq (kno k) (kno k') = true → k = k' := by intro k k' h; cases k <;> cases k' <;> first | rfl | cases h
theorem same_sim {d : TypeDesc} {a b a' b' : Value} {q : Bool} (ha : VR β a a') (hb : VR β b b') (h : sameKey d a b = some q) : Instr.sameNow d a' b' = some q ∧ (q = true → Instr.sameBits 10000 b' a' = true) := by
  unfold sameKey at h
  split at h
  · rename_i k m k' n
    obtain ⟨h1, h2⟩ := only_some h
    have := kno_inj _ _ h1
    subst this
    cases ha; cases hb
    cases h2
    rw [ieq_eq]
    refine ⟨by simp [Instr.sameNow], fun e => ?_⟩
    have : m = n := by simpa using e
    subst this
    simp [Instr.sameBits]
  · rename_i m n
    cases ha; cases hb; cases h
    refine ⟨by simp [Instr.sameNow, str_beq], fun e => ?_⟩
    rw [bytesEq_eq] at e
    have : m = n := by
      have : m.data.toList = n.data.toList := by simpa using e
      cases m; cases n; simp only at this; rw [Array.ext' this]
    subst this
    show (m == m) = true
    rw [str_beq, bytesEq_eq]; simp
  · rename_i m n
    cases ha; cases hb; cases h
    refine ⟨rfl, fun e => ?_⟩
    have : m = n := by simpa using e
    subst this
    simp [Instr.sameBits]
  · cases h
theorem run_checkKey (hE : EnvOK E P) {t : TypeId} {d : TypeDesc} {k' : Value} {b : Bool} (hu : E.und t = some d) (hd : simpleKey d) : (Instr.checkKey b 10000 t k').run P w = .ok () w := by
  obtain ⟨n, hn⟩ : ∃ n, (10000 : Nat) = n + 1 := ⟨9999, rfl⟩
  rw [hn]
  rcases hd with ⟨k, rfl⟩ | rfl | rfl <;> simp [Instr.checkKey, run_und hE hu]
theorem find_sim {d : TypeDesc} {k k' : Value} (hk : VR β k k') : ∀ {es : List (Value × Value × Nat)} {en : List MapEntry} {r : Option Value} (i : Nat), All2 (MR β) es en → findKey d k es = some r →
    (r = none ∧ Instr.findNow d k' en i = some none) ∨ ∃ v j v', r = some v ∧ Instr.findNow d k' en i = some (some (j, v')) ∧ VR β v v' := by
  intro es
  induction es with
  | nil => intro en r i h hf; cases h; cases hf; exact .inl ⟨rfl, rfl⟩
  | cons e es ih =>
    intro en r i h hf
    cases h with
    | cons h1 h2 =>
      rename_i e' en
      obtain ⟨k1, v1, b1⟩ := e
      unfold findKey at hf
      split at hf
      · rename_i hs
        cases hf
        obtain ⟨h3, _⟩ := same_sim hk h1.1 hs
        exact .inr ⟨v1, i, e'.val, rfl, by simp [Instr.findNow, h3], h1.2.1⟩
      · rename_i hs
        obtain ⟨h3, _⟩ := same_sim hk h1.1 hs
        rcases ih (i + 1) h2 hf with ⟨h4, h5⟩ | ⟨v, j, v', h4, h5, h6⟩
        · exact .inl ⟨h4, by simp [Instr.findNow, h3, h5]⟩
        · exact .inr ⟨v, j, v', h4, by simp [Instr.findNow, h3, h5], h6⟩
      · cases hf
theorem set_sim {d : TypeDesc} {k k' v v' : Value} {clock : Nat} (hk : VR β k k') (hv : VR β v v') : ∀ {es es' : List (Value × Value × Nat)} {en : List MapEntry} {c : Nat} (i : Nat), All2 (MR β) es en → setKey d k v clock es = some (es', c) →
    (c = clock + 1 ∧ Instr.findNow d k' en i = some none ∧ All2 (MR β) es' (en ++ [{ key := k', val := v', born := clock }])) ∨
    ∃ j u old, c = clock ∧ Instr.findNow d k' en i = some (some (i + j, u)) ∧ en[j]? = some old ∧ Instr.sameBits 10000 old.key k' = true ∧ All2 (MR β) es' (en.modify j fun e => { e with key := k', val := v' }) := by
  intro es
  induction es with
  | nil => intro es' en c i h hf; cases h; cases hf; exact .inl ⟨rfl, rfl, .cons ⟨hk, hv, rfl⟩ .nil⟩
  | cons e es ih =>
    intro es' en c i h hf
    cases h with
    | cons h1 h2 =>
      rename_i e' en
      obtain ⟨k1, v1, b1⟩ := e
      unfold setKey at hf
      split at hf
      · rename_i hs
        cases hf
        obtain ⟨h3, h4⟩ := same_sim hk h1.1 hs
        exact .inr ⟨0, e'.val, e', rfl, by simp [Instr.findNow, h3], rfl, h4 rfl, .cons ⟨hk, hv, h1.2.2⟩ h2⟩
      · rename_i hs
        obtain ⟨h3, _⟩ := same_sim hk h1.1 hs
        split at hf
        · rename_i l' c' hl
          cases hf
          rcases ih (i + 1) h2 hl with ⟨h4, h5, h6⟩ | ⟨j, u, old, h4, h5, h6, h7, h8⟩
          · exact .inl ⟨h4, by simp [Instr.findNow, h3, h5], .cons h1 h6⟩
          · exact .inr ⟨j + 1, u, old, h4, by simp [Instr.findNow, h3, h5]; omega, by simpa using h6, h7, by simpa using All2.cons h1 h8⟩
        · cases hf
      · cases hf
theorem Sim.mapAt (h : Sim E β s w) {b c sh : Nat} {g : Gr} (hb : β b = some (c, sh, g)) {es : List (Value × Value × Nat)} {clock : Nat} (hm : s.heap.get b = some (.map es clock)) : ∃ en, w.heap[c]? = some (.map en clock) ∧ All2 (MR β) es en.toList := by
  obtain ⟨o, ho, r⟩ := h.blk b c sh g _ hb hm
  cases r with
  | map _ h => exact ⟨_, ho, h⟩
theorem lookup_sim (hE : EnvOK E P) (h : Sim E β s w) {t : TypeId} {x k x' k' v : Value} {ok : Bool} (hx : VR β x x') (hk : VR β k k') (hl : Ev.lookup E s t x k ok = some v) :
    ∃ v', (Instr.lookup t x' k' ok).run P w = .ok v' w ∧ VR β v v' := by
  obtain ⟨d, e, hkk, hl⟩ := pbind_some hl
  obtain ⟨es, hes, hl⟩ := obind_some hl
  obtain ⟨r, hr, hl⟩ := obind_some hl
  obtain ⟨kt, h1, h2, h3⟩ := keyKind_some hkk
  have hck := fun b => run_checkKey (P := P) (w := w) (k' := k') (b := b) hE h2 h3
  -- the map's entries
  obtain ⟨en, hen, hx'⟩ : ∃ en : Array MapEntry, All2 (MR β) es en.toList ∧ (x' = .map none ∧ en = #[] ∨ ∃ c cl, x' = .map (some c) ∧ w.heap[c]? = some (.map en cl)) := by
    unfold entriesOf at hes
    split at hes
    · cases hes; cases hx; exact ⟨#[], .nil, .inl ⟨rfl, rfl⟩⟩
    · split at hes
      · rename_i hm
        cases hes
        cases hx with
        | map hb =>
          obtain ⟨en, h4, h5⟩ := h.mapAt hb hm
          exact ⟨en, h5, .inr ⟨_, _, rfl, h4⟩⟩
      · cases hes
    · cases hes
  rcases find_sim hk 0 hen hr with ⟨rfl, hf⟩ | ⟨u, j, u', rfl, hf, hu⟩
  · obtain ⟨z, hz, hl⟩ := obind_some (show obind (E.zero e) _ = some v from hl)
    obtain ⟨hp, hl⟩ := only_some hl
    cases hl
    have hz1 := run_zero hE hz w
    have hz2 : VR β z z := .plain hp
    refine ⟨if ok then .tuple #[z, .bool false] else z, ?_, ?_⟩
    · rcases hx' with ⟨rfl, rfl⟩ | ⟨c, cl, rfl, hc⟩
      · simp only [Instr.lookup, Sem.run_bind, run_und hE h1, Result.andThen_ok, Sem.run_pure, hck, Instr.findKey, run_und hE h2, hf, hz1]
      · simp only [Instr.lookup, Sem.run_bind, run_und hE h1, Result.andThen_ok, Sem.run_pure, hck, Instr.findKey, run_und hE h2, hf, hz1, getObj, Sem.run, hc]
    · cases ok
      · exact hz2
      · exact .tupleL (.cons hz2 (.cons (.bool _) .nil))
  · cases hl
    refine ⟨if ok then .tuple #[u', .bool true] else u', ?_, ?_⟩
    · rcases hx' with ⟨rfl, rfl⟩ | ⟨c, cl, rfl, hc⟩
      · simp only [Instr.lookup, Sem.run_bind, run_und hE h1, Result.andThen_ok, Sem.run_pure, hck, Instr.findKey, run_und hE h2, hf]
      · simp only [Instr.lookup, Sem.run_bind, run_und hE h1, Result.andThen_ok, Sem.run_pure, hck, Instr.findKey, run_und hE h2, hf, getObj, Sem.run, hc]
    · cases ok
      · exact hu
      · exact .tupleL (.cons hu (.cons (.bool _) .nil))
theorem mapUpdate_sim (hE : EnvOK E P) (h : Sim E β s w) {t : TypeId} {x k v x' k' v' : Value} (hx : VR β x x') (hk : VR β k k') (hv : VR β v v') (hl : Ev.mapUpdate E s t x k v = some s') :
    ∃ w', (Instr.mapUpdate t x' k' v').run P w = .ok () w' ∧ Post E β s w β s' w' := by
  unfold Ev.mapUpdate at hl
  split at hl
  · rename_i d e m hkk
    obtain ⟨kt, h1, h2, h3⟩ := keyKind_some hkk
    have hck := fun b => run_checkKey (P := P) (w := w) (k' := k') (b := b) hE h2 h3
    split at hl
    · rename_i es c hm
      split at hl
      · rename_i es' c' hs
        cases hl
        cases hx with
        | map hb =>
          rename_i cc sh g
          obtain ⟨en, h4, h5⟩ := h.mapAt hb hm
          have hu : ∀ j sh' g', j ≠ m → β j = some (cc, sh', g') → alive (s.heap.get j) = false := fun j sh' g' hj e => by
            cases hal : alive (s.heap.get j) with
            | false => rfl
            | true =>
              obtain ⟨f, ri, ni, rj, nj, h6, _⟩ := h.inj m j cc sh g sh' g' hb e (Ne.symm hj) (by rw [hm]; rfl) hal
              rw [hm] at h6; cases h6
          rcases set_sim hk hv 0 h5 hs with ⟨rfl, h6, h7⟩ | ⟨j, u, old, rfl, h6, h7, h8, h9⟩
          · refine ⟨at' w cc (.map (en.push { key := k', val := v', born := c }) (c + 1)), ?_, Post.wrote h hb (.map (c + 1) (show All2 (MR β) es' (en.push { key := k', val := v', born := c }).toList from by simpa using h7)) hu (by rw [hm]; rfl) (fun ids e => by rw [hm] at e; cases e)⟩
            simp only [Instr.mapUpdate, Sem.run_bind, run_und hE h1, Result.andThen_ok, getObj, Sem.run, h4, hck, Instr.findKey, run_und hE h2, h6, Sem.run_pure, setObj]
            rfl
          · rw [Nat.zero_add] at h6
            refine ⟨at' w cc (.map (en.modify j fun e => { e with key := k', val := v' }) c'), ?_, Post.wrote h hb (.map c' (by rw [Array.toList_modify]; exact h9)) hu (by rw [hm]; rfl) (fun ids e => by rw [hm] at e; cases e)⟩
            have h10 : ((en[j]?).map (·.key)).getD k' = old.key := by rw [show en[j]? = en.toList[j]? by simp, h7]; rfl
            simp only [Instr.mapUpdate, Sem.run_bind, run_und hE h1, Result.andThen_ok, getObj, Sem.run, h4, hck, Instr.findKey, run_und hE h2, h6, Sem.run_pure, setObj, h10, Instr.keyThatStays, h8, if_true]
            rfl
      · cases hl
    · cases hl
  · cases hl

/-! a text, character by character -/
theorem range_sim (hE : EnvOK E P) (h : Sim E β s w) {t : TypeId} {b : ByteArray} (hu : E.und t = some .string) :
    ∃ w' β', (Instr.range t (.string b)).run P w = .ok (.pointer (some ⟨w.heap.size, 0, none⟩)) w' ∧ Post E β s w β' (s.alloc (.strIter b 0)) w' ∧ VR β' (at_ s.next 0) (.pointer (some ⟨w.heap.size, 0, none⟩)) := by
  refine ⟨push w (.stringIter b 0), upd β s.next (w.heap.size, 0, none), by simp [Instr.range, run_und hE hu, newObj, Sem.run, push], Post.made h (.strIter rfl b 0) (fun f rel n e => by cases e), .ptr (sh := 0) 0 (upd_eq _ _ _)⟩
theorem next_sim (h : Sim E β s w) {it' : Value} {r : Nat} {b : ByteArray} {pos : Nat} {ty : TypeId} {res : Option Value × AS} (hx : VR β (.pointer (some ⟨r, 0, none⟩)) it') (hr : s.heap.get r = some (.strIter b pos)) (hn : nextStr s r b pos = some res) :
    ∃ v' w', (Instr.next it' true ty).run P w = .ok v' w' ∧ Post E β s w β res.2 w' ∧ ∃ u, res.1 = some u ∧ VR β u v' := by
  cases hx with
  | ptr _ hb =>
    rename_i c sh g
    obtain ⟨o, ho, br⟩ := h.blk r c _ g _ hb hr
    have h0 : sh = 0 ∧ o = .stringIter b pos := by cases br with | strIter h0 => exact ⟨h0, rfl⟩
    obtain ⟨h0, rfl⟩ := h0
    subst h0
    unfold nextStr at hn
    cases hp : Nat.ble (Nat.succ pos) b.size with
    | true =>
      rw [hp] at hn
      cases hn
      have hp : pos < b.size := le_of_ble hp
      refine ⟨.tuple #[.bool true, .int .i64 pos, .int .i32 (Utf8.decode b pos).1], at' w c (.stringIter b (pos + (Utf8.decode b pos).2)), ?_, Post.wrote h hb (.strIter rfl _ _) (fun j sh' g' hj e => ?_) (by rw [hr]; rfl) (fun ids e => by rw [hr] at e; cases e), _, rfl, .tupleL (.cons (.bool _) (.cons (.int _ _) (.cons (.int _ _) .nil)))⟩
      · simp only [Instr.next, Sem.run_bind, getObj, Sem.run, Nat.add_zero, ho, Result.andThen_ok, if_pos hp, setObj, Sem.run_pure]
        rfl
      · cases hal : alive (s.heap.get j) with
        | false => rfl
        | true =>
          obtain ⟨f, ri, ni, rj, nj, h6, _⟩ := h.inj r j c _ g sh' g' hb e (Ne.symm hj) (by rw [hr]; rfl) hal
          rw [hr] at h6; cases h6
    | false =>
      rw [hp] at hn
      cases hn
      have hp : ¬ pos < b.size := fun e => by rw [Nat.ble_eq_true_of_le (show Nat.succ pos ≤ b.size from e)] at hp; cases hp
      refine ⟨.tuple #[.bool false], w, ?_, .refl h, _, rfl, .tupleL (.cons (.bool _) .nil)⟩
      simp only [Instr.next, Sem.run_bind, getObj, Sem.run, Nat.add_zero, ho, Result.andThen_ok, if_neg hp, Sem.run_pure]
end Go.Ev
/- Types, lengths, copies; all operations but calls. -/
namespace Go.Ev
variable {E : Env} {β β' : Bond} {s s' : AS} {w w' : World} {P : Program}

theorem missing_filter (want : Array (String × TypeId)) (got : Array Method) : missing want.toList got.toList = !(want.toList.filter fun (p : String × TypeId) => !got.any fun m => m.name == p.1 && m.sig == p.2).isEmpty := by
  unfold missing
  cases h : (want.toList.any fun w => !got.toList.any fun m => m.name == w.1 && m.sig == w.2) with
  | false =>
    rw [List.any_eq_false] at h
    have : (want.toList.filter fun (p : String × TypeId) => !got.any fun m => m.name == p.1 && m.sig == p.2) = [] := by
      rw [List.filter_eq_nil_iff]
      intro p hp
      have := h p hp
      simpa using this
    rw [this]; rfl
  | true =>
    rw [List.any_eq_true] at h
    obtain ⟨p, hp, hq⟩ := h
    have : p ∈ (want.toList.filter fun (p : String × TypeId) => !got.any fun m => m.name == p.1 && m.sig == p.2) := by
      rw [List.mem_filter]
      exact ⟨hp, by simpa using hq⟩
    cases hf : (want.toList.filter fun (p : String × TypeId) => !got.any fun m => m.name == p.1 && m.sig == p.2) with
    | nil => rw [hf] at this; cases this
    | cons a l => rfl
theorem missing_none {want : Array (String × TypeId)} {got : Array Method} (h : missing want.toList got.toList = false) : Instr.missingMethod want got = none := by
  rw [missing_filter] at h
  have : (want.toList.filter fun (p : String × TypeId) => !got.any fun m => m.name == p.1 && m.sig == p.2) = [] := by
    simpa using h
  unfold Instr.missingMethod
  simp only [this]
  rfl
theorem least_cons (l : List String) (h : l ≠ []) : ∃ m, Instr.least l = some m := by
  cases l with
  | nil => exact absurd rfl h
  | cons a l => exact ⟨_, rfl⟩
theorem missing_some {want : Array (String × TypeId)} {got : Array Method} (h : missing want.toList got.toList = true) : ∃ m, Instr.missingMethod want got = some m := by
  rw [missing_filter] at h
  have hne : (want.toList.filter fun (p : String × TypeId) => !got.any fun m => m.name == p.1 && m.sig == p.2).map (·.1) ≠ [] := by
    intro e
    rw [List.map_eq_nil_iff] at e
    rw [e] at h; cases h
  unfold Instr.missingMethod
  dsimp only
  generalize (want.toList.filter fun (p : String × TypeId) => !got.any fun m => m.name == p.1 && m.sig == p.2).map (·.1) = L at hne
  cases hp : L.partition (·.contains '.') with
  | mk un ex =>
    have hmem : ∀ a ∈ L, a ∈ un ∨ a ∈ ex := by
      intro a ha
      rw [List.partition_eq_filter_filter] at hp
      cases hp
      simp only [List.mem_filter, ha, true_and, Function.comp]
      cases a.contains '.' <;> simp
    cases L with
    | nil => exact absurd rfl hne
    | cons a L =>
      cases ex with
      | cons b ex => exact ⟨_, rfl⟩
      | nil =>
        cases un with
        | cons b un => exact ⟨_, rfl⟩
        | nil => rcases hmem a List.mem_cons_self with h | h <;> cases h
theorem holds_run {ok : Bool} {v v' : Value} {r : Value} (hv : VR β v v') (h : holdsA ok v = some r) : ∃ r', (pure (if ok then .tuple #[v', .bool true] else v') : Sem Value).run P w = .ok r' w ∧ VR β r r' := by
  cases h
  refine ⟨_, rfl, ?_⟩
  cases ok
  · exact hv
  · exact .tupleL (.cons hv (.cons (.bool _) .nil))
theorem fails_run (hE : EnvOK E P) {u : TypeId} {ok : Bool} {r : Value} (h : failsA E u ok = some r) : ok = true ∧ ∃ z, (zeroValue u).run P w = .ok z w ∧ r = .tuple #[z, .bool false] ∧ VR β r r := by
  obtain ⟨h1, h⟩ := only_some h
  obtain ⟨z, h2, h⟩ := obind_some h
  obtain ⟨h3, h⟩ := only_some h
  cases h
  exact ⟨h1, z, run_zero hE h2 w, rfl, .tupleL (.cons (.plain h3) (.cons (.bool _) .nil))⟩
theorem typeAssert_sim (hE : EnvOK E P) {x x' v : Value} {xt u : TypeId} {ok : Bool} (hx : VR β x x') (h : Ev.typeAssert E x u ok = some v) :
    ∃ v', (Instr.typeAssert x' xt u ok).run P w = .ok v' w ∧ VR β v v' := by
  obtain ⟨d, hu, h⟩ := obind_some h
  have hu := run_und hE hu w
  cases hd : isIface d with
  | some W =>
    rw [hd] at h
    have h : assertI E W u ok x = some v := h
    unfold isIface at hd
    split at hd
    · rename_i ms hq
      cases hd
      unfold assertI at h
      split at h
      · cases hx
        obtain ⟨rfl, z, h1, rfl, h2⟩ := fails_run (P := P) (w := w) (β := β) hE h
        exact ⟨_, by simp [Instr.typeAssert, hu, h1], h2⟩
      · rename_i t v0 hq1 hq2
        obtain ⟨i, h1, h⟩ := obind_some h
        cases hx with
        | iface _ hv =>
          cases hm : missing ms.toList i.methods.toList with
          | true =>
            rw [hm] at h
            obtain ⟨rfl, z, h3, rfl, h4⟩ := fails_run (P := P) (w := w) (β := β) hE (show failsA E u ok = some v from h)
            obtain ⟨m, h5⟩ := missing_some hm
            exact ⟨_, by simp [Instr.typeAssert, hu, run_info hE h1, h5, h3], h4⟩
          | false =>
            rw [hm] at h
            obtain ⟨r', h3, h4⟩ := holds_run (P := P) (w := w) (VR.iface t hv) (show holdsA ok (.iface t v0) = some v from h)
            refine ⟨r', ?_, h4⟩
            rw [← h3]
            simp [Instr.typeAssert, hu, run_info hE h1, missing_none hm]
      · cases h
    · cases hd
  | none =>
    rw [hd] at h
    have h : assertC E u ok x = some v := h
    have hni : ∀ ms, d ≠ .interface ms := fun ms e => by subst e; cases hd
    unfold assertC at h
    split at h
    · cases hx
      obtain ⟨rfl, z, h1, rfl, h2⟩ := fails_run (P := P) (w := w) (β := β) hE h
      refine ⟨_, ?_, h2⟩
      simp only [Instr.typeAssert, Sem.run_bind, hu, Result.andThen_ok]
      cases d <;> first | exact absurd rfl (hni _) | simp [h1]
    · rename_i t v0 hq1 hq2
      cases hx with
      | iface _ hv =>
        cases htu : Nat.beq t u with
        | true =>
          rw [htu] at h
          have := eq_of_beq htu
          subst this
          obtain ⟨r', h3, h4⟩ := holds_run (P := P) (w := w) hv (show holdsA ok v0 = some v from h)
          refine ⟨r', ?_, h4⟩
          rw [← h3]
          simp only [Instr.typeAssert, Sem.run_bind, hu, Result.andThen_ok]
          cases d <;> first | exact absurd rfl (hni _) | simp
        | false =>
          rw [htu] at h
          have hne : ¬ t = u := fun e => by rw [e, Nat.beq_refl] at htu; cases htu
          obtain ⟨rfl, z, h1, rfl, h2⟩ := fails_run (P := P) (w := w) (β := β) hE (show failsA E u ok = some v from h)
          refine ⟨_, ?_, h2⟩
          simp only [Instr.typeAssert, Sem.run_bind, hu, Result.andThen_ok]
          cases d <;> first | exact absurd rfl (hni _) | simp [hne, h1]
    · cases h
theorem len_sim (hE : EnvOK E P) (h : Sim E β s w) {ts : Array TypeId} {t ty : TypeId} {x x' v : Value} (ht : ts[0]? = some t) (hx : VR β x x') (hl : lenB E s t x = some v) :
    (Builtin.len_ ts ty #[x']).run P w = .ok v w ∧ bare v = true := by
  unfold lenB at hl
  split at hl
  · rename_i b hu; cases hl; cases hx
    exact ⟨by simp [Builtin.len_, ht, run_und hE hu]; rfl, rfl⟩
  · rename_i n e x hu; cases hl
    refine ⟨?_, rfl⟩
    simp [Builtin.len_, ht, run_und hE hu]; rfl
  · rename_i e a n c hu; cases hl
    refine ⟨?_, rfl⟩
    cases hx <;> (simp [Builtin.len_, ht, run_und hE hu]; rfl)
  · rename_i k e hu; cases hl; cases hx
    refine ⟨?_, rfl⟩
    simp [Builtin.len_, ht, run_und hE hu]; rfl
  · rename_i k e m hu
    split at hl
    · rename_i es cl hm
      cases hl
      cases hx with
      | map hb =>
        obtain ⟨en, h4, h5⟩ := h.mapAt hb hm
        refine ⟨?_, rfl⟩
        have : es.length = en.size := by rw [h5.len]; simp
        simp [Builtin.len_, ht, run_und hE hu, getObj, Sem.run, h4, goInt, Go.goInt, this]
    · cases hl
  · cases hl
theorem cap_sim (hE : EnvOK E P) (h : Sim E β s w) {ts : Array TypeId} {t ty : TypeId} {x x' v : Value} (ht : ts[0]? = some t) (hx : VR β x x') (hl : capB E s t x = some v) :
    (Builtin.cap_ ts ty #[x']).run P w = .ok v w ∧ bare v = true := by
  unfold capB at hl
  split at hl
  · rename_i e a n c hu
    split at hl
    · rename_i hg
      cases hl
      refine ⟨?_, rfl⟩
      obtain ⟨n0, tb, e', fro, fam, hbc, hfm⟩ := inCells_some (show inCells _ _ = some false from hg)
      cases hx with
      | slice _ _ hb hm hgm hN =>
        rename_i b c' sh m' g o
        obtain ⟨arr, fro', ha, hg0, _⟩ := h.row hb hbc
        have hgn : g = none := by
          cases g with
          | none => rfl
          | some G => cases fam with | none => cases hg0 | some q => cases hfm
        rw [hgm hgn]
        simp [Builtin.cap_, ht, run_und hE hu]; rfl
      | tail _ hb =>
        simp [Builtin.cap_, ht, run_und hE hu]; rfl
    · cases hl
  · rename_i e n c hu
    cases hl; cases hx
    refine ⟨?_, rfl⟩
    simp [Builtin.cap_, ht, run_und hE hu]; rfl
  · cases hl
theorem lenOf_run {x x' : Value} {n : Nat} (hx : VR β x x') (h : lenOf x = some n) : (Builtin.lenOf x').run P w = .ok n w := by
  unfold lenOf at h
  split at h
  · cases h; cases hx <;> rfl
  · cases h; cases hx; rfl
  · cases h
theorem first_run (h : Sim E β s w) {x x' : Value} {z n : Nat} {l : List Value} (hx : VR β x x') (hf : firstCells s z n x = some l) (hn : ∀ m, lenOf x = some m → n ≤ m) :
    ∃ l', (∀ W : World, W.heap = w.heap → (Builtin.firstCells z n x').run P W = .ok l'.toArray W) ∧ All2 (VR β) l l' ∧ allOne l = true := by
  unfold firstCells at hf
  split at hf
  · rename_i b o len cap
    cases hx with
    | slice _ _ hb =>
      obtain ⟨l', h1, h2, _, h3⟩ := cells_sim (P := P) h hb hf
      exact ⟨l', fun W hW => by simpa [Builtin.firstCells] using h1 W hW, h2, h3⟩
    | tail _ hb =>
      have : n = 0 := Nat.le_zero.1 (hn 0 rfl)
      subst this
      rw [Nat.zero_mul] at hf
      cases hf
      exact ⟨[], fun W _ => by simp [Builtin.firstCells, loadCells, loadCellsFrom], .nil, rfl⟩
  · cases hf; cases hx; exact ⟨[], fun W _ => by simp [Builtin.firstCells], .nil, rfl⟩
  · rename_i b
    cases hf; cases hx
    have e : bytesOf (b.extract 0 n) = (bytesOf b).take n := by simp [bytesOf, ByteArray.data_extract, List.map_take]
    refine ⟨(bytesOf b).take n, fun W _ => ?_, (bytesOf_all b).take n, by rw [← e]; exact bytesOf_one _⟩
    rw [← e, ← bytesOf_arr]
    rfl
  · cases hf
end Go.Ev
/- Builtins; all operations but calls of functions. -/
namespace Go.Ev
variable {E : Env} {β β' : Bond} {s s' : AS} {w w' : World} {P : Program}

/-- The program's side does as the evaluator's, in terms of values. -/
def DidV (E : Env) (P : Program) (β : Bond) (s : AS) (w : World) (r : Option Value × AS) (x : Sem Value) : Prop :=
  ∃ v' w' β' u, x.run P w = .ok v' w' ∧ Post E β s w β' r.2 w' ∧ r.1 = some u ∧ VR β' u v'
theorem DidV.same (h : Sim E β s w) {x : Sem Value} {v v' : Value} (hr : x.run P w = .ok v' w) (hv : VR β v v') : DidV E P β s w (some v, s) x := ⟨v', w, β, v, hr, .refl h, rfl, hv⟩
theorem vals_some {o : Option (Value × AS)} {r : Option Value × AS} (h : vals o = some r) : ∃ v s1, o = some (v, s1) ∧ r = (some v, s1) := by
  obtain ⟨v, s1, h1, h2⟩ := pbind_some h
  cases h2
  exact ⟨v, s1, h1, rfl⟩
theorem nothing_some {o : Option AS} {r : Option Value × AS} (h : nothing o = some r) : ∃ s1, o = some s1 ∧ r = (none, s1) := by
  obtain ⟨s1, h1, h2⟩ := obind_some h
  cases h2
  exact ⟨s1, h1, rfl⟩
theorem first_zero {z : Nat} {y : Value} {l : List Value} (h : firstCells s z 0 y = some l) : l = [] := by
  unfold firstCells at h
  split at h
  · rw [Nat.zero_mul] at h; cases h; rfl
  · cases h; rfl
  · cases h; simp
  · cases h
theorem copy_sim (hE : EnvOK E P) (h : Sim E β s w) {ts : Array TypeId} {t ty : TypeId} {x x' y y' : Value} {r : Option Value × AS} (ht : ts[0]? = some t) (hx : VR β x x') (hy : VR β y y') (hr : copyB E s t x y = some r) :
    DidV E P β s w r (Builtin.copy_ ts ty #[x', y']) := by
  unfold copyB at hr
  split at hr
  · rename_i e base len cap hu
    obtain ⟨z, hz, hr1⟩ := obind_some hr
    obtain ⟨m, hm, hr2⟩ := obind_some hr1
    obtain ⟨new, hnew, hr3⟩ := obind_some hr2
    clear hr hr1 hr2
    have hr := hr3
    clear hr3
    have hlen := lenOf_run (P := P) (w := w) hy hm
    obtain ⟨new', h1, h2, h3⟩ := first_run (P := P) h hy hnew (fun m' hm' => by rw [hm] at hm'; cases hm'; exact Nat.min_le_left _ _)
    have hmin : Nat.min m len = min m len := rfl
    split at hr
    · cases hr
      cases h2
      refine ⟨goInt (min m len), w, β, _, ?_, .refl h, rfl, .int _ _⟩
      have h1 := h1 w rfl
      cases hx with
      | tail =>
        rw [Nat.min_zero] at h1
        simp [Builtin.copy_, ht, run_und hE hu, hlen, run_size hE hz, h1, storeCells, goInt, Go.goInt]
      | _ => simp [Builtin.copy_, ht, run_und hE hu, hlen, hmin, run_size hE hz, h1, storeCells, goInt, Go.goInt]
    · rename_i b o hne
      obtain ⟨s1, h4, h5⟩ := obind_some hr
      cases h5
      cases hx with
      | slice _ _ hb =>
        obtain ⟨w1, h6, p⟩ := store_sim (P := P) h hb h2 h4
        refine ⟨goInt (min m len), w1, β, _, ?_, p, rfl, .int _ _⟩
        simp [Builtin.copy_, ht, run_und hE hu, hlen, hmin, run_size hE hz, h1 w rfl, h6, goInt, Go.goInt]
      | tail _ hb =>
        -- nothing is copied
        rw [Nat.min_zero] at hnew
        exact absurd (first_zero hnew) (by assumption)
    · cases hr
  · cases hr
theorem append_core {app : Value → Sem Value} (h : Sim E β s w) {t e : TypeId} {x x' v : Value} {new new' : List Value} {n : Nat} {s1 : AS} (he : sliceElem E t = some e) (hx : VR β x x') (h3 : All2 (VR β) new new') (h4 : allOne new = true) (hr : append E s t x new n = some (v, s1))
    (HN : ∀ i zv len cap', E.ty e = some i → i.zero = some zv → (parts zv).length = i.size → new.length = n * i.size → len + n ≤ cap' → (app (.slice none len cap')).run P w = .ok (.slice none (len + n) cap') w)
    (HF : ∀ i zv len, E.ty e = some i → i.zero = some zv → (parts zv).length = i.size → new.length = n * i.size → ∀ c o cap' w', len + n ≤ cap' → (storeCells ⟨c, o + len * i.size, none⟩ new').run P w = .ok () w' → (app (.slice (some ⟨c, o, none⟩) len cap')).run P w = .ok (.slice (some ⟨c, o, none⟩) (len + n) cap') w')
    (HG : ∀ i zv len, E.ty e = some i → i.zero = some zv → (parts zv).length = i.size → new.length = n * i.size → (len + n) * (i.bytes + 1) ≤ 2 ^ 36 → ∀ (base : Option Addr) (cap' : Nat) (old' : List Value), ¬ len + n ≤ cap' → (Builtin.firstCells i.size len (.slice base len cap')).run P (drewn w) = .ok (List.toArray old') (drewn w) →
      ∃ N rest, len + n ≤ N ∧ rest.size = (N - (len + n)) * zv.cells.size ∧ (app (.slice base len cap')).run P w = .ok (.slice (some ⟨w.heap.size, 0, none⟩) (len + n) N) (push (drewn w) (.cells ((old' ++ new').toArray ++ rest) e))) :
    DidV E P β s w (some v, s1) (app x') := by
  unfold append at hr
  split at hr
  · rename_i base len cap
    obtain ⟨e', he', hr1⟩ := obind_some hr
    rw [he] at he'; cases he'
    obtain ⟨i, hi, hr2⟩ := obind_some hr1
    obtain ⟨hk, hr3⟩ := only_some hr2
    obtain ⟨zv, hzv, hr4⟩ := obind_some hr3
    obtain ⟨hzl, hr5⟩ := only_some hr4
    clear hr hr1 hr2 hr3 hr4
    have hr := hr5
    clear hr5
    have hzl := eq_of_beq hzl
    simp only [Bool.and_eq_true] at hk
    have hk1 := eq_of_beq hk.1.1
    have hk3 : (len + n) * (i.bytes + 1) ≤ 2 ^ 36 := le_of_ble hk.2
    have hsz : E.size e = some i.size := by unfold Env.size; rw [hi]; rfl
    have hd : Sim E β s (drewn w) := h.heap rfl
    have HG := HG i zv len hi hzv hzl hk1 hk3
    split at hr
    · cases hb : Nat.ble (len + n) cap with
      | true =>
        rw [hb] at hr
        obtain ⟨hc0, hr⟩ := only_some (show only _ _ = some (v, s1) from hr)
        cases hr
        cases hx
        exact ⟨_, w, β, _, HN i zv len cap hi hzv hzl hk1 (le_of_ble hb), .refl h, rfl, .nilSlice _ _⟩
      | false =>
        rw [hb] at hr
        obtain ⟨hc0, hr⟩ := only_some (show only _ _ = some (v, s1) from hr)
        simp only [Bool.and_eq_true] at hc0
        have hl0 := eq_of_beq hc0.1
        subst hl0
        cases hr
        cases hx
        have hcap : ¬ 0 + n ≤ cap := fun e => by rw [Nat.ble_eq_true_of_le e] at hb; cases hb
        obtain ⟨N, rest, hN, hrest, hrun⟩ := HG none cap [] hcap (by simp [Builtin.firstCells])
        have hnl : new'.length = n * i.size := by rw [← h3.len, hk1]
        have hsize : (([] ++ new').toArray ++ rest).size = N * i.size := by
          rw [Array.size_append, List.size_toArray, List.nil_append, hnl, hrest, parts_size, hzl, ← Nat.add_mul]; congr 1; omega
        obtain ⟨β', p, q⟩ := newRow_sim (t := ofList new 0 .nil) (n := (0 + n) * i.size) (len := 0 + n) (cap := 0 + n) (m := N) (arr := ([] ++ new').toArray ++ rest) hd hsz (0, 0) (fun k _ _ h => (Nat.not_lt_zero _ h).elim)
          (fun j u hj hg => by
            rw [get_ofList, if_pos (by rw [hk1]; rw [Nat.zero_add] at hj; omega)] at hg
            have := h3.at h4 (rest := rest) (show new[j]? = some u by simpa using hg)
            simpa using this) (by rw [hsize]; exact Nat.mul_le_mul_right _ hN) hN (by rw [hsize]; exact Nat.le_refl _)
        exact ⟨_, _, β', _, hrun, p.heapL rfl ⟨rfl, rfl, rfl⟩, rfl, q⟩
    · obtain ⟨v', w', β', h5, h6, h7⟩ := appendTo_sim (P := P) (app := app) h hi hzl hk1 h4 h3 (HF i zv len hi hzv hzl hk1) HG hx hr
      exact ⟨v', w', β', _, h5, h6, rfl, h7⟩
    · cases hr
  · cases hr
theorem append_simV (hE : EnvOK E P) (h : Sim E β s w) {ts : Array TypeId} {t ty e : TypeId} {x x' y y' v : Value} {s1 : AS} (ht : ts[0]? = some t) (h1 : ofZeros E ts.toList.tail = some false) (he : sliceElem E t = some e) (hx : VR β x x') (hy : VR β y y')
    (hr : appendV E s t e x y = some (v, s1)) : DidV E P β s w (some v, s1) (Builtin.append_ ts ty #[x', y']) := by
  obtain ⟨n, hl, hr1⟩ := obind_some hr
  obtain ⟨z, hz, hr2⟩ := obind_some hr1
  obtain ⟨new, hnew, hr3⟩ := obind_some hr2
  have hlen := fun w' => lenOf_run (P := P) (w := w') hy hl
  obtain ⟨new', h2, h3, h4⟩ := first_run (P := P) h hy hnew (fun m' hm' => by rw [hl] at hm'; cases hm'; exact Nat.le_refl _)
  have hzz : ∀ i, E.ty e = some i → z = i.size := fun i hi => by
    have : E.size e = some i.size := by unfold Env.size; rw [hi]; rfl
    rw [hz] at this; cases this; rfl
  refine append_core (app := fun x => Builtin.append_ ts ty #[x, y']) h he hx h3 h4 hr3 (fun i zv len cap' hi hzv _ _ hc => ?_) (fun i zv len hi hzv _ _ c o cap' w' hc hs => ?_) (fun i zv len hi hzv _ _ hb base cap' old' hc ho => ?_)
  · have := hzz i hi; subst this
    exact run_appendV_nil hE ht he hi h1 (hlen w) (h2 w rfl) hc
  · have := hzz i hi; subst this
    exact run_appendV_fits hE ht he hi h1 (hlen w) (h2 w rfl) hc hs
  · have := hzz i hi; subst this
    exact run_appendV_grows hE ht he hi h1 (hlen w) (h2 (drewn w) rfl) hc hzv hb ho
theorem zeros_cells {zv : Value} (n : Nat) : Builtin.zeroCells zv.cells n = (zeros (parts zv) n).toArray := by
  have hcells : zv.cells = (parts zv).toArray := by rw [← parts_eq]
  unfold Builtin.zeroCells
  apply Array.ext_getElem?
  intro i
  by_cases hi : i < n * (parts zv).length
  · have hpos : 0 < (parts zv).length := by
      rcases Nat.eq_zero_or_pos (parts zv).length with h | h
      · rw [h] at hi; simp at hi
      · exact h
    have hlt : i % (parts zv).length < (parts zv).length := Nat.mod_lt _ hpos
    rw [show (zeros (parts zv) n).toArray[i]? = (zeros (parts zv) n)[i]? from by simp, zeros_get _ _ _ hi]
    simp [hi, hcells]
    rw [List.getElem?_eq_getElem hlt]; rfl
  · have : (zeros (parts zv) n).length ≤ i := by rw [zeros_len]; omega
    rw [show (zeros (parts zv) n).toArray[i]? = (zeros (parts zv) n)[i]? from by simp, List.getElem?_eq_none this]
    simp [hcells]; omega
theorem append_simZ (hE : EnvOK E P) (h : Sim E β s w) {ts : Array TypeId} {t ty e : TypeId} {x x' y y' v : Value} {s1 : AS} (ht : ts[0]? = some t) (h1 : ofZeros E ts.toList.tail = some true) (he : sliceElem E t = some e) (hx : VR β x x') (hy : VR β y y')
    (hr : appendZ E s t e x y = some (v, s1)) : DidV E P β s w (some v, s1) (Builtin.append_ ts ty #[x', y']) := by
  obtain ⟨n, hn, hr1⟩ := obind_some hr
  obtain ⟨hn30, hr2⟩ := only_some hr1
  obtain ⟨i, hi, hr3⟩ := obind_some hr2
  obtain ⟨zv, hzv, hr4⟩ := obind_some hr3
  obtain ⟨hk, hr5⟩ := only_some hr4
  simp only [Bool.and_eq_true, Bool.or_eq_true] at hk
  have hn30 : n ≤ 2 ^ 30 := le_of_ble hn30
  have hnb : n * i.bytes ≤ 2 ^ 40 := le_of_ble hk.1.2
  obtain ⟨k, rfl⟩ := nat_some hn
  cases hy
  -- what is added
  obtain ⟨new, hnew⟩ : ∃ new, (bif Nat.beq (n * i.size) 0 then [] else zeros (parts zv) n) = new := ⟨_, rfl⟩
  rw [hnew] at hr5
  have hcell : (if n * i.size = 0 then #[] else Builtin.zeroCells zv.cells n) = new.toArray := by
    rw [← hnew]
    by_cases h0 : n * i.size = 0
    · rw [if_pos h0, h0]; rfl
    · rw [if_neg h0, show Nat.beq (n * i.size) 0 = false from Bool.eq_false_iff.2 fun e => h0 (eq_of_beq e), zeros_cells]; rfl
  have hall : All2 (VR β) new new := by
    rw [← hnew]
    cases Nat.beq (n * i.size) 0 with
    | true => exact .nil
    | false => exact zeros_all (plain_parts (β := β) hk.1.1) n
  have hone : allOne new = true := by
    unfold append at hr5
    split at hr5
    · obtain ⟨_, _, h5⟩ := obind_some hr5
      obtain ⟨_, _, h6⟩ := obind_some h5
      obtain ⟨h7, _⟩ := only_some h6
      simp only [Bool.and_eq_true] at h7
      exact h7.1.2
    · cases hr5
  have same : ∀ i' zv', E.ty e = some i' → i'.zero = some zv' → i' = i ∧ zv' = zv := fun i' zv' h5 h6 => by
    rw [hi] at h5; cases h5
    rw [hzv] at h6; cases h6
    exact ⟨rfl, rfl⟩
  refine append_core (app := fun x => Builtin.append_ ts ty #[x, .int k (n : Int)]) h he hx hall hone hr5 (fun i' zv' len cap' hi' hzv' _ _ hc => ?_) (fun i' zv' len hi' hzv' _ _ c o cap' w' hc hs => ?_) (fun i' zv' len hi' hzv' _ _ hb base cap' old' hc ho => ?_)
  · obtain ⟨rfl, rfl⟩ := same i' zv' hi' hzv'
    exact run_appendZ_nil hE ht he hi h1 hn30 hnb hzv hc
  · obtain ⟨rfl, rfl⟩ := same i' zv' hi' hzv'
    exact run_appendZ_fits hE ht he hi h1 hn30 hnb hzv hcell hc hs
  · obtain ⟨rfl, rfl⟩ := same i' zv' hi' hzv'
    exact run_appendZ_grows hE ht he hi h1 hn30 hnb hc hzv hcell hb ho
end Go.Ev
/- All operations but calls of functions. -/
namespace Go.Ev
variable {E : Env} {β β' : Bond} {s s' : AS} {w w' : World} {P : Program}

theorem DidV.next {r : Option Value × AS} {x : Sem Value} (h : DidV E P β s w r x) : Did E P β s w r.2 (do pure (.value (← x))) r.1 := by
  obtain ⟨v', w', β', u, h1, h2, h3, h4⟩ := h
  exact ⟨.value v', w', β', by simp only [Sem.run_bind, h1, Result.andThen_ok, Sem.run_pure], by rw [h3]; exact .value h4, h2⟩
theorem two {α α' : Type} {R : α → α' → Prop} {a b : α} {l : List α'} (h : All2 R [a, b] l) : ∃ a' b', l = [a', b'] ∧ R a a' ∧ R b b' := by
  cases h with
  | cons h1 h2 => cases h2 with
    | cons h3 h4 => cases h4; exact ⟨_, _, rfl, h1, h3⟩
theorem one1 {α α' : Type} {R : α → α' → Prop} {a : α} {l : List α'} (h : All2 R [a] l) : ∃ a', l = [a'] ∧ R a a' := by
  cases h with
  | cons h1 h2 => cases h2; exact ⟨_, rfl, h1⟩
theorem builtin_sim (hE : EnvOK E P) (h : Sim E β s w) {b : Builtin} {ts : Array TypeId} {ty : TypeId} {cs : Array Bool} {args args' : List Value} {r : Option Value × AS} (ha : All2 (VR β) args args') (hr : Ev.builtin E b ts.toList args s = some r) :
    Did E P β s w r.2 (Go.builtin b ts ty cs args'.toArray) r.1 := by
  obtain ⟨tl⟩ := ts
  unfold Ev.builtin at hr
  split at hr
  · rename_i t ts x heq
    cases heq
    obtain ⟨v, h1, rfl⟩ := val_some hr
    obtain ⟨x', rfl, hx⟩ := one1 ha
    obtain ⟨h2, h3⟩ := len_sim (P := P) (ts := (t :: ts).toArray) (ty := ty) hE h (by simp) hx h1
    exact DidV.next (r := (some v, s)) (.same h h2 (.bare h3))
  · rename_i t ts x heq
    cases heq
    obtain ⟨v, h1, rfl⟩ := val_some hr
    obtain ⟨x', rfl, hx⟩ := one1 ha
    obtain ⟨h2, h3⟩ := cap_sim (P := P) (ts := (t :: ts).toArray) (ty := ty) hE h (by simp) hx h1
    exact DidV.next (r := (some v, s)) (.same h h2 (.bare h3))
  · rename_i t us x y heq
    cases heq
    obtain ⟨v, s1, h1, rfl⟩ := vals_some hr
    obtain ⟨x', y', rfl, hx, hy⟩ := two ha
    obtain ⟨e, he, h1⟩ := obind_some h1
    obtain ⟨z, hz, h1⟩ := obind_some h1
    cases z with
    | true => exact DidV.next (r := (some v, s1)) (append_simZ (ts := (t :: us).toArray) hE h (by simp) hz he hx hy h1)
    | false => exact DidV.next (r := (some v, s1)) (append_simV (ts := (t :: us).toArray) hE h (by simp) hz he hx hy h1)
  · rename_i t us x y heq
    cases heq
    obtain ⟨x', y', rfl, hx, hy⟩ := two ha
    exact DidV.next (copy_sim (ts := (t :: us).toArray) hE h (by simp) hx hy hr)
  · rename_i k x k' y
    obtain ⟨hk, hr⟩ := only_some hr
    obtain ⟨v, h1, rfl⟩ := val_some hr
    cases h1
    have := kno_inj _ _ hk
    subst this
    obtain ⟨x', y', rfl, hx, hy⟩ := two ha
    cases hx; cases hy
    refine DidV.next (r := (_, s)) (.same h (v' := .int k (if y < x then y else x)) (by simp [Builtin.min_, Builtin.min2]) ?_)
    rw [ilt_eq]
    by_cases hlt : y < x
    · simp only [hlt, decide_true, cond_true, if_true]; exact .int _ _
    · simp only [hlt, decide_false, cond_false, if_false]; exact .int _ _
  · rename_i k x k' y
    obtain ⟨hk, hr⟩ := only_some hr
    obtain ⟨v, h1, rfl⟩ := val_some hr
    cases h1
    have := kno_inj _ _ hk
    subst this
    obtain ⟨x', y', rfl, hx, hy⟩ := two ha
    cases hx; cases hy
    refine DidV.next (r := (_, s)) (.same h (v' := .int k (if y > x then y else x)) (by simp [Builtin.max_, Builtin.max2]) ?_)
    rw [ilt_eq]
    by_cases hlt : x < y
    · simp only [hlt, decide_true, cond_true, if_true]; exact .int _ _
    · simp only [hlt, decide_false, cond_false, if_false]; exact .int _ _
  · cases hr

theorem did_mk (hs : Sim E β s w) {y : Sem Value} {u : Option Value} {r : Option Value × AS} (hr : val u s = some r) (hy : ∀ v, u = some v → ∃ v', y.run P w = .ok v' w ∧ VR β v v') : Did E P β s w r.2 (do pure (.value (← y))) r.1 := by
  obtain ⟨v, h1, rfl⟩ := val_some hr
  obtain ⟨v', h2, h3⟩ := hy v h1
  exact DidV.next (r := (some v, s)) (.same hs h2 h3)
theorem opt_sim {nt : Nat} {t : Fr} {a : Act} (h : Sim E β s w) (ht : TR β nt t a.tmps) {x : Option Operand} {v : Option Value} (hx : opt E t x = some v) : OR β v (x.map a.eval) := by
  unfold opt at hx
  cases x with
  | none => cases hx; exact .none
  | some x =>
    obtain ⟨u, h1, h2⟩ := obind_some hx
    cases h2
    exact .some (aval_sim h ht h1)

/-- An operation that calls no function. -/
theorem aop_sim (hE : EnvOK E P) (H : Hand) {o : Oper} {nt : Nat} {t : Fr} {a : Act} (h : Sim E β s w) (ht : TR β nt t a.tmps) {r : Option Value × AS} (hr : aop o.op E H t s = some r)
    (hnc : ∀ c f, o.op = .call c → c.callee ≠ .value f) : Did E P β s w r.2 (execOp a.eval o) r.1 := by
  have ev := fun {x : Operand} {v : Value} (hx : aval E t x = some v) => aval_sim (x := x) h ht hx
  have ae : ∀ ps : Array (Nat × Operand), Array.map (fun x => (x.fst, a.eval x.snd)) ps = (List.map (fun p => (p.fst, a.eval p.snd)) ps.toList).toArray := fun ps => by apply Array.ext'; simp
  cases hop : o.op <;> rw [hop] at hr <;> simp only [execOp, hop]
  case move x =>
    obtain ⟨v, h1, rfl⟩ := val_some (show val (aval E t x) s = some r from hr)
    exact ⟨_, w, β, rfl, .value (ev h1), .refl h⟩
  case assign x =>
    obtain ⟨v, h1, rfl⟩ := val_some (show val (aval E t x) s = some r from hr)
    exact ⟨_, w, β, rfl, .value (ev h1), .refl h⟩
  case pick c x y =>
    have hr : oPick c x y E H t s = some r := hr
    unfold oPick at hr
    split at hr
    · rename_i cb xv yv h1 h2 h3
      cases hr
      have hc := ev h1
      generalize a.eval c = c' at hc
      cases hc
      cases cb
      · exact ⟨_, w, β, by simp [asBool], .value (ev h3), .refl h⟩
      · exact ⟨_, w, β, by simp [asBool], .value (ev h2), .refl h⟩
    · cases hr
  case alloc e =>
    obtain ⟨z, hz, hr⟩ := obind_some (show oAlloc e E H t s = some r from hr)
    obtain ⟨hp, hr⟩ := only_some hr
    obtain ⟨β', h1, p, u, h2, h3⟩ := newVar_sim (P := P) (v' := z) h (by rw [parts_eq]; exact plain_parts hp) hr
    exact DidV.next ⟨_, _, β', u, by simp [Instr.alloc, run_zero hE hz, h1], p, h2, h3⟩
  case box e x =>
    obtain ⟨v, hv, hr⟩ := obind_some (show oBox e x E H t s = some r from hr)
    obtain ⟨β', h1, p, u, h2, h3⟩ := newVar_sim (P := P) (v' := a.eval x) h (by rw [parts_eq]; exact (ev hv).parts) hr
    exact DidV.next ⟨_, _, β', u, by simp [Instr.box, h1], p, h2, h3⟩
  case build ty ps =>
    obtain ⟨vs, hv, hr⟩ := obind_some (show oBuild ty ps E H t s = some r from hr)
    refine did_mk h hr fun v hb => ?_
    have := build_sim (P := P) (w := w) hE (pairs_sim h ht hv) hb
    simpa [ae] using this
  case buildSlice ty len ps =>
    obtain ⟨vs, hv, hr⟩ := obind_some (show oBuildSlice ty len ps E H t s = some r from hr)
    obtain ⟨e, he, hr⟩ := obind_some hr
    obtain ⟨z, n, hz, hr⟩ := pbind_some hr
    obtain ⟨sz, hs, hr⟩ := obind_some hr
    obtain ⟨c, hc, hr⟩ := obind_some hr
    cases hr
    obtain ⟨w', β', h1, h2, h3⟩ := buildSlice_sim (P := P) hE h (pairs_sim h ht hv) he hz hs hc
    refine DidV.next (r := (some _, _)) ⟨_, w', β', _, ?_, h2, rfl, h3⟩
    rw [← h1]
    simp [ae]
  case insert ty m k x =>
    obtain ⟨mv, hm, hr⟩ := obind_some (show oMapUpdate ty m k x E H t s = some r from hr)
    obtain ⟨kv, hk, hr⟩ := obind_some hr
    obtain ⟨xv, hx, hr⟩ := obind_some hr
    obtain ⟨s1, h1, rfl⟩ := nothing_some hr
    obtain ⟨w', h2, p⟩ := mapUpdate_sim (P := P) hE h (ev hm) (ev hk) (ev hx) h1
    exact ⟨.skip, w', β, by simp [h2], .skip, p⟩
  case mapUpdate ty m k x =>
    obtain ⟨mv, hm, hr⟩ := obind_some (show oMapUpdate ty m k x E H t s = some r from hr)
    obtain ⟨kv, hk, hr⟩ := obind_some hr
    obtain ⟨xv, hx, hr⟩ := obind_some hr
    obtain ⟨s1, h1, rfl⟩ := nothing_some hr
    obtain ⟨w', h2, p⟩ := mapUpdate_sim (P := P) hE h (ev hm) (ev hk) (ev hx) h1
    exact ⟨.skip, w', β, by simp [h2], .skip, p⟩
  case load ty x =>
    obtain ⟨v, hv, hr⟩ := obind_some (show oLoad ty x E H t s = some r from hr)
    unfold addr at hr
    split at hr
    · rename_i ad
      refine did_mk h hr fun u hl => ?_
      obtain ⟨a', u', h1, h2, h3⟩ := loadVar_sim (P := P) hE h (ev hv) hl
      exact ⟨u', by simp [Instr.loadAt, h1, Instr.sureAddr, h2], h3⟩
    · cases hr
  case store ty x y =>
    obtain ⟨v, hv, hr⟩ := obind_some (show oStore ty x y E H t s = some r from hr)
    unfold addr at hr
    split at hr
    · rename_i ad
      obtain ⟨u, hu, hr⟩ := obind_some hr
      obtain ⟨s1, h1, rfl⟩ := nothing_some hr
      obtain ⟨h2, h1⟩ := only_some h1
      obtain ⟨n, hn, h1⟩ := obind_some h1
      obtain ⟨h3, h1⟩ := only_some h1
      have h3 := eq_of_beq h3
      have hx := ev hv
      generalize a.eval x = x' at hx
      cases hx with
      | ptr o hb =>
        have hy := ev hu
        obtain ⟨w', h4, p⟩ := store_sim (P := P) h hb hy.parts h1
        refine ⟨.skip, w', β, ?_, .skip, p⟩
        have : (a.eval y).cells.size = n := by rw [parts_size, ← hy.parts.len, h3]
        simp [Instr.storeAt, Instr.sureAddr, Go.storeVar, run_size hE hn, this, parts_eq, h4]
    · cases hr
  case nilCheck x =>
    have hr : oNilCheck x E H t s = some r := hr
    unfold oNilCheck at hr
    split at hr
    · cases hr
    · cases hr
    · cases hr
    · cases hr
    · rename_i v h1 h2 h3 h4 hv
      cases hr
      have hx := ev hv
      generalize a.eval x = x' at hx
      refine ⟨.value x', w, β, ?_, .value hx, .refl h⟩
      cases hx <;> first | rfl | exact (h1 rfl).elim | exact (h2 rfl).elim | exact (h3 rfl).elim
    · cases hr
  case binOp op ty x y yt =>
    obtain ⟨u, hu, hr⟩ := obind_some (show oBin op ty x y E H t s = some r from hr)
    obtain ⟨v, hv, hr⟩ := obind_some hr
    refine did_mk h hr fun z hz => ?_
    obtain ⟨h1, h2⟩ := binOp_sim (P := P) (w := w) hE (ev hu) (ev hv) hz
    exact ⟨z, h1, .bare h2⟩
  case unOp op ty x =>
    have hr : oUn op x E H t s = some r := hr
    unfold oUn at hr
    split at hr
    · rename_i k n hv
      refine did_mk h hr fun z hz => ?_
      have hx := ev hv
      generalize a.eval x = x' at hx
      cases hx
      refine ⟨z, run_ofSem hz, ?_⟩
      cases op <;> first | (cases hz; exact .int _ _) | (cases hz; done)
    · rename_i b hv
      refine did_mk h hr fun z hz => ?_
      have hx := ev hv
      generalize a.eval x = x' at hx
      cases hx
      refine ⟨z, run_ofSem hz, ?_⟩
      cases op <;> first | (cases hz; exact .bool _) | (cases hz; done)
    · cases hr
  case convert src dst x =>
    obtain ⟨v, hv, hr⟩ := obind_some (show oConvert src dst x E H t s = some r from hr)
    have hx := ev hv
    generalize a.eval x = x' at hx
    split at hr
    · rename_i e base len cap hs hd
      refine did_mk h hr fun z hz => ?_
      exact toStr_sim (P := P) hE h hd hx hz
    · rename_i e b hs hd
      obtain ⟨v1, s1, h1, rfl⟩ := vals_some hr
      cases hx
      obtain ⟨v', w', β', h2, h3, h4⟩ := ofStr_sim (P := P) hE h hs h1
      exact DidV.next (r := (some v1, s1)) ⟨v', w', β', v1, h2, h3, rfl, h4⟩
    · refine did_mk h hr fun z hz => ?_
      obtain ⟨h1, h2⟩ := convert_sim (P := P) (w := w) hE hx hz
      exact ⟨z, h1, .bare h2⟩
  case makeInterface ty x =>
    have hr : oIface ty x E H t s = some r := hr
    unfold oIface at hr
    split at hr
    · cases hr
    · rename_i v d hni hv hu
      cases hr
      refine DidV.next (r := (some _, s)) (.same h (v' := .iface ty (a.eval x)) ?_ (.iface ty (ev hv)))
      simp only [Instr.makeInterface, Sem.run_bind, run_und hE hu, Result.andThen_ok]
      cases d <;> first | rfl | exact (hni _ _ hv hu).elim
    · cases hr
  case makeFunc fn first captured =>
    have hr : oFunc fn first captured E H t s = some r := hr
    unfold oFunc at hr
    split at hr
    · rename_i f _
      obtain ⟨as, h1, hr⟩ := obind_some hr
      obtain ⟨bs, h2, hr⟩ := obind_some hr
      cases hr
      have ha := avals_sim h ht h1
      have hb := avals_sim h ht h2
      refine DidV.next (r := (some _, s)) (.same h (v' := .func (.func f) (first.map a.eval) (captured.map a.eval)) rfl ?_)
      refine .func f (by simpa using ha.len) (by simpa using hb.len) (fun i v v' hv hv' => ?_) (fun i v v' hv hv' => ?_)
      · obtain ⟨u, h3, r⟩ := ha.get (show as[i]? = some v by simpa using hv)
        rw [show (first.map a.eval)[i]? = (first.toList.map a.eval)[i]? by simp, h3] at hv'
        cases hv'; exact r
      · obtain ⟨u, h3, r⟩ := hb.get (show bs[i]? = some v by simpa using hv)
        rw [show (captured.map a.eval)[i]? = (captured.toList.map a.eval)[i]? by simp, h3] at hv'
        cases hv'; exact r
    · cases hr
  case makeMap ty rs =>
    have hr : oMap ty rs E H t s = some r := hr
    obtain ⟨hm, hr⟩ := only_some hr
    cases hr
    have p := Post.made (o := .map #[] 0) (b := .map [] 0) (g := none) h (.map 0 .nil) (fun f rel n e => by cases e)
    refine DidV.next (r := (some _, _)) ⟨.map (some w.heap.size), _, _, _, ?_, p, rfl, .map (upd_eq _ _ _)⟩
    cases rs with
    | none => simp [Instr.makeMap, newObj, Sem.run, push]
    | some x =>
      obtain ⟨hm1, hm2⟩ : isMapT E ty = true ∧ ∃ k n, x = .const (.int k n) := by
        simp only [mapOk, Bool.and_eq_true] at hm
        refine ⟨hm.1, ?_⟩
        unfold isIntC at hm
        split at hm
        · exact ⟨_, _, rfl⟩
        · cases hm.2
      obtain ⟨k, n, rfl⟩ := hm2
      unfold isMapT at hm1
      split at hm1
      · rename_i kt et hu
        simp [Instr.makeMap, run_und hE hu, Act.eval, asInt, asIntOf, newObj, Sem.run, push]
      · cases hm1
  case makeSlice ty l c =>
    obtain ⟨lv, hl, hr1⟩ := obind_some (show oMakeSlice ty l c E H t s = some r from hr)
    obtain ⟨len, hn, hr2⟩ := obind_some hr1
    obtain ⟨cv, hc, hr3⟩ := obind_some hr2
    obtain ⟨cap, hm, hr4⟩ := obind_some hr3
    obtain ⟨e, he, hr5⟩ := obind_some hr4
    clear hr hr1 hr2 hr3 hr4
    obtain ⟨k, rfl⟩ := nat_some hn
    obtain ⟨k', rfl⟩ := nat_some hm
    have hx := ev hl
    generalize a.eval l = x' at hx
    cases hx
    have hy := ev hc
    generalize a.eval c = y' at hy
    cases hy
    obtain ⟨w', β', h1, h2, u, h3, h4⟩ := makeRow_sim (P := P) (k := k) (k' := k') hE h he hr5
    exact DidV.next ⟨_, w', β', u, h1, h2, h3, h4⟩
  case slice ty x lo hi mx =>
    obtain ⟨v, hv, hr⟩ := obind_some (show oSlice ty x lo hi mx E H t s = some r from hr)
    obtain ⟨lo', hlo, hr⟩ := obind_some hr
    obtain ⟨hi', hhi, hr⟩ := obind_some hr
    obtain ⟨mx', hmx, hr⟩ := obind_some hr
    exact did_mk h hr fun z hz => slice_sim (P := P) hE h (ev hv) (opt_sim h ht hlo) (opt_sim h ht hhi) (opt_sim h ht hmx) hz
  case fieldAddr ty x f =>
    obtain ⟨v, hv, hr⟩ := obind_some (show oFieldAddr ty x f E H t s = some r from hr)
    exact did_mk h hr fun z hz => fieldAddr_sim hE (ev hv) hz
  case field ty x f =>
    obtain ⟨v, hv, hr⟩ := obind_some (show oField ty x f E H t s = some r from hr)
    exact did_mk h hr fun z hz => field_sim hE (ev hv) hz
  case indexAddr ty x i =>
    obtain ⟨v, hv, hr⟩ := obind_some (show oIndexAddr ty x i E H t s = some r from hr)
    obtain ⟨iv, hi, hr⟩ := obind_some hr
    exact did_mk h hr fun z hz => indexAddr_sim hE (ev hv) (ev hi) hz
  case index ty x i =>
    obtain ⟨v, hv, hr⟩ := obind_some (show oIndex ty x i E H t s = some r from hr)
    obtain ⟨iv, hi, hr⟩ := obind_some hr
    exact did_mk h hr fun z hz => index_sim hE (ev hv) (ev hi) hz
  case lookup ty x k ok =>
    obtain ⟨v, hv, hr⟩ := obind_some (show oLookup ty x k ok E H t s = some r from hr)
    obtain ⟨kv, hk, hr⟩ := obind_some hr
    exact did_mk h hr fun z hz => lookup_sim hE h (ev hv) (ev hk) hz
  case range ty x =>
    have hr : oRange ty x E H t s = some r := hr
    unfold oRange at hr
    split at hr
    · rename_i b hu hv
      cases hr
      have hx := ev hv
      generalize a.eval x = x' at hx
      cases hx
      obtain ⟨w', β', h1, h2, h3⟩ := range_sim (P := P) (b := b) hE h hu
      exact DidV.next (r := (some _, _)) ⟨_, w', β', _, h1, h2, rfl, h3⟩
    · cases hr
  case next it str =>
    obtain ⟨hs, hr1⟩ := only_some (show oNext it str E H t s = some r from hr)
    clear hr
    subst hs
    split at hr1
    · rename_i rr hv
      split at hr1
      · rename_i b pos hb
        obtain ⟨v', w', h1, h2, u, h3, h4⟩ := next_sim (P := P) (ty := o.type) h (ev hv) hb hr1
        exact DidV.next ⟨v', w', β, u, h1, h2, h3, h4⟩
      · cases hr1
    · cases hr1
  case typeAssert x xt u ok =>
    obtain ⟨v, hv, hr⟩ := obind_some (show oAssert x u ok E H t s = some r from hr)
    exact did_mk h hr fun z hz => typeAssert_sim hE (ev hv) hz
  case extract x i =>
    have hr : oExtract x i E H t s = some r := hr
    unfold oExtract at hr
    split at hr
    · rename_i vs hv
      refine did_mk h hr fun z hz => ?_
      obtain ⟨vs', h1, h2⟩ := (ev hv).of_tuple
      obtain ⟨z', h3, h4⟩ := h2.get hz
      exact ⟨z', by rw [h1]; simp [Instr.extract, show vs'[i]? = some z' by simpa using h3], h4⟩
    · cases hr
  case call c =>
    obtain ⟨args, hargs, hr⟩ := obind_some (show oCall c E H t s = some r from hr)
    have hr : callOf c.callee c.argTypes.toList args E H t s = some r := hr
    unfold callOf at hr
    split at hr
    · rename_i f hf
      exact (hnc c f hop (by assumption)).elim
    · rename_i b hb
      have ha := avals_sim h ht hargs
      have := builtin_sim (P := P) (ty := o.type) (cs := c.args.map fun | .const _ => true | _ => false) hE h ha hr
      obtain ⟨res, w', β', h1, h2, h3⟩ := this
      refine ⟨res, w', β', ?_, h2, h3⟩
      rw [← h1]
      have hargs' : c.args.map a.eval = (c.args.toList.map a.eval).toArray := by apply Array.ext'; simp
      simp only [resolve, hb, Sem.run_bind, Sem.run_pure, Result.andThen_ok, hargs']
      rfl
    · cases hr
  all_goals (cases hr)
end Go.Ev
/- What an operation leaves of the evaluator's own memory. -/
namespace Go.Ev
variable {E : Env} {s s' : AS}

structure HandKept (H : Hand) : Prop where
  call : ∀ f args s r, H.call f args s = some r → Kept s r.2
  round : ∀ l args s r, H.round l args s = some r → Kept s r.2
theorem val_kept {v : Option Value} {r : Option Value × AS} (h : val v s = some r) : Kept s r.2 := by
  obtain ⟨u, _, rfl⟩ := val_some h
  exact .refl s
theorem bif_some {α : Type} {b : Bool} {x y : Option α} {r : α} (h : (bif b then x else y) = some r) : x = some r ∨ y = some r := by
  cases b
  · exact .inr h
  · exact .inl h
theorem append_kept {t : TypeId} {x : Value} {new : List Value} {k : Nat} {r : Value × AS} (hr : append E s t x new k = some r) : Kept s r.2 := by
  unfold append at hr
  split at hr
  · obtain ⟨_, _, hr⟩ := obind_some hr
    obtain ⟨_, _, hr⟩ := obind_some hr
    obtain ⟨_, hr⟩ := only_some hr
    obtain ⟨_, _, hr⟩ := obind_some hr
    obtain ⟨_, hr⟩ := only_some hr
    split at hr
    · rcases bif_some hr with hr | hr
      · obtain ⟨_, hr⟩ := only_some hr
        cases hr; exact .refl s
      · obtain ⟨_, hr⟩ := only_some hr
        cases hr; exact (Kept.alloc s _).trans (.alloc _ _)
    · exact appendTo_kept (v := r.1) (s' := r.2) hr
    · cases hr
  · cases hr
theorem copy_kept {t : TypeId} {x y : Value} {r : Option Value × AS} (hr : copyB E s t x y = some r) : Kept s r.2 := by
  unfold copyB at hr
  split at hr
  · obtain ⟨_, _, hr⟩ := obind_some hr
    obtain ⟨_, _, hr⟩ := obind_some hr
    obtain ⟨_, _, hr⟩ := obind_some hr
    split at hr
    · cases hr; exact .refl s
    · obtain ⟨_, h1, hr⟩ := obind_some hr
      cases hr
      exact store_kept h1
    · cases hr
  · cases hr
theorem builtin_kept {b : Builtin} {ts : List TypeId} {args : List Value} {r : Option Value × AS} (hr : builtin E b ts args s = some r) : Kept s r.2 := by
  unfold builtin at hr
  split at hr
  · exact val_kept hr
  · exact val_kept hr
  · obtain ⟨v, s1, h1, rfl⟩ := vals_some hr
    obtain ⟨e, he, h1⟩ := obind_some h1
    obtain ⟨z, hz, h1⟩ := obind_some h1
    cases z with
    | true =>
      obtain ⟨_, _, h1⟩ := obind_some (show appendZ E s _ e _ _ = some (v, s1) from h1)
      obtain ⟨_, h1⟩ := only_some h1
      obtain ⟨_, _, h1⟩ := obind_some h1
      obtain ⟨_, _, h1⟩ := obind_some h1
      obtain ⟨_, h1⟩ := only_some h1
      exact append_kept h1
    | false =>
      obtain ⟨_, _, h1⟩ := obind_some (show appendV E s _ e _ _ = some (v, s1) from h1)
      obtain ⟨_, _, h1⟩ := obind_some h1
      obtain ⟨_, _, h1⟩ := obind_some h1
      exact append_kept h1
  · exact copy_kept hr
  · obtain ⟨_, hr⟩ := only_some hr
    exact val_kept hr
  · obtain ⟨_, hr⟩ := only_some hr
    exact val_kept hr
  · cases hr
theorem invoke_kept {H : Hand} (hH : HandKept H) {f : Value} {args : List Value} {r : Value × AS} (hr : invoke H f args s = some r) : Kept s r.2 := by
  unfold invoke at hr
  split at hr
  · exact hH.call _ _ _ _ hr
  · exact hH.round _ _ _ _ hr
  · cases hr
theorem newVar_kept {t : TypeId} {vs : List Value} {r : Option Value × AS} (hr : newVar s t vs = some r) : Kept s r.2 := by
  obtain ⟨_, h2⟩ := only_some hr
  cases h2
  exact .alloc _ _
theorem mapUpdate_kept {t : TypeId} {x k v : Value} (hr : mapUpdate E s t x k v = some s') : Kept s s' := by
  unfold mapUpdate at hr
  split at hr
  · split at hr
    · split at hr
      · cases hr; exact .put _ _ _
      · cases hr
    · cases hr
  · cases hr
theorem aop_kept {H : Hand} (hH : HandKept H) {o : Op} {t : Fr} {r : Option Value × AS} (hr : aop o E H t s = some r) : Kept s r.2 := by
  cases o
  case move x => exact val_kept (show val (aval E t x) s = some r from hr)
  case assign x => exact val_kept (show val (aval E t x) s = some r from hr)
  case pick c x y =>
    have hr : oPick c x y E H t s = some r := hr
    unfold oPick at hr
    split at hr <;> first | (cases hr; exact .refl s) | cases hr
  case alloc e =>
    obtain ⟨_, _, hr⟩ := obind_some (show oAlloc e E H t s = some r from hr)
    obtain ⟨_, hr⟩ := only_some hr
    exact newVar_kept hr
  case box e x =>
    obtain ⟨_, _, hr⟩ := obind_some (show oBox e x E H t s = some r from hr)
    exact newVar_kept hr
  case build ty ps =>
    obtain ⟨_, _, hr⟩ := obind_some (show oBuild ty ps E H t s = some r from hr)
    exact val_kept hr
  case buildSlice ty len ps =>
    obtain ⟨_, _, hr⟩ := obind_some (show oBuildSlice ty len ps E H t s = some r from hr)
    obtain ⟨_, _, hr⟩ := obind_some hr
    obtain ⟨_, _, _, hr⟩ := pbind_some hr
    obtain ⟨_, _, hr⟩ := obind_some hr
    obtain ⟨_, _, hr⟩ := obind_some hr
    cases hr
    exact .alloc _ _
  case insert ty m k x =>
    obtain ⟨_, _, hr⟩ := obind_some (show oMapUpdate ty m k x E H t s = some r from hr)
    obtain ⟨_, _, hr⟩ := obind_some hr
    obtain ⟨_, _, hr⟩ := obind_some hr
    obtain ⟨s1, h1, rfl⟩ := nothing_some hr
    exact mapUpdate_kept h1
  case mapUpdate ty m k x =>
    obtain ⟨_, _, hr⟩ := obind_some (show oMapUpdate ty m k x E H t s = some r from hr)
    obtain ⟨_, _, hr⟩ := obind_some hr
    obtain ⟨_, _, hr⟩ := obind_some hr
    obtain ⟨s1, h1, rfl⟩ := nothing_some hr
    exact mapUpdate_kept h1
  case load ty x =>
    obtain ⟨_, _, hr⟩ := obind_some (show oLoad ty x E H t s = some r from hr)
    unfold addr at hr
    split at hr <;> first | exact val_kept hr | cases hr
  case store ty x y =>
    obtain ⟨_, _, hr⟩ := obind_some (show oStore ty x y E H t s = some r from hr)
    unfold addr at hr
    split at hr
    · obtain ⟨_, _, hr⟩ := obind_some hr
      obtain ⟨s1, h1, rfl⟩ := nothing_some hr
      obtain ⟨_, h1⟩ := only_some h1
      obtain ⟨_, _, h1⟩ := obind_some h1
      obtain ⟨_, h1⟩ := only_some h1
      exact store_kept h1
    · cases hr
  case nilCheck x =>
    have hr : oNilCheck x E H t s = some r := hr
    unfold oNilCheck at hr
    split at hr <;> first | (cases hr; exact .refl s) | (cases hr; done)
  case binOp op ty x y yt =>
    obtain ⟨_, _, hr⟩ := obind_some (show oBin op ty x y E H t s = some r from hr)
    obtain ⟨_, _, hr⟩ := obind_some hr
    exact val_kept hr
  case unOp op ty x =>
    have hr : oUn op x E H t s = some r := hr
    unfold oUn at hr
    split at hr <;> first | exact val_kept hr | cases hr
  case convert src dst x =>
    obtain ⟨_, _, hr⟩ := obind_some (show oConvert src dst x E H t s = some r from hr)
    split at hr
    · exact val_kept hr
    · obtain ⟨v1, s1, h1, rfl⟩ := vals_some hr
      obtain ⟨_, _, h1⟩ := obind_some h1
      split at h1
      · obtain ⟨_, _, h1⟩ := obind_some h1
        obtain ⟨_, h1⟩ := only_some h1
        cases h1
        exact (Kept.alloc s _).trans (.alloc _ _)
      · cases h1
    · exact val_kept hr
  case makeInterface ty x =>
    have hr : oIface ty x E H t s = some r := hr
    unfold oIface at hr
    split at hr <;> first | (cases hr; exact .refl s) | cases hr
  case makeFunc fn first captured =>
    have hr : oFunc fn first captured E H t s = some r := hr
    unfold oFunc at hr
    split at hr
    · obtain ⟨_, _, hr⟩ := obind_some hr
      obtain ⟨_, _, hr⟩ := obind_some hr
      cases hr; exact .refl s
    · cases hr
  case makeMap ty rs =>
    obtain ⟨_, hr⟩ := only_some (show oMap ty rs E H t s = some r from hr)
    cases hr
    exact .alloc _ _
  case makeSlice ty l c =>
    obtain ⟨_, _, hr⟩ := obind_some (show oMakeSlice ty l c E H t s = some r from hr)
    obtain ⟨_, _, hr⟩ := obind_some hr
    obtain ⟨_, _, hr⟩ := obind_some hr
    obtain ⟨_, _, hr⟩ := obind_some hr
    obtain ⟨_, _, hr⟩ := obind_some hr
    obtain ⟨_, _, hr⟩ := obind_some hr
    obtain ⟨_, hr⟩ := only_some hr
    obtain ⟨_, _, _, hr⟩ := pbind_some hr
    cases hr
    exact .alloc _ _
  case slice ty x lo hi mx =>
    obtain ⟨_, _, hr⟩ := obind_some (show oSlice ty x lo hi mx E H t s = some r from hr)
    obtain ⟨_, _, hr⟩ := obind_some hr
    obtain ⟨_, _, hr⟩ := obind_some hr
    obtain ⟨_, _, hr⟩ := obind_some hr
    exact val_kept hr
  case fieldAddr ty x f =>
    obtain ⟨_, _, hr⟩ := obind_some (show oFieldAddr ty x f E H t s = some r from hr)
    exact val_kept hr
  case field ty x f =>
    obtain ⟨_, _, hr⟩ := obind_some (show oField ty x f E H t s = some r from hr)
    exact val_kept hr
  case indexAddr ty x i =>
    obtain ⟨_, _, hr⟩ := obind_some (show oIndexAddr ty x i E H t s = some r from hr)
    obtain ⟨_, _, hr⟩ := obind_some hr
    exact val_kept hr
  case index ty x i =>
    obtain ⟨_, _, hr⟩ := obind_some (show oIndex ty x i E H t s = some r from hr)
    obtain ⟨_, _, hr⟩ := obind_some hr
    exact val_kept hr
  case lookup ty x k ok =>
    obtain ⟨_, _, hr⟩ := obind_some (show oLookup ty x k ok E H t s = some r from hr)
    obtain ⟨_, _, hr⟩ := obind_some hr
    exact val_kept hr
  case range ty x =>
    have hr : oRange ty x E H t s = some r := hr
    unfold oRange at hr
    split at hr <;> first | (cases hr; exact .alloc _ _) | cases hr
  case next it str =>
    obtain ⟨_, hr⟩ := only_some (show oNext it str E H t s = some r from hr)
    split at hr
    · split at hr
      · unfold nextStr at hr
        rcases bif_some hr with hr | hr <;> (cases hr; first | exact .put _ _ _ | exact .refl s)
      · cases hr
    · cases hr
  case typeAssert x xt u ok =>
    obtain ⟨_, _, hr⟩ := obind_some (show oAssert x u ok E H t s = some r from hr)
    exact val_kept hr
  case extract x i =>
    have hr : oExtract x i E H t s = some r := hr
    unfold oExtract at hr
    split at hr <;> first | exact val_kept hr | cases hr
  case call c =>
    obtain ⟨args, _, hr⟩ := obind_some (show oCall c E H t s = some r from hr)
    have hr : callOf c.callee c.argTypes.toList args E H t s = some r := hr
    unfold callOf at hr
    split at hr
    · obtain ⟨_, _, hr⟩ := obind_some hr
      obtain ⟨v1, s1, h1, rfl⟩ := vals_some hr
      exact invoke_kept hH h1
    · exact builtin_kept hr
    · cases hr
  all_goals (cases hr)

theorem aops_kept {H : Hand} (hH : HandKept H) {nt : Nat} {all : Array Oper} : ∀ (l : List Oper) {t : Fr} {s : AS} {r : Fr × AS}, aops E H nt all l t s = some r → Kept s r.2 := by
  intro l
  induction l with
  | nil => intro t s r h; cases h; exact .refl s
  | cons o l ih =>
    intro t s r h
    obtain ⟨b, _, h⟩ := obind_some (show obind (wanted all t o.guard) _ = some r from h)
    cases b with
    | false =>
      obtain ⟨t', _, h⟩ := obind_some (show obind (putDst nt t o.dst none) _ = some r from h)
      exact ih h
    | true =>
      obtain ⟨v, s1, h1, h⟩ := pbind_some (show pbind (aop o.op E H t s) _ = some r from h)
      obtain ⟨t', _, h⟩ := obind_some h
      exact (aop_kept hH h1).trans (ih h)
theorem mem_keepBelow {m j : Nat} : ∀ {l w : List Nat}, j ∈ keepBelow m l w ↔ (j ∈ l ∧ j < m) ∨ j ∈ w := by
  intro l
  induction l with
  | nil => intro w; simp [keepBelow]
  | cons i l ih =>
    intro w
    unfold keepBelow
    by_cases h : i < m
    · rw [Nat.ble_eq_true_of_le (show Nat.succ i ≤ m from h)]
      show j ∈ i :: keepBelow m l w ↔ _
      rw [List.mem_cons, ih, List.mem_cons]
      constructor
      · rintro (rfl | ⟨h1, h2⟩ | h1)
        · exact .inl ⟨.inl rfl, h⟩
        · exact .inl ⟨.inr h1, h2⟩
        · exact .inr h1
      · rintro (⟨rfl | h1, h2⟩ | h1)
        · exact .inl rfl
        · exact .inr (.inl ⟨h1, h2⟩)
        · exact .inr (.inr h1)
    · rw [show Nat.ble (Nat.succ i) m = false from Bool.eq_false_iff.2 fun e => h (le_of_ble e)]
      show j ∈ keepBelow m l w ↔ _
      rw [ih, List.mem_cons]
      constructor
      · rintro (⟨h1, h2⟩ | h1)
        · exact .inl ⟨.inr h1, h2⟩
        · exact .inr h1
      · rintro (⟨rfl | h1, h2⟩ | h1)
        · exact absurd h2 h
        · exact .inl ⟨h1, h2⟩
        · exact .inr h1
/-- Out of an operation's own reckoning of what it wrote. -/
theorem Kept.out {s s1 : AS} (h : Kept ⟨s.heap, s.next, s.next, []⟩ s1) : Kept s ⟨s1.heap, s1.next, s.mark, keepBelow s.mark s1.wr s.wr⟩ :=
  ⟨rfl, h.next, fun _ hj => mem_keepBelow.2 (.inr hj), fun j h1 h2 h3 => h.keep j h1 h1 fun e => h3 (mem_keepBelow.2 (.inl ⟨e, h2⟩))⟩
end Go.Ev
/- Calls; regions in the text's order. -/
namespace Go.Ev
variable {E : Env} {β β' : Bond} {s s' : AS} {w w' : World} {P : Program}

/-- The fence that lets all in; in a round, or not. -/
def Fw (rnd : Option Nat) : Fence := { Fence.wide with round := rnd }
theorem fw_fn (rnd : Option Nat) (f : FuncId) : (Fw rnd).fn f := trivial
theorem fw_depth (rnd : Option Nat) {n : Nat} : (Fw rnd).depth.isSome = true → 1 ≤ n := fun h => by cases h

/-- How a call ends that the evaluator tells. -/
def Ends (E : Env) (β : Bond) (s : AS) (w : World) (r : Value × AS) : Ending → World → Prop := fun e w' => ∃ v' β', e = .returned v' ∧ Post E β s w β' r.2 w' ∧ VR β' r.1 v'
structure HandOK (E : Env) (P : Program) (H : Hand) : Prop where
  kept : HandKept H
  call : ∀ f args s r, H.call f args s = some r → ∀ β w args', Sim E β s w → All2 (VR β) args args' →
    (callFunc f args'.toArray).run P w = .ok (.enter f args'.toArray) w ∧ ∀ n, CallsIn (Fw none) n P f args'.toArray w (Ends E β s w r)
  round : ∀ l args s r, H.round l args s = some r → ∀ β w args' c sh g, Sim E β s w → β l = some (c, sh, g) → All2 (VR β) args args' →
    ∃ f tmps as bd, (Instr.yield c args'.toArray).run P w = .ok (.round c f tmps as bd) w ∧ ∀ n, RoundIn (Fw none) n P c f tmps as bd w (Ends E β s w r)

/-- What is to be shown behind an operation. -/
def Goes (E : Env) (β : Bond) (s : AS) (w : World) (a : Act) (dst : Option Tmp) (r : Option Value × AS) (K : Act → World → Prop) : Prop :=
  ∀ v' w' β', Post E β s w β' r.2 w' → (∀ v, r.1 = some v → VR β' v v') → (r.1 = none → v' = undef) → K (a.put dst v') w'

theorem invoke_sim {H : Hand} (hH : HandOK E P H) (h : Sim E β s w) {fv fv' : Value} {args args' : List Value} {r : Value × AS} (hf : VR β fv fv') (ha : All2 (VR β) args args') (hr : Ev.invoke H fv args s = some r) :
    ∃ d, (Deferred.ofValue fv' args'.toArray).run P w = .ok d w ∧
      ((∃ f as, (Go.invoke d.target d.args).run P w = .ok (.enter f as) w ∧ ∀ n, CallsIn (Fw none) n P f as w (Ends E β s w r)) ∨
       (∃ l f tmps as bd, (Go.invoke d.target d.args).run P w = .ok (.round l f tmps as bd) w ∧ ∀ n, RoundIn (Fw none) n P l f tmps as bd w (Ends E β s w r))) := by
  unfold Ev.invoke at hr
  split at hr
  · rename_i g first captured
    cases hf with
    | func _ h1 h2 h3 h4 =>
      rename_i first' captured'
      have hall : All2 (VR β) (first.toList ++ args ++ captured.toList) (first'.toList ++ args' ++ captured'.toList) :=
        ((All2.of_get (by simpa using h1) fun i x y hx hy => h3 i x y (by simpa using hx) (by simpa using hy)).append ha).append (All2.of_get (by simpa using h2) fun i x y hx hy => h4 i x y (by simpa using hx) (by simpa using hy))
      obtain ⟨h5, h6⟩ := hH.call _ _ _ _ hr β w _ h hall
      have e : (first' ++ args'.toArray) ++ captured' = (first'.toList ++ args' ++ captured'.toList).toArray := by apply Array.ext'; simp
      refine ⟨{ target := .fn (.func g) captured', args := first' ++ args'.toArray }, rfl, .inl ⟨g, _, ?_, h6⟩⟩
      rw [← h5, ← e]
      rfl
  · rename_i l first captured
    cases hf with
    | yield hb =>
      obtain ⟨f, tmps, as, bd, h5, h6⟩ := hH.round _ _ _ _ hr β w _ _ _ _ h hb (show All2 (VR β) ((#[] : Array Value).toList ++ args) args' from ha)
      refine ⟨{ target := .fn (.yield _) #[], args := #[] ++ args'.toArray }, rfl, .inr ⟨_, f, tmps, as, bd, ?_, h6⟩⟩
      rw [← h5]
      simp [Go.invoke]
  · cases hr
theorem oper_wp (hE : EnvOK E P) {H : Hand} (hH : HandOK E P H) {rnd : Option Nat} {n nt : Nat} {o : Oper} {t : Fr} {a : Act} {Q : Exit → Act → World → Prop} {K : Act → World → Prop} (h : Sim E β s w) (ht : TR β nt t a.tmps)
    {r : Option Value × AS} (hr : aop o.op E H t s = some r) (hK : Goes E β s w a o.dst r K) : o.wpIn (Fw rnd) n P a w K Q := by
  refine ⟨fun f _ => fw_fn rnd f, ?_⟩
  have hnd : ∀ c, o.op ≠ .defer c := fun c e => by rw [e] at hr; cases hr
  have hrnd : (Fw rnd).round = rnd := rfl
  rw [Oper.semAt_eq _ _ _ hnd]
  by_cases hcall : ∃ c f, o.op = .call c ∧ c.callee = .value f
  · obtain ⟨c, f, hop, hc⟩ := hcall
    rw [hop] at hr
    obtain ⟨args, hargs, hr⟩ := obind_some (show oCall c E H t s = some r from hr)
    have hr : callOf c.callee c.argTypes.toList args E H t s = some r := hr
    rw [hc] at hr
    obtain ⟨fv, hf, hr⟩ := obind_some (show obind (aval E t f) _ = some r from hr)
    obtain ⟨v1, s1, h1, rfl⟩ := vals_some hr
    have ha := avals_sim h ht hargs
    obtain ⟨d, hd, hinv⟩ := invoke_sim hH h (aval_sim h ht hf) ha h1
    have hargs' : c.args.map a.eval = (c.args.toList.map a.eval).toArray := by apply Array.ext'; simp
    have hex : (execOp a.eval o).run P w = (Go.invoke d.target d.args).run P w := by
      simp only [execOp, hop, resolve, hc, hargs', Sem.run_bind, hd, Result.andThen_ok]
    have hends : ∀ e w', Ends E β s w (v1, s1) e w' → (match e, w' with
        | .returned v, w'' => K (a.put o.dst v) w''
        | .panicked chain, w'' => Q (.panic chain) a w''
        | .outgrown, _ => LetsOut Q) := by
      rintro e w' ⟨v', β', rfl, p, hv⟩
      exact hK v' w' β' p (fun v e => by cases e; exact hv) (fun e => by cases e)
    rw [hex]
    rcases hinv with ⟨f', as, h2, h3⟩ | ⟨l, f', tmps, as, bd, h2, h3⟩
    · rw [h2]
      refine ⟨fw_depth rnd, ?_⟩
      have h4 := h3 (n - 1)
      refine ⟨trivial, fun cs hroom => ?_⟩
      obtain ⟨e, w', fr, h5, h6⟩ := h4.2 cs hroom
      exact ⟨e, w', fr, by have := hends e w' h5; cases e <;> exact this, h6⟩
    · rw [h2]
      refine ⟨fw_depth rnd, ?_⟩
      have h4 := h3 (n - 1)
      exact RoundIn.mono h4 fun e w' h5 => by have := hends e w' h5; cases e <;> exact this
  · obtain ⟨res, w', β', h1, h2, h3⟩ := aop_sim (P := P) hE H h ht hr (fun c f e1 e2 => hcall ⟨c, f, e1, e2⟩)
    rw [h1]
    generalize hr1 : r.1 = r1 at h2
    cases h2 with
    | value hv => exact hK _ w' β' h3 (fun v e => by rw [hr1] at e; cases e; exact hv) (fun e => by rw [hr1] at e; cases e)
    | skip => exact hK _ w' β' h3 (fun v e => by rw [hr1] at e; cases e) (fun _ => rfl)

/-! guards, slots -/
theorem putDst_sim {nt : Nat} {t t' : Fr} {a : Act} {dst : Option Tmp} {v : Option Value} {v' : Value} (ht : TR β nt t a.tmps) (hp : putDst nt t dst v = some t') (hv : ∀ u, v = some u → VR β u v') (hn : v = none → v' = undef) : TR β nt t' (a.put dst v').tmps := by
  cases dst with
  | none => cases hp; exact ht
  | some d =>
    obtain ⟨h1, h2⟩ := only_some hp
    cases h2
    refine ht.put (le_of_ble h1) ?_
    cases v with
    | none => rw [hn rfl]; exact .tuple rfl (fun i v v' h => by simp at h)
    | some u => exact hv u rfl
theorem wanted_sim {nt : Nat} {t : Fr} {a : Act} {all : Array Oper} {o : Oper} {b : Bool} (ht : TR β nt t a.tmps) (hw : wanted all t o.guard = some b) : Region.wanted o (yielded all a.tmps) = b := by
  unfold Region.wanted
  cases hg : o.guard with
  | none => rw [hg] at hw; cases hw; rfl
  | some p =>
    obtain ⟨j, want⟩ := p
    rw [hg] at hw
    have hw : yieldedAt all.toList t j want = some b := hw
    unfold yieldedAt at hw
    split at hw
    · rename_i q hq
      split at hw
      · rename_i d hd
        have hy : ∀ v', a.tmps[d]? = some v' → yielded all a.tmps j = match v' with | .bool b => some b | _ => none := by
          intro v' hv'
          unfold yielded
          rw [show all[j]? = some q by simpa using hq]
          simp only [Option.bind_some, hd, hv']
          cases v' <;> rfl
        split at hw
        · rename_i b' hb
          cases hw
          obtain ⟨v', h1, h2⟩ := ht.get d _ hb
          cases h2
          show (yielded all a.tmps j == some want) = (b' == want)
          rw [hy _ h1]
          rfl
        · rename_i vs hb
          cases hw
          obtain ⟨v', h1, h2⟩ := ht.get d _ hb
          obtain ⟨vs', rfl, _⟩ := h2.of_tuple
          show (yielded all a.tmps j == some want) = false
          rw [hy _ h1]
          rfl
        · cases hw
      · cases hw
    · cases hw

/-- A region in the text's order. -/
theorem aops_sim (hE : EnvOK E P) {H : Hand} (hH : HandOK E P H) {rnd : Option Nat} {n nt : Nat} {all : Array Oper} {Q : Exit → Act → World → Prop} : ∀ (l : List Oper) (k : Nat) {β : Bond} {s : AS} {w : World} {t : Fr} {a : Act} {r : Fr × AS},
    l = all.toList.drop k → Sim E β s w → TR β nt t a.tmps → aops E H nt all l t s = some r →
    (∀ a' w' β', a'.defers = a.defers → Post E β s w β' r.2 w' → TR β' nt r.1 a'.tmps → Q .normal a' w') → wpOpsIn (Fw rnd) n P all Q ((List.range all.size).drop k) a w := by
  intro l
  induction l with
  | nil =>
    intro k β s w t a r hl h ht hr hQ
    cases hr
    have hk : all.size ≤ k := by
      have := congrArg List.length hl
      simp at this
      omega
    rw [List.drop_eq_nil_of_le (by simpa using hk)]
    exact hQ a w β rfl (.refl h) ht
  | cons o l ih =>
    intro k β s w t a r hl h ht hr hQ
    have hlen := congrArg List.length hl
    simp at hlen
    have hk : k < all.size := by omega
    have ho : all[k]? = some o := by
      have : (all.toList.drop k)[0]? = some o := by rw [← hl]; rfl
      simpa using this
    have hl' : l = all.toList.drop (k + 1) := by
      have := congrArg List.tail hl
      simpa using this
    have hdrop : (List.range all.size).drop k = k :: (List.range all.size).drop (k + 1) := by
      rw [List.drop_eq_getElem_cons (by simpa using hk)]; simp
    rw [hdrop]
    obtain ⟨b, hw, hr⟩ := obind_some (show obind (wanted all t o.guard) _ = some r from hr)
    have hwant := wanted_sim ht hw
    simp only [wpOpsIn, ho]
    rw [hwant]
    cases b with
    | false =>
      obtain ⟨t', hp, hr⟩ := obind_some (show obind (putDst nt t o.dst none) _ = some r from hr)
      rw [if_neg (by decide)]
      refine ⟨fun f _ => fw_fn rnd f, ?_⟩
      refine ih (k + 1) hl' h (putDst_sim ht hp (fun u e => by cases e) (fun _ => rfl)) hr fun a' w' β' hd p ht' => hQ a' w' β' ?_ p ht'
      rw [hd]; cases o.dst <;> rfl
    | true =>
      obtain ⟨v, s1, h1, hr⟩ := pbind_some (show pbind (aop o.op E H t s) _ = some r from hr)
      obtain ⟨t', hp, hr⟩ := obind_some hr
      rw [if_pos rfl]
      have hk1 := aop_kept hH.kept h1
      refine oper_wp hE hH h ht h1 fun v' w' β' p hv hn => ?_
      refine ih (k + 1) hl' p.sim (putDst_sim (ht.ext p.ext) hp hv hn) hr fun a' w'' β'' hd p' ht' => hQ a' w'' β'' ?_ (p.trans p' hk1 ?_) ht'
      · rw [hd]; cases o.dst <;> rfl
      · exact aops_kept hH.kept l hr
end Go.Ev
/- What code leaves of the evaluator's own memory. -/
namespace Go.Ev
variable {E : Env} {s s' : AS}

theorem after_some {r : Out} {k : Act'} {e : AExit → Act'} {x : AExit × Fr × List Nat × AS} (h : after r k e = some x) :
    ∃ ex t d s, r = some (ex, t, d, s) ∧ ((ex = .normal ∧ k t d s = some x) ∨ (ex ≠ .normal ∧ e ex t d s = some x)) := by
  cases r with
  | none => cases h
  | some p =>
    obtain ⟨ex, t, d, s⟩ := p
    cases ex with
    | normal => exact ⟨_, t, d, s, rfl, .inl ⟨rfl, h⟩⟩
    | exit id => exact ⟨_, t, d, s, rfl, .inr ⟨by simp, h⟩⟩
    | ret => exact ⟨_, t, d, s, rfl, .inr ⟨by simp, h⟩⟩
/-- The marks of memory stand below its end. -/
def Low (s : AS) : Prop := s.mark ≤ s.next
theorem aopsD_kept {H : Hand} (hH : HandKept H) {nt : Nat} {all : Array Oper} : ∀ (l : List Oper) {bs : List Nat} {i : Nat} {p : Past} {t : Fr} {s : AS} {r : Fr × AS}, aopsD E H nt all l bs i p t s = some r → Kept s r.2 := by
  intro l
  induction l with
  | nil => intro bs i p t s r h; cases h; exact .refl s
  | cons o l ih =>
    intro bs i p t s r h
    cases bs with
    | nil => cases h
    | cons b bs =>
      obtain ⟨g, _, h⟩ := obind_some (show obind (wanted all t o.guard) _ = some r from h)
      cases g with
      | false =>
        simp only [cond_false] at h
        obtain ⟨t', _, h⟩ := obind_some h
        exact ih h
      | true =>
        simp only [cond_true] at h
        obtain ⟨v, s1, h1, h⟩ := pbind_some h
        obtain ⟨t', _, h⟩ := obind_some h
        obtain ⟨p', _, h⟩ := obind_some h
        exact (Kept.out (aop_kept hH h1)).trans (ih h)
theorem invokeF_kept {H : Hand} (hH : HandKept H) {f : Value} {args : List Value} {r : Value × AS} (hr : invokeF H f args s = some r) : Kept s r.2 := by
  unfold invokeF at hr
  split at hr
  · exact hH.call _ _ _ _ hr
  · cases hr
theorem overAt_kept {l : Nat} {dl : List Nat} {t : Fr} {d : List Nat} {x : AExit × Fr × List Nat × AS} (h : overAt l dl t d s = some x) : Kept s x.2.2.2 := by
  unfold overAt at h
  split at h
  · split at h <;> first | (cases h; done) | (cases h; exact .put _ _ _)
  · cases h
theorem loopN_kept {f : Act'} (hf : ∀ t d s x, f t d s = some x → Kept s x.2.2.2) : ∀ n t d s x, loopN f n t d s = some x → Kept s x.2.2.2 := by
  intro n
  induction n with
  | zero => intro t d s x h; cases h
  | succ n ih =>
    intro t d s x h
    obtain ⟨ex, t1, d1, s1, h1, h2⟩ := after_some (show after (f t d s) (loopN f n) out = some x from h)
    rcases h2 with ⟨_, h2⟩ | ⟨_, h2⟩
    · exact (hf _ _ _ _ h1).trans (ih _ _ _ _ h2)
    · cases h2; have := hf _ _ _ _ h1; exact this
theorem acode_kept {H : Hand} (hH : HandKept H) {nt : Nat} {rnd : Option Nat} (c : Code) : ∀ t d s x, acode E H nt rnd c t d s = some x → Kept s x.2.2.2 := by
  induction c with
  | skip => intro t d s x h; cases h; exact .refl s
  | label l => intro t d s x h; cases h; exact .refl s
  | exit id => intro t d s x h; cases h; exact .refl s
  | ret => intro t d s x h; cases h; exact .refl s
  | goto l => intro t d s x h; cases h
  | refuse y => intro t d s x h; cases h
  | scope b ih => intro t d s x h; cases h
  | region id ops draw =>
    intro t d s x h
    have h : region E H nt ops draw t d s = some x := h
    unfold region at h
    obtain ⟨t', s', h1, h2⟩ := pbind_some h
    cases h2
    cases draw with
    | true => exact aopsD_kept hH _ (show _ from h1)
    | false => exact aops_kept hH _ (show _ from h1)
  | seq a b iha ihb =>
    intro t d s x h
    obtain ⟨ex, t1, d1, s1, h1, h2⟩ := after_some (show after (acode E H nt rnd a t d s) (acode E H nt rnd b) out = some x from h)
    rcases h2 with ⟨_, h2⟩ | ⟨_, h2⟩
    · exact (iha _ _ _ _ h1).trans (ihb _ _ _ _ h2)
    · cases h2; have := iha _ _ _ _ h1; exact this
  | cond y a b iha ihb =>
    intro t d s x h
    have h : branch E y (acode E H nt rnd a) (acode E H nt rnd b) t d s = some x := h
    unfold branch at h
    split at h
    · rename_i c _
      cases c with
      | true => exact iha _ _ _ _ h
      | false => exact ihb _ _ _ _ h
    · cases h
  | block id c ih =>
    intro t d s x h
    obtain ⟨ex, t1, d1, s1, h1, h2⟩ := after_some (show after (acode E H nt rnd c t d s) (out .normal) (inBlock id) = some x from h)
    rcases h2 with ⟨he, h2⟩ | ⟨he, h2⟩
    · subst he; cases h2; have := ih _ _ _ _ h1; exact this
    · cases ex <;> (cases h2; have := ih _ _ _ _ h1; exact this)
  | loop c ih => exact loopN_kept ih H.fuel
  | rangeFunc f ps as bd _ _ =>
    intro t d s x h
    obtain ⟨fv, _, h⟩ := obind_some (show rangeOver E H nt rnd f ps.toList as bd t d s = some x from h)
    obtain ⟨dd, q, h1, h⟩ := pbind_some h
    obtain ⟨v, s2, h2, h3⟩ := pbind_some h
    have k1 : Kept s q.2 := by
      unfold defsOf at h1
      split at h1
      · cases h1; exact .alloc _ _
      · split at h1
        · cases h1; exact .refl s
        · cases h1
    exact (k1.trans (.alloc _ _)).trans ((invokeF_kept hH h2).trans (overAt_kept h3))
theorem takeAll_kept : ∀ (d : List Nat) {s s' : AS}, takeAll d s = some s' → Kept s s' := by
  intro d
  induction d with
  | nil => intro s s' h; cases h; exact .refl s
  | cons r d ih =>
    intro s s' h
    unfold takeAll at h
    split at h
    · exact (Kept.put _ _ _).trans (ih h)
    · cases h
theorem acallF_kept {H : Hand} (hH : HandKept H) {f : FuncId} {args : List Value} {r : Value × AS} (h : acallF E H f args s = some r) : Kept s r.2 := by
  obtain ⟨fn, _, h⟩ := obind_some h
  obtain ⟨c, _, h⟩ := obind_some h
  unfold ended at h
  cases hc : acode E H (Nat.add args.length (Nat.sub fn.ntmps args.length)) none c (ofList args 0 .nil) [] s with
  | none => rw [hc] at h; cases h
  | some p =>
    rw [hc] at h
    have k := acode_kept hH c _ _ _ _ hc
    obtain ⟨ex, t, d, s1⟩ := p
    have fin : leave E fn.results.toList (out .ret) t d s1 = some r → Kept s r.2 := by
      intro h
      obtain ⟨s2, h1, h⟩ := obind_some h
      obtain ⟨vs, h2, h⟩ := obind_some h
      cases h
      exact k.trans (takeAll_kept d h1)
    cases ex with
    | normal => exact fin h
    | ret => exact fin h
    | exit id => cases h
theorem endRound_kept {l : Nat} {e : AExit} {r : Value × AS} (h : endRound l e s = some r) : Kept s r.2 := by
  unfold endRound at h
  split at h
  · split at h <;> (cases h; exact .put _ _ _)
  · cases h
theorem around_kept {H : Hand} (hH : HandKept H) {l : Nat} {args : List Value} {r : Value × AS} (h : around E H l args s = some r) : Kept s r.2 := by
  unfold around at h
  split at h
  · obtain ⟨t1, _, h⟩ := obind_some h
    split at h
    · rename_i t2 s2 hc
      have k1 := acode_kept hH _ _ _ _ _ hc
      unfold bodyOf at h
      split at h
      · split at h
        · rename_i e t3 s3 hb
          have k2 := acode_kept hH _ _ _ _ _ hb
          exact k1.trans ((Kept.put _ _ _).trans (k2.trans (endRound_kept h)))
        · cases h
      · cases h
    · cases h
  · cases h
end Go.Ev
