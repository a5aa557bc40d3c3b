/- Composite values; rows of zeros. -/
import Derived.Test.YtgglmmipdfcbpaaDoorEvO2
namespace Go.Ev
variable {E : Env} {β β' : Bond} {s s' : AS} {w w' : World} {P : Program}

/-- Cells that stand for an array's. -/
def CR (β : Bond) (n : Nat) (c : Tr Value) (arr : Array Value) : Prop := arr.size = n ∧ ∀ i v, i < n → c.get i = some v → ∃ v', arr[i]? = some v' ∧ VR β v v' ∧ oneCell v = true
theorem CR.list {vs vs' : List Value} (hv : All2 (VR β) vs vs') (h1 : allOne vs = true) : CR β vs.length (ofList vs 0 .nil) vs'.toArray :=
  ⟨by simp [hv.len], fun i v hi hg => by
    rw [get_ofList, if_pos (by omega)] at hg
    have hg : vs[i]? = some v := by simpa using hg
    obtain ⟨v', h2, r⟩ := hv.get hg
    exact ⟨v', by simpa using h2, r, allOne_get h1 hg⟩⟩
theorem CR.stored {n : Nat} {c : Tr Value} {arr : Array Value} (h : CR β n c arr) {o : Nat} {vs vs' : List Value} (hv : All2 (VR β) vs vs') (h1 : allOne vs = true) (ho : o + vs.length ≤ n) : CR β n (ofList vs o c) (wrl arr o vs') := by
  refine ⟨by rw [wrl_size, h.1], fun i v hi hg => ?_⟩
  rw [get_ofList] at hg
  rw [wrl_get _ _ _ _ (by rw [← hv.len, h.1]; exact ho), ← hv.len]
  by_cases hc : o ≤ i ∧ i < o + vs.length
  · rw [if_pos hc] at hg
    rw [if_pos hc]
    obtain ⟨v', h2, r⟩ := hv.get hg
    exact ⟨v', h2, r, allOne_get h1 hg⟩
  · rw [if_neg hc] at hg
    rw [if_neg hc]
    exact h.2 i v hi hg
theorem foldl_wrl (o : Nat) : ∀ (l : List Value) (k : Nat) (cs : Array Value), (l.zipIdx k).foldl (fun cs (p : Value × Nat) => cs.setIfInBounds (o + p.2) p.1) cs = wrl cs (o + k) l := by
  intro l
  induction l with
  | nil => intro k cs; rfl
  | cons v l ih => intro k cs; simp only [List.zipIdx_cons, List.foldl_cons, wrl]; rw [ih]; rfl
theorem fill_sim {place : Nat → Option (Nat × Nat)} {n : Nat} : ∀ {ps ps' : List (Nat × Value)} {c c' : Tr Value} {arr : Array Value}, All2 (fun p q => p.1 = q.1 ∧ VR β p.2 q.2) ps ps' → CR β n c arr → Ev.fill place n ps c = some c' →
    ∃ arr', Instr.fill place arr ps' = some arr' ∧ CR β n c' arr' := by
  intro ps
  induction ps with
  | nil => intro ps' c c' arr hp hc h; cases hp; cases h; exact ⟨arr, rfl, hc⟩
  | cons p ps ih =>
    intro ps' c c' arr hp hc h
    cases hp with
    | cons hq hp =>
      rename_i q ps'
      obtain ⟨off, size, h1, h2⟩ := pbind_some (show pbind (place p.1) _ = some c' from h)
      obtain ⟨h3, h4⟩ := only_some h2
      simp only [Bool.and_eq_true] at h3
      have h31 := eq_of_beq h3.1.1
      have h32 : off + size ≤ n := le_of_ble h3.1.2
      have hv := hq.2.parts
      have hsz : q.2.cells.size = size := by rw [parts_size, ← hv.len, h31]
      obtain ⟨arr', h5, h6⟩ := ih hp (hc.stored (o := off) hv h3.2 (by omega)) h4
      refine ⟨arr', ?_, h6⟩
      obtain ⟨i, u⟩ := q
      simp only at hq hsz
      unfold Instr.fill
      rw [← hq.1, h1]
      dsimp only
      rw [if_neg (show ¬ ((decide (u.cells.size ≠ size) || decide (off + u.cells.size > arr.size)) = true) from by
        rw [hc.1, hsz]; simp; omega)]
      have : (u.cells.zipIdx.foldl (fun cs (p : Value × Nat) => cs.setIfInBounds (off + p.2) p.1) arr) = wrl arr off (Ev.parts u) := by
        rw [← parts_eq, ← Array.foldl_toList, Array.toList_zipIdx, foldl_wrl]; rfl
      rw [← h5, ← this]
theorem cellsGo_sim {n : Nat} {c : Tr Value} {arr : Array Value} (h : CR β n c arr) {l : List Value} (hl : cellsGo c n 0 = some l) : All2 (VR β) l arr.toList := by
  obtain ⟨h1, h2⟩ := cellsGo_some hl
  refine .of_get (by rw [h1]; simp [h.1]) fun i a b ha hb => ?_
  have hi : i < n := by rw [← h1]; exact (List.getElem?_eq_some_iff.1 ha).1
  obtain ⟨v', h3, r, _⟩ := h.2 i a hi (by have := h2 i a ha; rwa [Nat.zero_add] at this)
  rw [show arr.toList[i]? = arr[i]? by simp, h3] at hb
  cases hb; exact r
theorem plain_parts {n : Nat} {zv : Value} (h : plain n zv = true) : All2 (VR β) (parts zv) (parts zv) := (VR.plain (β := β) h).parts

theorem sizes_run (hE : EnvOK E P) : ∀ {fs : List Field} {l : List (Nat × Nat)}, sizes E fs = some l → (fs.mapM fun f => Prod.mk f.offset <$> Go.sizeOf f.type).run P w = .ok l w := by
  intro fs
  induction fs with
  | nil => intro l h; cases h; simp
  | cons f fs ih =>
    intro l h
    obtain ⟨n, h1, h2⟩ := obind_some (show obind (E.size f.type) _ = some l from h)
    obtain ⟨r, h3, h4⟩ := obind_some h2
    cases h4
    simp [List.mapM_cons, run_size hE h1, ih h3]
theorem build_sim (hE : EnvOK E P) {t : TypeId} {ps ps' : List (Nat × Value)} {v : Value} (hp : All2 (fun p q => p.1 = q.1 ∧ VR β p.2 q.2) ps ps') (h : Ev.build E t ps = some v) :
    ∃ v', (Instr.build t ps'.toArray).run P w = .ok v' w ∧ VR β v v' := by
  obtain ⟨p, h1, h2⟩ := obind_some h
  obtain ⟨zv, h3, h4⟩ := obind_some h2
  obtain ⟨h5, h6⟩ := only_some h4
  obtain ⟨c, h7, h8⟩ := obind_some h6
  obtain ⟨l, h9, h10⟩ := obind_some h8
  cases h10
  obtain ⟨d, hd, hpl⟩ := obind_some h1
  unfold zeroOk at h5
  simp only [Bool.and_eq_true] at h5
  have hz := run_zero hE h3 w
  obtain ⟨arr', hf, hc⟩ := fill_sim (place := placeAt p) hp (CR.list (plain_parts (β := β) h5.1) h5.2) h7
  have hcells : zv.cells = (parts zv).toArray := by rw [← parts_eq]
  refine ⟨.agg arr', ?_, .aggL (by simpa using cellsGo_sim hc h9)⟩
  unfold placesOf at hpl
  split at hpl
  · rename_i fs
    obtain ⟨L, h11, h12⟩ := obind_some hpl
    cases h12
    have hs := sizes_run (P := P) (w := w) hE h11
    have hpe : (fun x => L[x]?) = placeAt (.str L) := by funext x; rfl
    simp [Instr.build, hz, run_und hE hd, Array.mapM_eq_mapM_toList, hs, hcells, hpe, hf]
  · rename_i n e
    obtain ⟨z, h11, h12⟩ := obind_some hpl
    cases h12
    have hpe : (fun i => some (i * z, z)) = placeAt (.arr z) := by funext x; rfl
    simp [Instr.build, hz, run_und hE hd, run_size hE h11, hcells, hpe, hf]
  · cases hpl

/-! rows of zeros -/
theorem zeros_len (z : List Value) : ∀ n, (zeros z n).length = n * z.length := by
  intro n
  induction n with
  | zero => simp [zeros]
  | succ n ih => simp [zeros, ih, Nat.add_mul, Nat.add_comm]
theorem zeros_get (z : List Value) : ∀ n i, i < n * z.length → (zeros z n)[i]? = z[i % z.length]? := by
  intro n
  induction n with
  | zero => intro i h; simp at h
  | succ n ih =>
    intro i h
    rw [Nat.add_mul, Nat.one_mul] at h
    show (z ++ zeros z n)[i]? = _
    by_cases hi : i < z.length
    · rw [List.getElem?_append_left hi, Nat.mod_eq_of_lt hi]
    · rw [List.getElem?_append_right (by omega), ih _ (by omega), ← Nat.mod_eq_sub_mod (by omega)]
theorem zeros_one {z : List Value} (h : allOne z = true) : ∀ n, allOne (zeros z n) = true := by
  intro n
  induction n with
  | zero => rfl
  | succ n ih => exact allOne_append h ih
theorem zeros_all {z : List Value} (h : All2 (VR β) z z) : ∀ n, All2 (VR β) (zeros z n) (zeros z n) := by
  intro n
  induction n with
  | zero => exact .nil
  | succ n ih => exact h.append ih
/-- The model's row of zeros. -/
theorem zeros_eq {zv : Value} {z : Nat} (hz : (parts zv).length = z) (n : Nat) : (Array.range (n * z)).map (fun i => (if n * z = 0 then #[] else zv.cells)[i % (if n * z = 0 then #[] else zv.cells).size]!) = (zeros (parts zv) n).toArray := by
  have hcells : zv.cells = (parts zv).toArray := by rw [← parts_eq]
  apply Array.ext_getElem?
  intro i
  by_cases hi : i < n * z
  · have hne : ¬ n * z = 0 := by omega
    have hpos : 0 < z := by
      rcases Nat.eq_zero_or_pos z with h | h
      · subst h; simp at hne
      · exact h
    have hlt : i % z < (parts zv).length := by rw [hz]; exact Nat.mod_lt _ hpos
    rw [show (zeros (parts zv) n).toArray[i]? = (zeros (parts zv) n)[i]? from by simp, zeros_get _ _ _ (by rw [hz]; exact hi), hz]
    simp [if_neg hne, hi, hcells, hz]
    rw [List.getElem?_eq_getElem hlt]; rfl
  · have : (zeros (parts zv) n).length ≤ i := by rw [zeros_len, hz]; omega
    rw [show (zeros (parts zv) n).toArray[i]? = (zeros (parts zv) n)[i]? from by simp, List.getElem?_eq_none this]
    simp; omega
end Go.Ev
