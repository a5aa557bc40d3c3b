/- append, put together. -/
import Derived.Test.YtgglmmipdfcbpaaDoorEvAq
namespace Go.Ev
variable {E : Env} {β β' : Bond} {s s' : AS} {w w' : World} {P : Program}

theorem cells_at (h : Sim E β s w) {b c sh : Nat} {g : Gr} (hb : β b = some (c, sh, g)) {n : Nat} {t : Tr Value} {e : TypeId} {fro fro' : Nat × Nat} {fam : Option (Nat × Nat)} {arr : Array Value}
    (hc : s.heap.get b = some (.cells n t e fro fam)) (ha : w.heap[c]? = some (.cells arr e fro')) {o k : Nat} {l : List Value} (hl : cells s b o k = some l) :
    l.length = k ∧ (k ≠ 0 → o + k ≤ n) ∧ ∀ i v, l[i]? = some v → t.get (o + i) = some v ∧ ∃ v', arr[sh + (o + i)]? = some v' ∧ VR β v v' ∧ oneCell v = true := by
  cases k with
  | zero => cases hl; exact ⟨rfl, fun h => absurd rfl h, fun i v h => by simp at h⟩
  | succ k =>
    obtain ⟨n', t', e', fro2, fam', hc', hl⟩ := inCells_some (show inCells _ _ = some l from hl)
    rw [hc] at hc'; cases hc'
    obtain ⟨hle, hl⟩ := only_some hl
    obtain ⟨arr', fro3, ha', _, _, _, _, hcell, _⟩ := h.row hb hc
    rw [ha] at ha'; cases ha'
    obtain ⟨hlen, hget⟩ := cellsGo_some hl
    have hle : o + (k + 1) ≤ n := le_of_ble hle
    refine ⟨hlen, fun _ => hle, fun i v hi => ⟨hget i v hi, ?_⟩⟩
    have : i < l.length := (List.getElem?_eq_some_iff.1 hi).1
    exact hcell (o + i) v (by omega) (hget i v hi)
theorem get_pair {l m : List Value} {i : Nat} {v : Value} (h : (ofList (l ++ m) 0 .nil).get i = some v) : (l ++ m)[i]? = some v := by
  rw [get_ofList] at h
  by_cases hi : 0 ≤ i ∧ i < 0 + (l ++ m).length
  · rw [if_pos hi] at h; simpa using h
  · rw [if_neg hi] at h; cases h
theorem All2.at {l l' : List Value} (h : All2 (VR β) l l') (h1 : allOne l = true) {rest : Array Value} {i : Nat} {v : Value} (hv : l[i]? = some v) : ∃ v', (l'.toArray ++ rest)[i]? = some v' ∧ VR β v v' ∧ oneCell v = true := by
  obtain ⟨v', h2, r⟩ := h.get hv
  have hi : i < l'.length := (List.getElem?_eq_some_iff.1 h2).1
  exact ⟨v', by rw [Array.getElem?_append_left (by simpa using hi)]; simpa using h2, r, allOne_get h1 hv⟩
theorem allOne_append {l m : List Value} (h : allOne l = true) (h' : allOne m = true) : allOne (l ++ m) = true := by
  induction l with
  | nil => exact h'
  | cons v l ih =>
    simp only [allOne, Bool.and_eq_true] at h
    simp [allOne, h.1, ih h.2]
theorem parts_size (v : Value) : v.cells.size = (parts v).length := by rw [← parts_eq]; simp

theorem appendTo_kept {e : TypeId} {z b o len cap k : Nat} {new : List Value} {v : Value} (hr : appendTo s e z b o len cap k new = some (v, s')) : Kept s s' := by
  unfold appendTo at hr
  cases hk : Nat.ble (len + k) cap with
  | true =>
    rw [hk] at hr
    obtain ⟨s1, h1, h2⟩ := obind_some (show obind _ _ = some (v, s') from hr)
    cases h2
    exact store_kept h1
  | false =>
    rw [hk] at hr
    obtain ⟨old, h1, h2⟩ := obind_some (show obind _ _ = some (v, s') from hr)
    obtain ⟨n, t, e', fro, fam, h3, h4⟩ := inCells_some h2
    cases fam with
    | none => cases h4; exact newRow_kept e _ _ (len + k) (len + k)
    | some p => exact behind_kept (only_some h4).2

section
variable {app : Value → Sem Value} {e : TypeId} {i : TypeInfo} {zv : Value} {len cap k : Nat} {new new' : List Value} {v : Value}
theorem appendTo_sim (h : Sim E β s w) (hi : E.ty e = some i) (hzl : (parts zv).length = i.size) (hnl : new.length = k * i.size) (hn1 : allOne new = true) (hv : All2 (VR β) new new')
    (HF : ∀ c o cap' w', len + k ≤ cap' → (storeCells ⟨c, o + len * i.size, none⟩ new').run P w = .ok () w' → (app (.slice (some ⟨c, o, none⟩) len cap')).run P w = .ok (.slice (some ⟨c, o, none⟩) (len + k) cap') w')
    (HG : ∀ base cap' old', ¬ len + k ≤ cap' → (Builtin.firstCells i.size len (.slice base len cap')).run P (drewn w) = .ok (List.toArray old') (drewn w) →
      ∃ N rest, len + k ≤ N ∧ rest.size = (N - (len + k)) * zv.cells.size ∧ (app (.slice base len cap')).run P w = .ok (.slice (some ⟨w.heap.size, 0, none⟩) (len + k) N) (push (drewn w) (.cells ((old' ++ new').toArray ++ rest) e)))
    {b o : Nat} {x' : Value} (hx : VR β (.slice (some ⟨b, o, none⟩) len cap) x') (hr : appendTo s e i.size b o len cap k new = some (v, s')) :
    ∃ v' w' β', (app x').run P w = .ok v' w' ∧ Post E β s w β' s' w' ∧ VR β' v v' := by
  have hsz : E.size e = some i.size := by unfold Env.size; rw [hi]; rfl
  have hzc : zv.cells.size = i.size := by rw [parts_size, hzl]
  -- a row of its own
  have hroom : ∀ {N : Nat} {old' : List Value} {rest : Array Value}, len + k ≤ N → old'.length = len * i.size → rest.size = (N - (len + k)) * zv.cells.size →
      ((old' ++ new').toArray ++ rest).size = N * i.size := by
    intro N old' rest h1 h2 h3
    have : new'.length = k * i.size := by rw [← hv.len, hnl]
    rw [Array.size_append, List.size_toArray, List.length_append, h2, h3, this, hzc, ← Nat.add_mul, ← Nat.add_mul]
    congr 1; omega
  unfold appendTo at hr
  cases hk : Nat.ble (len + k) cap with
  | true =>
    rw [hk] at hr
    have hk := le_of_ble hk
    obtain ⟨s1, h1, h2⟩ := obind_some (show obind _ _ = some (v, s') from hr)
    cases h2
    cases hx with
    | slice _ _ hb hm hg hN =>
      obtain ⟨w1, r1, p⟩ := store_sim (P := P) h hb hv h1
      exact ⟨_, w1, β, HF _ _ _ w1 (Nat.le_trans hk hm) (by rw [Nat.add_assoc]; exact r1), p, .slice _ _ hb hm hg hN⟩
    | tail _ hb =>
      have hk0 : k = 0 := by omega
      subst hk0
      have : new = [] := by
        have : new.length = 0 := by rw [hnl]; simp
        exact List.length_eq_zero_iff.1 this
      subst this
      cases hv
      cases h1
      exact ⟨_, w, β, HF _ _ _ w (by omega) (by simp [storeCells]), .refl h, .tail _ hb⟩
  | false =>
    rw [hk] at hr
    obtain ⟨old, h1, h2⟩ := obind_some (show obind _ _ = some (v, s') from hr)
    obtain ⟨n, t, e', fro, fam, hbc, h4⟩ := inCells_some h2
    have hd : Sim E β s (drewn w) := h.heap rfl
    -- what is told of the block, and of the program's slice
    obtain ⟨c, sh, g, hb⟩ : ∃ c sh g, β b = some (c, sh, g) := by cases hx <;> exact ⟨_, _, _, ‹_›⟩
    obtain ⟨arr, fro', ha, hg0, hN0, hz0, hn0, hc0, hfr0⟩ := h.row hb hbc
    obtain ⟨hol, hon, hoa⟩ := cells_at h hb hbc ha h1
    have hmk : len * i.size ≤ (len + k) * i.size := Nat.mul_le_mul_right _ (by omega)
    -- the copy's content
    have content : ∀ {old' : List Value} (rest : Array Value), All2 (VR β) old old' → allOne old = true → ∀ (t' : Tr Value), (∀ j v, j < (len + k) * i.size → t'.get j = some v → (old ++ new)[j]? = some v) →
        ∀ j v, j < (len + k) * i.size → t'.get j = some v → ∃ v', ((old' ++ new').toArray ++ rest)[j]? = some v' ∧ VR β v v' ∧ oneCell v = true := by
      intro old' rest ho ho1 t' ht j v hj hv'
      exact (ho.append hv).at (allOne_append ho1 hn1) (ht j v hj hv')
    have tget : ∀ j v, j < (len + k) * i.size → (bif Nat.beq o 0 then ofList new (len * i.size) t else ofList (old ++ new) 0 .nil).get j = some v → (old ++ new)[j]? = some v := by
      intro j v hj hv'
      cases ho : Nat.beq o 0 with
      | false => rw [ho] at hv'; exact get_pair hv'
      | true =>
        rw [ho] at hv'
        have ho := eq_of_beq ho
        subst ho
        rw [show (bif true then ofList new (len * i.size) t else ofList (old ++ new) 0 .nil) = ofList new (len * i.size) t from rfl, get_ofList] at hv'
        by_cases hlt : j < len * i.size
        · rw [if_neg (by omega)] at hv'
          rw [List.getElem?_append_left (by omega)]
          have hjl : j < old.length := by omega
          have := (hoa j old[j] (by simp [hjl])).1
          rw [Nat.zero_add, hv'] at this
          rw [this]; simp [hjl]
        · rw [if_pos ⟨by omega, by rw [hnl, ← Nat.add_mul]; exact hj⟩] at hv'
          rw [List.getElem?_append_right (by omega), hol]
          exact hv'
    -- the program's slice has no room: it copies
    have copy : ∀ base cap', x' = .slice base len cap' → ¬ len + k ≤ cap' → (∃ old', (Builtin.firstCells i.size len (.slice base len cap')).run P (drewn w) = .ok (List.toArray old') (drewn w) ∧ All2 (VR β) old old' ∧ allOne old = true) →
        ∃ v' w' β', (app x').run P w = .ok v' w' ∧ Post E β s w β' s' w' ∧ VR β' v v' := by
      intro base cap' hx' hcap hold
      obtain ⟨old', ho, ro, ho1⟩ := hold
      obtain ⟨N, rest, hN, hrest, hrun⟩ := HG base cap' old' hcap ho
      have hsize := hroom (old' := old') (rest := rest) hN (by rw [← ro.len, hol]) hrest
      have hle : (len + k) * i.size ≤ ((old' ++ new').toArray ++ rest).size := by rw [hsize]; exact Nat.mul_le_mul_right _ hN
      cases fam with
      | none =>
        cases h4
        obtain ⟨β', p, r⟩ := newRow_sim (t := ofList (old ++ new) 0 .nil) (n := (len + k) * i.size) (len := len + k) (cap := len + k) (m := N) (arr := (old' ++ new').toArray ++ rest) hd hsz (0, 0) (fun k _ _ h => (Nat.not_lt_zero _ h).elim) (content rest ro ho1 _ fun j v _ hv' => get_pair hv') hle hN (by rw [hsize]; exact Nat.le_refl _)
        exact ⟨_, _, β', by rw [hx']; exact hrun, p.heapL rfl ⟨rfl, rfl, rfl⟩, r⟩
      | some q =>
        obtain ⟨f, rel⟩ := q
        obtain ⟨hck, h5⟩ := only_some h4
        clear h4
        simp only [Bool.and_eq_true] at hck
        have he := eq_of_beq hck.1
        subst he
        obtain ⟨β', p, r⟩ := behind_copy (arr := (old' ++ new').toArray ++ rest) (m := N) hd hb hbc h5 hsz hmk (content rest ro ho1 _ tget) hle hN (by rw [hsize]; exact Nat.le_refl _)
        exact ⟨_, _, β', by rw [hx']; exact hrun, p.heapL rfl ⟨rfl, rfl, rfl⟩, r⟩
    have hkc : ¬ len + k ≤ cap := fun e => by rw [Nat.ble_eq_true_of_le e] at hk; cases hk
    cases hx with
    | tail _ hb' =>
      refine copy _ _ rfl (by omega) ⟨[], by simp [Builtin.firstCells, loadCells, loadCellsFrom], ?_⟩
      have : old = [] := List.length_eq_zero_iff.1 (by rw [hol]; simp)
      subst this
      exact ⟨.nil, rfl⟩
    | slice _ _ hb' hm hgm hNm =>
      rename_i c2 sh2 cap' g2
      rw [hb] at hb'; cases hb'
      obtain ⟨old', ho, ro, _, ho1⟩ := cells_sim (P := P) hd hb h1
      by_cases hcap : len + k ≤ cap'
      · -- in that row's room
        cases fam with
        | none =>
          have : g = none := by cases g with | none => rfl | some G => cases hg0
          rw [hgm this] at hcap
          exact absurd hcap hkc
        | some q =>
          obtain ⟨f, rel⟩ := q
          obtain ⟨hck, h5⟩ := only_some h4
          clear h4
          simp only [Bool.and_eq_true] at hck
          have he := eq_of_beq hck.1
          subst he
          have hfe := le_of_ble hck.2
          obtain ⟨⟨N, z0⟩, rfl⟩ : ∃ G, g = some G := by cases g with | none => cases hg0 | some G => exact ⟨G, rfl⟩
          obtain ⟨hsN, hz1⟩ := hN0 N z0 rfl
          rw [hsz] at hz1; cases hz1
          have hNm := hNm N _ rfl
          have hcz : (len + k) * i.size ≤ cap' * i.size := Nat.mul_le_mul_right _ hcap
          have hnl' : new'.length = k * i.size := by rw [← hv.len, hnl]
          have hadd : len * i.size + k * i.size = (len + k) * i.size := by rw [← Nat.add_mul]
          have hst := run_stores (P := P) (sh + o + len * i.size) new' 0 arr w ha (by omega) (by rw [hv.one]; exact hn1) (fun j h1 h2 hfz => by
            have := hfr0 (j - sh) (by omega) (by omega) (by omega)
            omega)
          obtain ⟨β', p, r⟩ := behind_over (arr' := wrl arr (sh + o + len * i.size) new') (m := cap') h hb hbc h5 hsz hmk ha (wrl_size _ _ _) (fun j hj => by
              rw [wrl_get _ _ _ _ (by omega), if_neg (by omega)]) (fun j v hj hv' => by
              have hp := tget j v hj hv'
              rw [wrl_get _ _ _ _ (by omega)]
              by_cases hlt : j < len * i.size
              · rw [if_neg (by omega)]
                rw [List.getElem?_append_left (by omega)] at hp
                have := (hoa j v hp).2
                rw [← Nat.add_assoc] at this
                exact this
              · rw [if_pos (by omega), show sh + o + j - (sh + o + len * i.size) = j - len * i.size from by omega]
                rw [List.getElem?_append_right (by omega), hol] at hp
                obtain ⟨v', h5, h6⟩ := hv.get hp
                exact ⟨v', h5, h6, allOne_get hn1 hp⟩) (by omega) hcap (by omega)
          exact ⟨_, _, β', HF _ _ _ _ hcap hst, p, r⟩
      · exact copy _ _ rfl hcap ⟨old', by simpa [Builtin.firstCells] using ho (drewn w) rfl, ro, ho1⟩
end
end Go.Ev
