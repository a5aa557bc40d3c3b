/- Builtins; all operations but calls of functions. -/
import Derived.Test.YtgglmmipdfcbpaaDoorEvO7
namespace Go.Ev
variable {E : Env} {β β' : Bond} {s s' : AS} {w w' : World} {P : Program}

/-- The program's side does as the evaluator's, in terms of values. -/
def DidV (E : Env) (P : Program) (β : Bond) (s : AS) (w : World) (r : Option Value × AS) (x : Sem Value) : Prop :=
  ∃ v' w' β' u, x.run P w = .ok v' w' ∧ Post E β s w β' r.2 w' ∧ r.1 = some u ∧ VR β' u v'
theorem DidV.same (h : Sim E β s w) {x : Sem Value} {v v' : Value} (hr : x.run P w = .ok v' w) (hv : VR β v v') : DidV E P β s w (some v, s) x := ⟨v', w, β, v, hr, .refl h, rfl, hv⟩
theorem vals_some {o : Option (Value × AS)} {r : Option Value × AS} (h : vals o = some r) : ∃ v s1, o = some (v, s1) ∧ r = (some v, s1) := by
  obtain ⟨v, s1, h1, h2⟩ := pbind_some h
  cases h2
  exact ⟨v, s1, h1, rfl⟩
theorem nothing_some {o : Option AS} {r : Option Value × AS} (h : nothing o = some r) : ∃ s1, o = some s1 ∧ r = (none, s1) := by
  obtain ⟨s1, h1, h2⟩ := obind_some h
  cases h2
  exact ⟨s1, h1, rfl⟩
theorem first_zero {z : Nat} {y : Value} {l : List Value} (h : firstCells s z 0 y = some l) : l = [] := by
  unfold firstCells at h
  split at h
  · rw [Nat.zero_mul] at h; cases h; rfl
  · cases h; rfl
  · cases h; simp
  · cases h
theorem copy_sim (hE : EnvOK E P) (h : Sim E β s w) {ts : Array TypeId} {t ty : TypeId} {x x' y y' : Value} {r : Option Value × AS} (ht : ts[0]? = some t) (hx : VR β x x') (hy : VR β y y') (hr : copyB E s t x y = some r) :
    DidV E P β s w r (Builtin.copy_ ts ty #[x', y']) := by
  unfold copyB at hr
  split at hr
  · rename_i e base len cap hu
    obtain ⟨z, hz, hr1⟩ := obind_some hr
    obtain ⟨m, hm, hr2⟩ := obind_some hr1
    obtain ⟨new, hnew, hr3⟩ := obind_some hr2
    clear hr hr1 hr2
    have hr := hr3
    clear hr3
    have hlen := lenOf_run (P := P) (w := w) hy hm
    obtain ⟨new', h1, h2, h3⟩ := first_run (P := P) h hy hnew (fun m' hm' => by rw [hm] at hm'; cases hm'; exact Nat.min_le_left _ _)
    have hmin : Nat.min m len = min m len := rfl
    split at hr
    · cases hr
      cases h2
      refine ⟨goInt (min m len), w, β, _, ?_, .refl h, rfl, .int _ _⟩
      have h1 := h1 w rfl
      cases hx with
      | tail =>
        rw [Nat.min_zero] at h1
        simp [Builtin.copy_, ht, run_und hE hu, hlen, run_size hE hz, h1, storeCells, goInt, Go.goInt]
      | _ => simp [Builtin.copy_, ht, run_und hE hu, hlen, hmin, run_size hE hz, h1, storeCells, goInt, Go.goInt]
    · rename_i b o hne
      obtain ⟨s1, h4, h5⟩ := obind_some hr
      cases h5
      cases hx with
      | slice _ _ hb =>
        obtain ⟨w1, h6, p⟩ := store_sim (P := P) h hb h2 h4
        refine ⟨goInt (min m len), w1, β, _, ?_, p, rfl, .int _ _⟩
        simp [Builtin.copy_, ht, run_und hE hu, hlen, hmin, run_size hE hz, h1 w rfl, h6, goInt, Go.goInt]
      | tail _ hb =>
        -- nothing is copied
        rw [Nat.min_zero] at hnew
        exact absurd (first_zero hnew) (by assumption)
    · cases hr
  · cases hr
theorem append_core {app : Value → Sem Value} (h : Sim E β s w) {t e : TypeId} {x x' v : Value} {new new' : List Value} {n : Nat} {s1 : AS} (he : sliceElem E t = some e) (hx : VR β x x') (h3 : All2 (VR β) new new') (h4 : allOne new = true) (hr : append E s t x new n = some (v, s1))
    (HN : ∀ i zv len cap', E.ty e = some i → i.zero = some zv → (parts zv).length = i.size → new.length = n * i.size → len + n ≤ cap' → (app (.slice none len cap')).run P w = .ok (.slice none (len + n) cap') w)
    (HF : ∀ i zv len, E.ty e = some i → i.zero = some zv → (parts zv).length = i.size → new.length = n * i.size → ∀ c o cap' w', len + n ≤ cap' → (storeCells ⟨c, o + len * i.size, none⟩ new').run P w = .ok () w' → (app (.slice (some ⟨c, o, none⟩) len cap')).run P w = .ok (.slice (some ⟨c, o, none⟩) (len + n) cap') w')
    (HG : ∀ i zv len, E.ty e = some i → i.zero = some zv → (parts zv).length = i.size → new.length = n * i.size → (len + n) * (i.bytes + 1) ≤ 2 ^ 36 → ∀ (base : Option Addr) (cap' : Nat) (old' : List Value), ¬ len + n ≤ cap' → (Builtin.firstCells i.size len (.slice base len cap')).run P (drewn w) = .ok (List.toArray old') (drewn w) →
      ∃ N rest, len + n ≤ N ∧ rest.size = (N - (len + n)) * zv.cells.size ∧ (app (.slice base len cap')).run P w = .ok (.slice (some ⟨w.heap.size, 0, none⟩) (len + n) N) (push (drewn w) (.cells ((old' ++ new').toArray ++ rest) e))) :
    DidV E P β s w (some v, s1) (app x') := by
  unfold append at hr
  split at hr
  · rename_i base len cap
    obtain ⟨e', he', hr1⟩ := obind_some hr
    rw [he] at he'; cases he'
    obtain ⟨i, hi, hr2⟩ := obind_some hr1
    obtain ⟨hk, hr3⟩ := only_some hr2
    obtain ⟨zv, hzv, hr4⟩ := obind_some hr3
    obtain ⟨hzl, hr5⟩ := only_some hr4
    clear hr hr1 hr2 hr3 hr4
    have hr := hr5
    clear hr5
    have hzl := eq_of_beq hzl
    simp only [Bool.and_eq_true] at hk
    have hk1 := eq_of_beq hk.1.1
    have hk3 : (len + n) * (i.bytes + 1) ≤ 2 ^ 36 := le_of_ble hk.2
    have hsz : E.size e = some i.size := by unfold Env.size; rw [hi]; rfl
    have hd : Sim E β s (drewn w) := h.heap rfl
    have HG := HG i zv len hi hzv hzl hk1 hk3
    split at hr
    · cases hb : Nat.ble (len + n) cap with
      | true =>
        rw [hb] at hr
        obtain ⟨hc0, hr⟩ := only_some (show only _ _ = some (v, s1) from hr)
        cases hr
        cases hx
        exact ⟨_, w, β, _, HN i zv len cap hi hzv hzl hk1 (le_of_ble hb), .refl h, rfl, .nilSlice _ _⟩
      | false =>
        rw [hb] at hr
        obtain ⟨hc0, hr⟩ := only_some (show only _ _ = some (v, s1) from hr)
        simp only [Bool.and_eq_true] at hc0
        have hl0 := eq_of_beq hc0.1
        subst hl0
        cases hr
        cases hx
        have hcap : ¬ 0 + n ≤ cap := fun e => by rw [Nat.ble_eq_true_of_le e] at hb; cases hb
        obtain ⟨N, rest, hN, hrest, hrun⟩ := HG none cap [] hcap (by simp [Builtin.firstCells])
        have hnl : new'.length = n * i.size := by rw [← h3.len, hk1]
        have hsize : (([] ++ new').toArray ++ rest).size = N * i.size := by
          rw [Array.size_append, List.size_toArray, List.nil_append, hnl, hrest, parts_size, hzl, ← Nat.add_mul]; congr 1; omega
        obtain ⟨β', p, q⟩ := newRow_sim (t := ofList new 0 .nil) (n := (0 + n) * i.size) (len := 0 + n) (cap := 0 + n) (m := N) (arr := ([] ++ new').toArray ++ rest) hd hsz (0, 0) (fun k _ _ h => (Nat.not_lt_zero _ h).elim)
          (fun j u hj hg => by
            rw [get_ofList, if_pos (by rw [hk1]; rw [Nat.zero_add] at hj; omega)] at hg
            have := h3.at h4 (rest := rest) (show new[j]? = some u by simpa using hg)
            simpa using this) (by rw [hsize]; exact Nat.mul_le_mul_right _ hN) hN (by rw [hsize]; exact Nat.le_refl _)
        exact ⟨_, _, β', _, hrun, p.heapL rfl ⟨rfl, rfl, rfl⟩, rfl, q⟩
    · obtain ⟨v', w', β', h5, h6, h7⟩ := appendTo_sim (P := P) (app := app) h hi hzl hk1 h4 h3 (HF i zv len hi hzv hzl hk1) HG hx hr
      exact ⟨v', w', β', _, h5, h6, rfl, h7⟩
    · cases hr
  · cases hr
theorem append_simV (hE : EnvOK E P) (h : Sim E β s w) {ts : Array TypeId} {t ty e : TypeId} {x x' y y' v : Value} {s1 : AS} (ht : ts[0]? = some t) (h1 : ofZeros E ts.toList.tail = some false) (he : sliceElem E t = some e) (hx : VR β x x') (hy : VR β y y')
    (hr : appendV E s t e x y = some (v, s1)) : DidV E P β s w (some v, s1) (Builtin.append_ ts ty #[x', y']) := by
  obtain ⟨n, hl, hr1⟩ := obind_some hr
  obtain ⟨z, hz, hr2⟩ := obind_some hr1
  obtain ⟨new, hnew, hr3⟩ := obind_some hr2
  have hlen := fun w' => lenOf_run (P := P) (w := w') hy hl
  obtain ⟨new', h2, h3, h4⟩ := first_run (P := P) h hy hnew (fun m' hm' => by rw [hl] at hm'; cases hm'; exact Nat.le_refl _)
  have hzz : ∀ i, E.ty e = some i → z = i.size := fun i hi => by
    have : E.size e = some i.size := by unfold Env.size; rw [hi]; rfl
    rw [hz] at this; cases this; rfl
  refine append_core (app := fun x => Builtin.append_ ts ty #[x, y']) h he hx h3 h4 hr3 (fun i zv len cap' hi hzv _ _ hc => ?_) (fun i zv len hi hzv _ _ c o cap' w' hc hs => ?_) (fun i zv len hi hzv _ _ hb base cap' old' hc ho => ?_)
  · have := hzz i hi; subst this
    exact run_appendV_nil hE ht he hi h1 (hlen w) (h2 w rfl) hc
  · have := hzz i hi; subst this
    exact run_appendV_fits hE ht he hi h1 (hlen w) (h2 w rfl) hc hs
  · have := hzz i hi; subst this
    exact run_appendV_grows hE ht he hi h1 (hlen w) (h2 (drewn w) rfl) hc hzv hb ho
theorem zeros_cells {zv : Value} (n : Nat) : Builtin.zeroCells zv.cells n = (zeros (parts zv) n).toArray := by
  have hcells : zv.cells = (parts zv).toArray := by rw [← parts_eq]
  unfold Builtin.zeroCells
  apply Array.ext_getElem?
  intro i
  by_cases hi : i < n * (parts zv).length
  · have hpos : 0 < (parts zv).length := by
      rcases Nat.eq_zero_or_pos (parts zv).length with h | h
      · rw [h] at hi; simp at hi
      · exact h
    have hlt : i % (parts zv).length < (parts zv).length := Nat.mod_lt _ hpos
    rw [show (zeros (parts zv) n).toArray[i]? = (zeros (parts zv) n)[i]? from by simp, zeros_get _ _ _ hi]
    simp [hi, hcells]
    rw [List.getElem?_eq_getElem hlt]; rfl
  · have : (zeros (parts zv) n).length ≤ i := by rw [zeros_len]; omega
    rw [show (zeros (parts zv) n).toArray[i]? = (zeros (parts zv) n)[i]? from by simp, List.getElem?_eq_none this]
    simp [hcells]; omega
theorem append_simZ (hE : EnvOK E P) (h : Sim E β s w) {ts : Array TypeId} {t ty e : TypeId} {x x' y y' v : Value} {s1 : AS} (ht : ts[0]? = some t) (h1 : ofZeros E ts.toList.tail = some true) (he : sliceElem E t = some e) (hx : VR β x x') (hy : VR β y y')
    (hr : appendZ E s t e x y = some (v, s1)) : DidV E P β s w (some v, s1) (Builtin.append_ ts ty #[x', y']) := by
  obtain ⟨n, hn, hr1⟩ := obind_some hr
  obtain ⟨hn30, hr2⟩ := only_some hr1
  obtain ⟨i, hi, hr3⟩ := obind_some hr2
  obtain ⟨zv, hzv, hr4⟩ := obind_some hr3
  obtain ⟨hk, hr5⟩ := only_some hr4
  simp only [Bool.and_eq_true, Bool.or_eq_true] at hk
  have hn30 : n ≤ 2 ^ 30 := le_of_ble hn30
  have hnb : n * i.bytes ≤ 2 ^ 40 := le_of_ble hk.1.2
  obtain ⟨k, rfl⟩ := nat_some hn
  cases hy
  -- what is added
  obtain ⟨new, hnew⟩ : ∃ new, (bif Nat.beq (n * i.size) 0 then [] else zeros (parts zv) n) = new := ⟨_, rfl⟩
  rw [hnew] at hr5
  have hcell : (if n * i.size = 0 then #[] else Builtin.zeroCells zv.cells n) = new.toArray := by
    rw [← hnew]
    by_cases h0 : n * i.size = 0
    · rw [if_pos h0, h0]; rfl
    · rw [if_neg h0, show Nat.beq (n * i.size) 0 = false from Bool.eq_false_iff.2 fun e => h0 (eq_of_beq e), zeros_cells]; rfl
  have hall : All2 (VR β) new new := by
    rw [← hnew]
    cases Nat.beq (n * i.size) 0 with
    | true => exact .nil
    | false => exact zeros_all (plain_parts (β := β) hk.1.1) n
  have hone : allOne new = true := by
    unfold append at hr5
    split at hr5
    · obtain ⟨_, _, h5⟩ := obind_some hr5
      obtain ⟨_, _, h6⟩ := obind_some h5
      obtain ⟨h7, _⟩ := only_some h6
      simp only [Bool.and_eq_true] at h7
      exact h7.1.2
    · cases hr5
  have same : ∀ i' zv', E.ty e = some i' → i'.zero = some zv' → i' = i ∧ zv' = zv := fun i' zv' h5 h6 => by
    rw [hi] at h5; cases h5
    rw [hzv] at h6; cases h6
    exact ⟨rfl, rfl⟩
  refine append_core (app := fun x => Builtin.append_ ts ty #[x, .int k (n : Int)]) h he hx hall hone hr5 (fun i' zv' len cap' hi' hzv' _ _ hc => ?_) (fun i' zv' len hi' hzv' _ _ c o cap' w' hc hs => ?_) (fun i' zv' len hi' hzv' _ _ hb base cap' old' hc ho => ?_)
  · obtain ⟨rfl, rfl⟩ := same i' zv' hi' hzv'
    exact run_appendZ_nil hE ht he hi h1 hn30 hnb hzv hc
  · obtain ⟨rfl, rfl⟩ := same i' zv' hi' hzv'
    exact run_appendZ_fits hE ht he hi h1 hn30 hnb hzv hcell hc hs
  · obtain ⟨rfl, rfl⟩ := same i' zv' hi' hzv'
    exact run_appendZ_grows hE ht he hi h1 hn30 hnb hc hzv hcell hb ho
end Go.Ev
