/- append, on both sides. -/
import Derived.Test.YtgglmmipdfcbpaaDoorEvAp
namespace Go.Ev
variable {E : Env} {β β' : Bond} {s s' : AS} {w w' : World} {P : Program}

theorem Sim.heap (h : Sim E β s w) (e : w'.heap = w.heap) : Sim E β s w' where
  lt i c sh g hi := by rw [e]; exact h.lt i c sh g hi
  blk i c sh g b hi hb := by rw [e]; exact h.blk i c sh g b hi hb
  inj := h.inj
  fam := h.fam
  ng := h.ng
  glob := h.glob
  laid c hc := by rw [e]; exact h.laid c hc
theorem Post.heapL {w0 : World} (h : Post E β s w β' s' w') (e : w0.heap = w.heap) (es : Same w0 w) : Post E β s w0 β' s' w' where
  same := es.trans h.same
  ext := h.ext
  new := h.new
  sim := h.sim
  size := by rw [e]; exact h.size
  frame c hc hn := by rw [e]; exact h.frame c (by rw [← e]; exact hc) hn
  fresh i c sh g a b := by rw [e]; exact h.fresh i c sh g a b

theorem newRow_kept (e : TypeId) (t : Tr Value) (n len cap : Nat) : Kept s (newRow s e t n len cap).2 := (Kept.alloc s _).trans (.alloc _ _)
theorem newRow_sim (h : Sim E β s w) {e : TypeId} {z : Nat} (hz : E.size e = some z) {t : Tr Value} {n len cap m : Nat} {arr : Array Value} (fro' : Nat × Nat) (hfr : ∀ k, k < arr.size → fro'.1 ≤ k → k < fro'.2 → False)
    (hc : ∀ i v, i < n → t.get i = some v → ∃ v', arr[i]? = some v' ∧ VR β v v' ∧ oneCell v = true) (hn : n ≤ arr.size) (hm : cap ≤ m) (hN : m * z ≤ arr.size) :
    ∃ β', Post E β s w β' (newRow s e t n len cap).2 (push w (.cells arr e fro')) ∧ VR β' (newRow s e t n len cap).1 (.slice (some ⟨w.heap.size, 0, none⟩) len m) := by
  have p1 := Post.hidden h (.fam [(s.next + 1, n)])
  have hext : Ext β (upd β (s.next + 1) (w.heap.size, 0, some (arr.size, z))) := .upd (h.unset (Nat.le_succ _))
  have p2 := Post.made (b := .cells n t e (0, 0) (some (s.next, 0))) (o := .cells arr e fro') (g := some (arr.size, z)) p1.sim
    (.cells rfl (fun N z' he => by cases he; exact ⟨rfl, hz⟩) (fun he => by cases he) (by omega) (fun i v hi hv => by
      obtain ⟨v', h1, h2, h3⟩ := hc i v hi hv
      exact ⟨v', by rw [Nat.zero_add]; exact h1, h2.ext hext, h3⟩) (fun k h0 h1 h2 => by rw [Nat.zero_add] at *; exact (hfr k h0 h1 h2).elim))
    (fun f rel k he => by
      cases he
      refine ⟨Nat.lt_succ_self _, h.unset (Nat.le_refl _), [(s.next + 1, n)], Tr.get_set_eq _ _ _, ?_, ⟨fun x hx => by simp at hx, trivial⟩⟩
      rw [Nat.zero_add]
      exact List.mem_singleton.2 rfl)
  exact ⟨_, p1.trans p2 (.alloc _ _) (.alloc _ _), .slice (sh := 0) (g := some (arr.size, z)) 0 len (upd_eq _ _ _) hm (fun he => by cases he) (fun N z' he => by cases he; omega)⟩

/-! the family's record -/
theorem killAbove_kept (top : Nat) : ∀ (l : List (Nat × Nat)) (s : AS), Kept s (killAbove top l s).2 := by
  intro l
  induction l with
  | nil => exact fun s => .refl s
  | cons x l ih =>
    intro s
    unfold killAbove
    cases Nat.ble x.2 top with
    | true => exact .refl s
    | false => exact (Kept.kill s x.1).trans (ih _)
theorem killAbove_post (top : Nat) : ∀ (l : List (Nat × Nat)) (s : AS), Sim E β s w → Post E β s w β (killAbove top l s).2 w := by
  intro l
  induction l with
  | nil => exact fun s h => .refl h
  | cons x l ih =>
    intro s h
    unfold killAbove
    cases Nat.ble x.2 top with
    | true => exact .refl h
    | false => exact (Post.kill h x.1).trans (ih _ (Post.kill h x.1).sim) (.kill _ _) (killAbove_kept _ _ _)
theorem killAbove_next (top : Nat) : ∀ (l : List (Nat × Nat)) (s : AS), (killAbove top l s).2.next = s.next := by
  intro l
  induction l with
  | nil => exact fun s => rfl
  | cons x l ih =>
    intro s
    unfold killAbove
    cases Nat.ble x.2 top with
    | true => rfl
    | false => exact (ih _).trans (kill_next s x.1)
theorem killAbove_rec (top : Nat) : ∀ (l : List (Nat × Nat)) (s : AS) {f : Nat} {ids : List (Nat × Nat)}, s.heap.get f = some (.fam ids) → (killAbove top l s).2.heap.get f = some (.fam ids) := by
  intro l
  induction l with
  | nil => exact fun _ _ _ h => h
  | cons x l ih =>
    intro s f ids h
    unfold killAbove
    cases Nat.ble x.2 top with
    | true => exact h
    | false => exact ih _ (kill_rec s x.1 h)
/-- What is alive behind it. -/
theorem killAbove_get (top : Nat) : ∀ (l : List (Nat × Nat)) (s : AS) (k : Nat), Sorted l →
    ((killAbove top l s).2.heap.get k = s.heap.get k ∧ (∀ t, (k, t) ∈ l → famOf (s.heap.get k) ≠ none → (k, t) ∈ (killAbove top l s).1) ∨ (killAbove top l s).2.heap.get k = some .dead ∧ ∃ t, (k, t) ∈ l ∧ top < t) := by
  intro l
  induction l with
  | nil => exact fun s k _ => .inl ⟨rfl, fun t h => by cases h⟩
  | cons x l ih =>
    intro s k hs
    unfold killAbove
    cases hx : Nat.ble x.2 top with
    | true => exact .inl ⟨rfl, fun t h _ => h⟩
    | false =>
      have hgt : top < x.2 := Nat.lt_of_not_le fun e => by rw [Nat.ble_eq_true_of_le e] at hx; cases hx
      rcases ih (Ev.kill s x.1) k hs.2 with ⟨h1, h2⟩ | ⟨h1, t, h2, h3⟩
      · rcases kill_get s x.1 k with h | ⟨h, rfl⟩
        · refine .inl ⟨h1.trans h, fun t ht hf => ?_⟩
          cases ht with
          | head =>
            have := kill_self s k
            rw [h] at this
            exact absurd this hf
          | tail _ ht => exact h2 t ht (by rw [h]; exact hf)
        · exact .inr ⟨h1.trans h, x.2, List.mem_cons_self, hgt⟩
      · exact .inr ⟨h1, t, List.mem_cons_of_mem _ h2, h3⟩
theorem killAbove_left (top : Nat) : ∀ (l : List (Nat × Nat)) (s : AS), Sorted l → Sorted (killAbove top l s).1 ∧ ∀ x ∈ (killAbove top l s).1, x.2 ≤ top := by
  intro l
  induction l with
  | nil => exact fun s _ => ⟨trivial, fun x h => by cases h⟩
  | cons x l ih =>
    intro s hs
    unfold killAbove
    cases hx : Nat.ble x.2 top with
    | true =>
      refine ⟨hs, fun y hy => ?_⟩
      have := le_of_ble hx
      cases hy with
      | head => exact this
      | tail _ hy => exact Nat.le_trans (hs.1 y hy) this
    | false => exact ih _ hs.2

/-- A row that lies in another one's room. -/
theorem Post.overlaid (h : Sim E β s w) {b c sh N z f rel : Nat} {e : TypeId} {fro' : Nat × Nat} {arr arr' : Array Value} (hb : β b = some (c, sh, some (N, z)))
    (hf1 : f < b) (hf2 : β f = none) (fellow : ∀ i sh' g', β i = some (c, sh', g') → alive (s.heap.get i) = true → ∃ ri ni, famOf (s.heap.get i) = some (f, ri, ni) ∧ sh + ri = sh' + rel)
    (hw : w.heap[c]? = some (.cells arr e fro')) {n o mid : Nat} {t : Tr Value} {fro2 : Nat × Nat}
    (hlow : ∀ j x rel' n', β j = some x → famOf (s.heap.get j) = some (f, rel', n') → rel' + n' ≤ rel + o + mid)
    (hsz : arr'.size = arr.size) (hsame : ∀ k, k < sh + o + mid → arr'[k]? = arr[k]?)
    {ids : List (Nat × Nat)} (hrec : s.heap.get f = some (.fam ids)) (hmem : (s.next, rel + o + n) ∈ ids) (hsort : Sorted ids)
    (hbr : BR E (upd β s.next (c, sh + o, some (N, z))) (sh + o) (some (N, z)) (.cells n t e fro2 (some (f, rel + o))) (.cells arr' e fro'))
    (hwr : b < s.mark → ∃ f ∈ s.wr, f ≤ b) :
    Post E β s w (upd β s.next (c, sh + o, some (N, z))) (s.alloc (.cells n t e fro2 (some (f, rel + o)))) (at' w c (.cells arr' e fro')) := by
  have hn := h.unset (Nat.le_refl s.next)
  have hc := (h.lt b c sh _ hb).2
  have hbl := (h.lt b c sh _ hb).1
  have he : Ext β (upd β s.next (c, sh + o, some (N, z))) := .upd hn
  have hh : ∀ i, i < s.next → (s.alloc (.cells n t e fro2 (some (f, rel + o)))).heap.get i = s.heap.get i := fun i hi => Tr.get_set_ne _ _ (by omega)
  have h0 : (s.alloc (.cells n t e fro2 (some (f, rel + o)))).heap.get s.next = some (.cells n t e fro2 (some (f, rel + o))) := Tr.get_set_eq _ _ _
  have old : ∀ i d sh' g', upd β s.next (c, sh + o, some (N, z)) i = some (d, sh', g') → (i = s.next ∧ d = c ∧ sh' = sh + o ∧ g' = some (N, z)) ∨ (β i = some (d, sh', g') ∧ i < s.next ∧ d < w.heap.size) := by
    intro i d sh' g' e
    by_cases hi : i = s.next
    · subst hi; rw [upd_eq] at e; cases e; exact .inl ⟨rfl, rfl, rfl, rfl⟩
    · rw [upd_ne β _ hi] at e; exact .inr ⟨e, h.lt i d sh' g' e⟩
  refine ⟨he, fun i x e n => ?_, ⟨?_, ?_, ?_, ?_, ?_, ?_, ?_⟩, by rw [at_size]; exact Nat.le_refl _, fun d hd hnn => at_ne w _ fun e => hnn b _ hb e, fun i d sh' g' e n => ?_, ⟨rfl, rfl, rfl⟩⟩
  · obtain ⟨d, sh', g'⟩ := x
    rcases old i d sh' g' e with ⟨rfl, _⟩ | ⟨e', _⟩
    · exact Nat.le_refl _
    · rw [n] at e'; cases e'
  · intro i d sh' g' e
    rw [at_size]
    show i < s.next + 1 ∧ _
    rcases old i d sh' g' e with ⟨rfl, rfl, _⟩ | ⟨_, h1, h2⟩ <;> omega
  · intro i d sh' g' b' e hb'
    rcases old i d sh' g' e with ⟨rfl, rfl, rfl, rfl⟩ | ⟨e', h1, h2⟩
    · rw [h0] at hb'; cases hb'
      exact ⟨_, at_eq _ hc, hbr⟩
    · rw [hh i h1] at hb'
      obtain ⟨o', ho', r⟩ := h.blk i d sh' g' b' e' hb'
      by_cases hd : c = d
      · subst hd
        refine ⟨_, at_eq _ hc, ?_⟩
        cases ha : alive (s.heap.get i) with
        | false => rw [hb'] at ha; cases b' <;> first | exact .dead _ | exact absurd ha (by simp [alive])
        | true =>
          obtain ⟨ri, ni, hfm, hsh⟩ := fellow i sh' g' e' ha
          have hl := hlow i _ ri ni e' hfm
          rw [hw] at ho'; cases ho'
          rw [hb'] at hfm
          cases r with
          | dead => cases hfm
          | cells hg hN hz hn hcc hff =>
            rename_i n0 t0 fro0 fam0
            cases fam0 with
            | none => cases hfm
            | some p =>
              cases hfm
              refine .cells hg (fun N z hx => by rw [hsz]; exact hN N z hx) (fun hx => by subst hx; cases hg) (by rw [hsz]; exact hn) (fun k v hk hv => ?_) (fun k hk h1 h2 => hff k (by rw [← hsz]; exact hk) h1 h2)
              obtain ⟨v', hv', rv, h1'⟩ := hcc k v hk hv
              exact ⟨v', by rw [hsame _ (by omega)]; exact hv', rv.ext he, h1'⟩
      · exact ⟨o', by rw [at_ne w _ hd]; exact ho', r.ext he⟩
  · intro i j d sh1 g1 sh2 g2 e e' hne ai aj
    rcases old i d sh1 g1 e with ⟨rfl, hd, rfl, rfl⟩ | ⟨e1, h1, h2⟩ <;> rcases old j d sh2 g2 e' with ⟨rfl, hd', rfl, rfl⟩ | ⟨e2, h3, h4⟩
    · exact absurd rfl hne
    · subst hd
      rw [hh j h3] at aj
      obtain ⟨rj, nj, hfm, hsh⟩ := fellow j sh2 g2 e2 aj
      exact ⟨f, rel + o, n, rj, nj, by rw [h0]; rfl, by rw [hh j h3]; exact hfm, by omega⟩
    · subst hd'
      rw [hh i h1] at ai
      obtain ⟨ri, ni, hfm, hsh⟩ := fellow i sh1 g1 e1 ai
      exact ⟨f, ri, ni, rel + o, n, by rw [hh i h1]; exact hfm, by rw [h0]; rfl, by omega⟩
    · rw [hh i h1] at *; rw [hh j h3] at *
      exact h.inj i j d sh1 g1 sh2 g2 e1 e2 hne ai aj
  · intro i x f' rel' n' e hf
    obtain ⟨d, sh', g'⟩ := x
    rcases old i d sh' g' e with ⟨rfl, rfl, _⟩ | ⟨e', h1, h2⟩
    · rw [h0] at hf; cases hf
      exact ⟨Nat.lt_trans hf1 hbl, by rw [upd_ne β _ (by omega)]; exact hf2, ids, by rw [hh f (by omega)]; exact hrec, hmem, hsort⟩
    · rw [hh i h1] at hf
      obtain ⟨h1', h2', ids', h3, h4, h5⟩ := h.fam i _ f' rel' n' e' hf
      exact ⟨h1', by rw [upd_ne β _ (by omega)]; exact h2', ids', by rw [hh f' (Nat.lt_trans h1' h1)]; exact h3, h4, h5⟩
  · exact Nat.le_succ_of_le h.ng
  · intro g' hg' hl
    have := h.ng
    rw [upd_ne β _ (by omega)]
    exact h.glob g' hg' hl
  · intro d hd
    obtain ⟨⟨o', h1, h2⟩, h3⟩ := h.laid d hd
    refine ⟨⟨o', by rw [at_ne w _ (h3 b _ hb)]; exact h1, h2⟩, fun i x e => ?_⟩
    obtain ⟨d', sh', g'⟩ := x
    rcases old i d' sh' g' e with ⟨_, rfl, _⟩ | ⟨e', _⟩
    · exact fun ed => h3 b _ hb ed
    · exact h3 i _ e'
  · rcases old i d sh' g' e with ⟨rfl, rfl, _⟩ | ⟨e', _⟩
    · exact .inr ⟨b, sh, _, hb, hwr⟩
    · rw [n] at e'; cases e'

theorem behind_kept {t : Tr Value} {n : Nat} {e : TypeId} {fro : Nat × Nat} {o mid f rel len : Nat} {v : Value} (hr : behind s t n e fro o mid f rel len = some (v, s')) : Kept s s' := by
  unfold behind at hr
  split at hr
  · cases hr
    exact (killAbove_kept _ _ _).trans ((Kept.put _ _ _).trans (.alloc _ _))
  · cases hr
/-- The family's record behind an append. -/
theorem record_sim (h : Sim E β s w) {f : Nat} {ids : List (Nat × Nat)} (hids : s.heap.get f = some (.fam ids)) (hf2 : β f = none) (hsort : Sorted ids) (top new : Nat) (hle : top ≤ new) :
    Post E β s w β ((killAbove top ids s).2.put f (.fam (((killAbove top ids s).2.next, new) :: (killAbove top ids s).1))) w ∧
    (∀ j x rel' n', β j = some x → famOf (((killAbove top ids s).2.put f (.fam (((killAbove top ids s).2.next, new) :: (killAbove top ids s).1))).heap.get j) = some (f, rel', n') → rel' + n' ≤ top) ∧
    (∀ j x, β j = some x → alive (((killAbove top ids s).2.put f (.fam (((killAbove top ids s).2.next, new) :: (killAbove top ids s).1))).heap.get j) = true → ((killAbove top ids s).2.put f (.fam (((killAbove top ids s).2.next, new) :: (killAbove top ids s).1))).heap.get j = s.heap.get j) ∧
    Sorted (((killAbove top ids s).2.next, new) :: (killAbove top ids s).1) := by
  have p1 := killAbove_post (E := E) (β := β) (w := w) top ids s h
  have hleft := killAbove_left top ids s hsort
  have hs : Sorted (((killAbove top ids s).2.next, new) :: (killAbove top ids s).1) := ⟨fun x hx => Nat.le_trans (hleft.2 x hx) hle, hleft.1⟩
  have hin : ∀ i x rel' n', β i = some x → famOf ((killAbove top ids s).2.heap.get i) = some (f, rel', n') → (i, rel' + n') ∈ (killAbove top ids s).1 := by
    intro i x rel' n' hi hf
    rcases killAbove_get top ids s i hsort with ⟨h1, h2⟩ | ⟨h1, _⟩
    · rw [h1] at hf
      obtain ⟨_, _, ids0, h3, h4, _⟩ := h.fam i x f rel' n' hi hf
      rw [hids] at h3; cases h3
      exact h2 _ h4 (by rw [hf]; exact fun e => by cases e)
    · rw [h1] at hf; cases hf
  have hne : ∀ j x, β j = some x → f ≠ j := fun j x hj e => by subst e; rw [hf2] at hj; cases hj
  refine ⟨p1.trans (Post.turned p1.sim (killAbove_rec top ids s hids) hs (fun i x rel' n' hi hf => List.mem_cons_of_mem _ (hin i x rel' n' hi hf)) hf2) (killAbove_kept _ _ _) (.put _ _ _), fun j x rel' n' hj hf => ?_, fun j x hj ha => ?_, hs⟩
  · rw [show ((killAbove top ids s).2.put f _).heap.get j = (killAbove top ids s).2.heap.get j from Tr.get_set_ne _ _ (hne j x hj)] at hf
    exact hleft.2 _ (hin j x rel' n' hj hf)
  · have e : ((killAbove top ids s).2.put f (.fam (((killAbove top ids s).2.next, new) :: (killAbove top ids s).1))).heap.get j = (killAbove top ids s).2.heap.get j := Tr.get_set_ne _ _ (hne j x hj)
    rw [e] at ha ⊢
    rcases killAbove_get top ids s j hsort with ⟨h1, _⟩ | ⟨h1, _⟩
    · exact h1
    · rw [h1] at ha; cases ha

theorem behind_copy (h : Sim E β s w) {b c sh nb f rel : Nat} {g : Gr} {tb : Tr Value} {e : TypeId} {fro : Nat × Nat} (hb : β b = some (c, sh, g)) (hbc : s.heap.get b = some (.cells nb tb e fro (some (f, rel))))
    {t : Tr Value} {n o mid len m z : Nat} {v : Value} {arr : Array Value} (hr : behind s t n e fro o mid f rel len = some (v, s')) (hz : E.size e = some z) (hmid : mid ≤ n)
    (hc : ∀ i v, i < n → t.get i = some v → ∃ v', arr[i]? = some v' ∧ VR β v v' ∧ oneCell v = true) (hn : n ≤ arr.size) (hm : len ≤ m) (hN : m * z ≤ arr.size) :
    ∃ β', Post E β s w β' s' (push w (.cells arr e)) ∧ VR β' v (.slice (some ⟨w.heap.size, 0, none⟩) len m) := by
  obtain ⟨hf1, hf2, ids, hids, hmem, hsort⟩ := h.fam b _ f rel nb hb (by rw [hbc]; rfl)
  unfold behind at hr
  rw [hids] at hr
  cases hr
  obtain ⟨p, _, _, hs⟩ := record_sim h hids hf2 hsort (rel + o + mid) (rel + o + n) (by omega)
  have hnx : s.next ≤ (killAbove (rel + o + mid) ids s).2.next := by rw [killAbove_next]; exact Nat.le_refl _
  have hbl := (h.lt b c sh g hb).1
  have hext : Ext β (upd β ((killAbove (rel + o + mid) ids s).2.next) (w.heap.size, 0, some (arr.size, z))) := .upd (p.sim.unset (Nat.le_refl _))
  have p2 := Post.made (b := .cells n t e (fro.1 - o, fro.2 - o) (some (f, rel + o))) (o := .cells arr e) (g := some (arr.size, z)) p.sim
    (.cells rfl (fun N z' he => by cases he; exact ⟨rfl, hz⟩) (fun he => by cases he) (by omega) (fun i v hi hv => by
      obtain ⟨v', h1, h2, h3⟩ := hc i v hi hv
      exact ⟨v', by rw [Nat.zero_add]; exact h1, h2.ext hext, h3⟩) (fun k _ h1 h2 => by simp at h2))
    (fun f' rel' k he => by
      cases he
      exact ⟨Nat.lt_of_lt_of_le (Nat.lt_trans hf1 hbl) hnx, hf2, _, Tr.get_set_eq _ _ _, List.mem_cons_self, hs⟩)
  exact ⟨_, p.trans p2 ((killAbove_kept _ _ _).trans (.put _ _ _)) (.alloc _ _), .slice (sh := 0) (g := some (arr.size, z)) 0 len (upd_eq _ _ _) hm (fun he => by cases he) (fun N z' he => by cases he; omega)⟩

theorem behind_over (h : Sim E β s w) {b c sh nb f rel : Nat} {g : Gr} {tb : Tr Value} {e : TypeId} {fro fro' : Nat × Nat} (hb : β b = some (c, sh, g)) (hbc : s.heap.get b = some (.cells nb tb e fro (some (f, rel))))
    {t : Tr Value} {n o mid len m z : Nat} {v : Value} {arr arr' : Array Value} (hr : behind s t n e fro o mid f rel len = some (v, s')) (hz : E.size e = some z) (hmid : mid ≤ n) (hw : w.heap[c]? = some (.cells arr e fro'))
    (hsz : arr'.size = arr.size) (hsame : ∀ k, k < sh + o + mid → arr'[k]? = arr[k]?)
    (hc : ∀ i v, i < n → t.get i = some v → ∃ v', arr'[sh + o + i]? = some v' ∧ VR β v v' ∧ oneCell v = true) (hn : sh + o + n ≤ arr.size) (hm : len ≤ m) (hN : sh + o + m * z ≤ arr.size) :
    ∃ β', Post E β s w β' s' (at' w c (.cells arr' e fro')) ∧ VR β' v (.slice (some ⟨c, sh + o, none⟩) len m) := by
  obtain ⟨hf1, hf2, ids, hids, hmem, hsort⟩ := h.fam b _ f rel nb hb (by rw [hbc]; rfl)
  obtain ⟨arr0, fro0, ha0, hg0, hN0, hz0, hn0, hc0, hfr0⟩ := h.row hb hbc
  rw [hw] at ha0; cases ha0
  obtain ⟨⟨N, z0⟩, rfl⟩ : ∃ G, g = some G := by cases g with | none => cases hg0 | some G => exact ⟨G, rfl⟩
  obtain ⟨hsN, hz1⟩ := hN0 N z0 rfl
  rw [hz] at hz1; cases hz1
  unfold behind at hr
  rw [hids] at hr
  cases hr
  obtain ⟨p, hlow, hkeep, hs⟩ := record_sim h hids hf2 hsort (rel + o + mid) (rel + o + n) (by omega)
  have hbl := (h.lt b c sh _ hb).1
  have hext : Ext β (upd β ((killAbove (rel + o + mid) ids s).2.next) (c, sh + o, some (N, z))) := .upd (p.sim.unset (Nat.le_refl _))
  have p2 := Post.overlaid (n := n) (o := o) (mid := mid) (t := t) (fro2 := (fro.1 - o, fro.2 - o)) (arr' := arr') p.sim hb hf1 hf2 (fun i sh' g' hi ha => by
      have hk := hkeep i _ hi ha
      rw [hk] at ha ⊢
      by_cases hib : i = b
      · subst hib
        rw [hb] at hi; cases hi
        exact ⟨rel, nb, by rw [hbc]; rfl, rfl⟩
      · obtain ⟨f', ri, ni, rj, nj, h1, h2, h3⟩ := h.inj b i c sh _ sh' g' hb hi (Ne.symm hib) (by rw [hbc]; rfl) ha
        rw [hbc] at h1; cases h1
        exact ⟨rj, nj, h2, h3⟩) hw hlow hsz hsame (Tr.get_set_eq _ _ _) List.mem_cons_self hs
    (.cells rfl (fun N' z' he => by cases he; exact ⟨by rw [hsz]; exact hsN, hz⟩) (fun he => by cases he) (by rw [hsz]; exact hn) (fun i v hi hv => by
      obtain ⟨v', h1, h2, h3⟩ := hc i v hi hv
      exact ⟨v', h1, h2.ext hext, h3⟩) (fun k hk h1 h2 => by
        have := hfr0 (o + k) (by omega) (by omega) (by omega)
        show fro.1 - o ≤ k ∧ k < fro.2 - o
        omega))
    (fun hlt => ⟨f, mem_put _ f _ (by rw [(killAbove_kept _ _ _).mark]; exact Nat.lt_trans hf1 (by rw [show ((killAbove (rel + o + mid) ids s).2.put f _).mark = s.mark from (killAbove_kept _ _ _).mark] at hlt; exact hlt)), Nat.le_of_lt hf1⟩)
  exact ⟨_, p.trans p2 ((killAbove_kept _ _ _).trans (.put _ _ _)) (.alloc _ _), .slice (b := (killAbove (rel + o + mid) ids s).2.next) (sh := sh + o) (g := some (N, z)) 0 len (upd_eq _ _ _) hm (fun he => by cases he) (fun N' z' he => by cases he; omega)⟩
end Go.Ev
