/- New rows, conversions, texts. -/
import Derived.Test.YtgglmmipdfcbpaaDoorEvO3
namespace Go.Ev
variable {E : Env} {β β' : Bond} {s s' : AS} {w w' : World} {P : Program}

theorem wrap64 {n : Nat} (h : n < 2 ^ 63) : IntKind.i64.wrap (n : Int) = n := wr_small (k := .i64) h
/-- A row that is told by its cells. -/
theorem rowC_sim (h : Sim E β s w) {n : Nat} {c : Tr Value} {arr : Array Value} (e : TypeId) (hc : CR β n c arr) (len : Nat) (cap : Nat) :
    Post E β s w (upd β s.next (w.heap.size, 0, none)) (s.alloc (.cells n c e (0, 0) none)) (push w (.cells arr e)) ∧
    VR (upd β s.next (w.heap.size, 0, none)) (.slice (some ⟨s.next, 0, none⟩) len cap) (.slice (some ⟨w.heap.size, 0, none⟩) len cap) := by
  have hext : Ext β (upd β s.next (w.heap.size, 0, none)) := .upd (h.unset (Nat.le_refl _))
  refine ⟨Post.made h (.cells rfl (fun N z e => by cases e) (fun _ => ⟨rfl, hc.1⟩) (by rw [hc.1]; omega) (fun i v hi hg => ?_) (fun k _ _ h2 => by simp at h2)) (fun f rel n e => by cases e),
    .slice (sh := 0) 0 len (upd_eq _ _ _) (Nat.le_refl _) (fun _ => rfl) (fun N z e => by cases e)⟩
  obtain ⟨v', h2, r, h3⟩ := hc.2 i v hi hg
  exact ⟨v', by rw [Nat.zero_add]; exact h2, r.ext hext, h3⟩
theorem no_zeros {zv : Value} {z n : Nat} (hz : (parts zv).length = z) (h : n * z = 0) : Array.map (fun _ => (default : Value)) (Array.range 0) = (zeros (parts zv) n).toArray := by
  have : (zeros (parts zv) n) = [] := List.length_eq_zero_iff.1 (by rw [zeros_len, hz]; exact h)
  rw [this]; simp
theorem zeroRow_sim {e : TypeId} {n m : Nat} {c : Tr Value} (h : zeroRow E e n = some (c, m)) :
    ∃ z zv, E.size e = some z ∧ E.zero e = some zv ∧ (parts zv).length = z ∧ m = n * z ∧ n * z ≤ 2 ^ 24 ∧ CR β m c (zeros (parts zv) n).toArray := by
  obtain ⟨z, h1, h2⟩ := obind_some h
  obtain ⟨zv, h3, h4⟩ := obind_some h2
  obtain ⟨h5, h6⟩ := only_some h4
  cases h6
  simp only [Bool.and_eq_true] at h5
  have hz := eq_of_beq h5.1.2
  refine ⟨z, zv, h1, h3, hz, rfl, le_of_ble h5.1.1.1, ?_⟩
  have := CR.list (zeros_all (plain_parts (β := β) h5.1.1.2) n) (zeros_one h5.2 n)
  rw [zeros_len, hz] at this
  exact this
theorem buildSlice_sim (hE : EnvOK E P) (h : Sim E β s w) {t e : TypeId} {len sz n : Nat} {ps ps' : List (Nat × Value)} {z c : Tr Value} (hp : All2 (fun p q => p.1 = q.1 ∧ VR β p.2 q.2) ps ps')
    (he : sliceElem E t = some e) (hz : zeroRow E e len = some (z, n)) (hs : E.size e = some sz) (hf : Ev.fill (placeAt (.arr sz)) n ps z = some c) :
    ∃ w' β', (Instr.buildSlice t len ps'.toArray).run P w = .ok (.slice (some ⟨w.heap.size, 0, none⟩) len len) w' ∧ Post E β s w β' (s.alloc (.cells n c e (0, 0) none)) w' ∧
      VR β' (.slice (some ⟨s.next, 0, none⟩) len len) (.slice (some ⟨w.heap.size, 0, none⟩) len len) := by
  obtain ⟨z0, zv, h1, h2, h3, rfl, h5, h6⟩ := zeroRow_sim (β := β) hz
  rw [hs] at h1; cases h1
  obtain ⟨arr, h7, h8⟩ := fill_sim hp h6 hf
  obtain ⟨p, r⟩ := rowC_sim h e h8 len len
  refine ⟨_, _, ?_, p, r⟩
  have hpe : (fun i => some (i * sz, sz)) = placeAt (.arr sz) := by funext x; rfl
  have hze := zeros_eq h3 len
  have hb : ¬ 16777216 < len * sz := by omega
  by_cases h0 : len * sz = 0
  · simp only [Instr.buildSlice, Sem.run_bind, run_und hE (elem_ok he), run_size hE hs, Result.andThen_ok]
    simp [h0, hpe]
    rw [no_zeros h3 h0, h7]
    simp [Go.newRow, newObj, Sem.run, push]
  · simp only [if_neg h0] at hze
    simp only [Instr.buildSlice, Sem.run_bind, run_und hE (elem_ok he), run_size hE hs, Result.andThen_ok]
    simp [h0, hpe, hb, run_zero hE h2]
    rw [hze, h7]
    simp [Go.newRow, newObj, Sem.run, push]
theorem makeRow_sim (hE : EnvOK E P) (h : Sim E β s w) {t e : TypeId} {len cap : Nat} {k k' : IntKind} {r : Option Value × AS} (he : sliceElem E t = some e) (hr : makeRow E s e len cap = some r) :
    ∃ w' β', (Instr.makeSlice t (.int k len) (.int k' cap)).run P w = .ok (.slice (some ⟨w.heap.size, 0, none⟩) len cap) w' ∧ Post E β s w β' r.2 w' ∧ ∃ u, r.1 = some u ∧ VR β' u (.slice (some ⟨w.heap.size, 0, none⟩) len cap) := by
  obtain ⟨i, h1, h2⟩ := obind_some hr
  obtain ⟨h3, h4⟩ := only_some h2
  simp only [Bool.and_eq_true] at h3
  have h31 : len ≤ cap := le_of_ble h3.1
  have h32 : (cap + 1) * (i.bytes + i.size + 1) ≤ 2 ^ 40 := le_of_ble h3.2
  obtain ⟨z, n, h5, h6⟩ := pbind_some h4
  cases h6
  obtain ⟨z0, zv, h7, h8, h9, rfl, _, h10⟩ := zeroRow_sim (β := β) h5
  have hsz : E.size e = some i.size := by unfold Env.size; rw [h1]; rfl
  rw [hsz] at h7; cases h7
  obtain ⟨p, q⟩ := rowC_sim h e h10 len cap
  refine ⟨_, _, ?_, p, _, rfl, q⟩
  have hze := zeros_eq h9 cap
  have hcap : cap + 1 ≤ 2 ^ 40 := Nat.le_trans (by
    have : (cap + 1) * 1 ≤ (cap + 1) * (i.bytes + i.size + 1) := Nat.mul_le_mul_left _ (by omega)
    omega) h32
  have hby : i.bytes * cap ≤ 2 ^ 40 := by
    have : cap * i.bytes ≤ (cap + 1) * (i.bytes + i.size + 1) := Nat.mul_le_mul (by omega) (by omega)
    rw [Nat.mul_comm]; omega
  have w1 := wrap64 (n := len) (by omega)
  have w2 := wrap64 (n := cap) (by omega)
  have c1 : ¬ ((cap : Int) < 0) := by omega
  have c2 : ¬ ((len : Int) < 0) := by omega
  have c3 : ¬ ((cap : Int) < (len : Int)) := by omega
  have c4 : ¬ (281474976710656 : Int) < (i.bytes : Int) * (cap : Int) := by rw [← Int.natCast_mul]; omega
  by_cases h0 : cap * i.size = 0
  · simp [Instr.makeSlice, run_und hE (elem_ok he), asInt, asIntOf, run_info hE h1, w1, w2, c1, c2, c3, c4, run_size hE hsz, h0]
    rw [no_zeros h9 h0]
    simp [Go.newRow, newObj, Sem.run, push]
  · simp only [if_neg h0] at hze
    simp [Instr.makeSlice, run_und hE (elem_ok he), asInt, asIntOf, run_info hE h1, w1, w2, c1, c2, c3, c4, run_size hE hsz, h0, run_zero hE h8]
    rw [hze]
    simp [Go.newRow, newObj, Sem.run, push]
end Go.Ev
