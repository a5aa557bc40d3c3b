/- Conversions, texts, maps, types. -/
import Derived.Test.YtgglmmipdfcbpaaDoorEvO4
import Derived.Laws.BytesString
namespace Go.Ev
variable {E : Env} {β β' : Bond} {s s' : AS} {w w' : World} {P : Program}

theorem toBytes_some : ∀ {l : List Value} {b r : ByteArray}, toBytes l b = some r → ∃ ns : List Int, l = ns.map (Value.int .u8) ∧ r = ns.foldl (fun r n => r.push (UInt8.ofNat n.toNat)) b := by
  intro l
  induction l with
  | nil => intro b r h; cases h; exact ⟨[], rfl, rfl⟩
  | cons v l ih =>
    intro b r h
    cases v <;> first | (cases h; done) | skip
    rename_i k n
    cases k <;> first | (cases h; done) | skip
    obtain ⟨ns, h1, h2⟩ := ih (show toBytes l (b.push (UInt8.ofNat n.toNat)) = some r from h)
    exact ⟨n :: ns, by simp [h1], by simpa using h2⟩
theorem All2.bytes {ns : List Int} {l' : List Value} (h : All2 (VR β) (ns.map (Value.int .u8)) l') : l' = ns.map (Value.int .u8) := by
  induction ns generalizing l' with
  | nil => cases h; rfl
  | cons n ns ih =>
    cases h with
    | cons h1 h2 => cases h1; rw [ih h2]; rfl
theorem toStr_sim (hE : EnvOK E P) (h : Sim E β s w) {src dst : TypeId} {x' : Value} {base : Option Addr} {len cap : Nat} {v : Value} (hd : E.und dst = some .string) (hx : VR β (.slice base len cap) x') (hr : toStr E s src base len = some v) :
    ∃ v', (Go.convert src dst x').run P w = .ok v' w ∧ VR β v v' := by
  obtain ⟨e, he, hr⟩ := obind_some hr
  have hu := elem_ok he
  split at hr
  · rename_i heu hrx
    cases hr
    cases hx
    refine ⟨.string .empty, ?_, .string _⟩
    simp [Go.convert, run_und hE hu, run_und hE hd, run_und hE heu, Conv.bytesToString]
  · rename_i b o heu hrx
    obtain ⟨l, h1, h2⟩ := obind_some hr
    obtain ⟨r, h3, h4⟩ := obind_some h2
    cases h4
    obtain ⟨ns, rfl, rfl⟩ := toBytes_some h3
    refine ⟨_, ?_, .string _⟩
    cases hx with
    | slice _ _ hb =>
      obtain ⟨l', hl, r, _⟩ := cells_sim (P := P) h hb h1
      have := r.bytes
      subst this
      simp [Go.convert, run_und hE hu, run_und hE hd, run_und hE heu, run_bytesToString w _ _ _ ns (hl w rfl)]
    | tail _ hb =>
      have : ns = [] := by
        have h9 : some [] = some (ns.map (Value.int .u8)) := h1
        exact List.map_eq_nil_iff.1 (Option.some.inj h9).symm
      subst this
      have hl : ∀ c' o', (loadCells ⟨c', o', none⟩ 0).run P w = .ok (([] : List Int).map (Value.int .u8)).toArray w := fun c' o' => by simp [loadCells, loadCellsFrom]
      simp [Go.convert, run_und hE hu, run_und hE hd, run_und hE heu, run_bytesToString w _ _ _ [] (hl _ _)]
  · cases hr
theorem bytesOf_len (b : ByteArray) : (bytesOf b).length = b.size := by simp [bytesOf]
theorem bytesOf_one (b : ByteArray) : allOne (bytesOf b) = true := by
  unfold bytesOf
  induction b.data.toList with
  | nil => rfl
  | cons c l ih => simpa [allOne, oneCell] using ih
theorem bytesOf_all (b : ByteArray) : All2 (VR β) (bytesOf b) (bytesOf b) := by
  unfold bytesOf
  induction b.data.toList with
  | nil => exact .nil
  | cons c l ih => exact .cons (.int _ _) ih
theorem bytesOf_arr (b : ByteArray) : (b.data.map fun c => Value.int .u8 (c.toNat : Int)) = (bytesOf b).toArray := by
  unfold bytesOf
  apply Array.ext'
  simp
theorem run_newRow (w : World) (e : TypeId) (arr : Array Value) : (Go.newRow e arr).run P w = .ok ⟨w.heap.size, 0, none⟩ (push w (.cells arr e)) := by
  simp [Go.newRow, newObj, Sem.run, push]
theorem run_mark (w : World) (e : TypeId) (arr : Array Value) : (markStringish ⟨w.heap.size, 0, none⟩).run P (push w (.cells arr e)) = .ok () (push w (.cells arr e (arr.size, arr.size + 1))) := by
  have h1 : (push w (.cells arr e)).shape? w.heap.size = some (e, arr.size) := by simp [World.shape?, push_new]
  have h2 : (push w (.cells arr e)).freeze ⟨w.heap.size, arr.size, none⟩ 1 = push w (.cells arr e (arr.size, arr.size + 1)) := by
    unfold World.freeze push
    rw [if_neg (by decide)]
    congr 1
    apply Array.ext_getElem?
    intro i
    by_cases hi : w.heap.size = i
    · subst hi
      rw [Array.getElem?_modify, if_pos rfl, Array.getElem?_push, if_pos rfl, Array.getElem?_push, if_pos rfl]
      simp
    · rw [Array.getElem?_modify, if_neg hi, Array.getElem?_push, Array.getElem?_push, if_neg (Ne.symm hi), if_neg (Ne.symm hi)]
  unfold markStringish
  simp only [Sem.run_bind, Go.shape, Sem.run, h1, Result.andThen_ok, freeze, h2]
theorem ofStr_sim (hE : EnvOK E P) (h : Sim E β s w) {src dst : TypeId} {b : ByteArray} {r : Value × AS} (hs : E.und src = some .string) (hr : ofStr E s dst b = some r) :
    ∃ v' w' β', (Go.convert src dst (.string b)).run P w = .ok v' w' ∧ Post E β s w β' r.2 w' ∧ VR β' r.1 v' := by
  obtain ⟨e, he, hr⟩ := obind_some hr
  have hu := elem_ok he
  split at hr
  · rename_i heu
    obtain ⟨z, h1, h2⟩ := obind_some hr
    obtain ⟨h3, h4⟩ := only_some h2
    cases h4
    simp only [Bool.and_eq_true] at h3
    have := eq_of_beq h3.2
    subst this
    have hd : Sim E β s (drewn w) := h.heap rfl
    obtain ⟨N, hN, hrun⟩ : ∃ N, b.size ≤ N ∧ (choose (.appendCap b.size 0 e)).run P w = .ok N (drewn w) := ⟨_, by omega, run_appendCap w b.size 0 e⟩
    have hlen : ((bytesOf b).toArray ++ Array.replicate (N - b.size) (Value.int .u8 0)).size = N := by
      simp [bytesOf_len]; omega
    obtain ⟨β', p, q⟩ := newRow_sim (t := ofList (bytesOf b) 0 .nil) (n := b.size) (len := b.size) (cap := b.size) (m := N) (arr := (bytesOf b).toArray ++ Array.replicate (N - b.size) (Value.int .u8 0)) hd h1 (N, N + 1)
      (fun k h1 h2 _ => by rw [hlen] at h1; exact absurd h2 (by simp; omega)) (fun i v hi hg => by
        rw [get_ofList, if_pos (by rw [bytesOf_len]; omega)] at hg
        exact (bytesOf_all b).at (bytesOf_one b) (show (bytesOf b)[i]? = some v by simpa using hg)) (by rw [hlen]; exact hN) hN (by rw [hlen]; omega)
    refine ⟨_, _, β', ?_, p.heapL rfl ⟨rfl, rfl, rfl⟩, q⟩
    have hm := run_mark (P := P) (drewn w) e ((bytesOf b).toArray ++ Array.replicate (N - b.size) (Value.int .u8 0))
    rw [hlen] at hm
    simp only [Go.convert, Sem.run_bind, run_und hE hu, run_und hE hs, run_und hE heu, Result.andThen_ok, Conv.stringToBytes, hrun, bytesOf_arr, run_newRow, hm, Sem.run_pure]
  · cases hr
theorem convert_sim (hE : EnvOK E P) {src dst : TypeId} {x x' : Value} {v : Value} (hx : VR β x x') (h : Ev.convert E src dst x = some v) :
    (Go.convert src dst x').run P w = .ok v w ∧ bare v = true := by
  unfold Ev.convert at h
  split at h
  · rename_i d k k' n hs hd
    cases h; cases hx
    refine ⟨?_, rfl⟩
    rw [wr_eq]
    simp [Go.convert, run_und hE hs, run_und hE hd, Conv.intToInt]
  · rename_i b hs hd
    cases h; cases hx
    refine ⟨?_, rfl⟩
    simp [Go.convert, run_und hE hs, run_und hE hd]
  · cases h
end Go.Ev
