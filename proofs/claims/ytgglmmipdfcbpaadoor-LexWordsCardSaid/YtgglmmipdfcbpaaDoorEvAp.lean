/- append, on the program's side. -/
import Derived.Test.YtgglmmipdfcbpaaDoorEvT
namespace Go.Ev
variable {E : Env} {β β' : Bond} {s s' : AS} {w w' : World} {P : Program}

theorem elem_ok {t e : TypeId} (h : sliceElem E t = some e) : E.und t = some (.slice e) := by
  unfold sliceElem at h
  split at h
  · rename_i h'; cases h; exact h'
  · cases h
/-- The same world, but for the tape's place. -/
def drewn (w : World) : World := { w with drawn := w.drawn + 1 }
theorem drewn_heap (w : World) : (drewn w).heap = w.heap := rfl


theorem ofZeros_tail {ts : Array TypeId} {z : Bool} (h : ofZeros E ts.toList.tail = some z) : (ts[1]? = none ∧ z = false) ∨ ∃ u d, ts[1]? = some u ∧ E.und u = some d ∧ isInt d = z := by
  obtain ⟨l⟩ := ts
  cases l with
  | nil => cases h; exact .inl ⟨rfl, rfl⟩
  | cons a l => cases l with
    | nil => cases h; exact .inl ⟨rfl, rfl⟩
    | cons b l =>
      obtain ⟨d, hd, h1⟩ := obind_some h
      cases h1
      exact .inr ⟨b, d, by simp, hd, rfl⟩
theorem run_appendCap (w : World) (need old : Nat) (e : TypeId) : (choose (.appendCap need old e)).run P w = .ok (need + w.tape w.drawn (.appendCap need old e) % (2 ^ 63 - need)) (drewn w) := by
  simp [choose, Sem.run, Question.forced, Question.cut, drewn]
theorem run_askRoom (w : World) (n : Nat) : (askRoom n).run P w = .ok () w := by
  unfold askRoom
  split <;> rfl
theorem growBy_le (need : Nat) : ∀ (r c : Nat), c ≤ need + (need + 768) / 4 → Builtin.growBy need r c ≤ need + (need + 768) / 4 := by
  intro r
  induction r with
  | zero => exact fun c h => h
  | succ r ih =>
    intro c h
    unfold Builtin.growBy
    split
    · exact h
    · exact ih _ (by omega)
theorem next_le {need cap : Nat} (h : cap < need) : Builtin.nextslicecap need cap ≤ 2 * need + 192 := by
  unfold Builtin.nextslicecap
  split
  · omega
  · split
    · omega
    · have := growBy_le need 4 cap (by omega)
      omega
theorem next_room {need cap bytes : Nat} (h : cap < need) (hb : need * (bytes + 1) ≤ 2 ^ 36) : ¬ Builtin.nextslicecap need cap * bytes > 2 ^ 48 := by
  have h1 := Nat.mul_le_mul_right bytes (next_le h)
  have h2 : 1 * (bytes + 1) ≤ need * (bytes + 1) := Nat.mul_le_mul_right _ (by omega)
  have h3 : (2 * need + 192) * bytes ≤ 2 * (need * (bytes + 1)) + 192 * bytes := by
    rw [Nat.add_mul]
    have : 2 * need * bytes ≤ 2 * (need * (bytes + 1)) := by rw [Nat.mul_assoc]; exact Nat.mul_le_mul_left _ (Nat.mul_le_mul_left _ (by omega))
    omega
  omega
theorem need_small {need bytes : Nat} (hb : need * (bytes + 1) ≤ 2 ^ 36) : need ≤ 2 ^ 36 := by
  have : need * 1 ≤ need * (bytes + 1) := Nat.mul_le_mul_left _ (by omega)
  omega

theorem wrap_small {n : Nat} (h : n ≤ 2 ^ 30) : IntKind.i64.wrap (n : Int) = n := by
  have e : ((n : Int) % (2 ^ IntKind.i64.bits : Int)) = n := Int.emod_eq_of_lt (by omega) (by
    rw [show (2 ^ IntKind.i64.bits : Int) = 18446744073709551616 from rfl]; omega)
  unfold IntKind.wrap
  simp only [e]
  rw [if_neg]
  rw [show (2 ^ (IntKind.i64.bits - 1) : Int) = 9223372036854775808 from rfl]
  simp; omega

section run
variable (hE : EnvOK E P) {ts : Array TypeId} {t e ty : TypeId} {i : TypeInfo} {zv : Value} {len cap n : Nat} {base : Option Addr} {new : List Value} {y : Value}
  (h0 : ts[0]? = some t) (he : sliceElem E t = some e) (hi : E.ty e = some i)
include hE h0 he hi
theorem run_appendV_fits {o c : Nat} (h1 : ofZeros E ts.toList.tail = some false) (hl : (Builtin.lenOf y).run P w = .ok n w) (hf : (Builtin.firstCells i.size n y).run P w = .ok new.toArray w) (hc : len + n ≤ cap)
    (hs : (storeCells ⟨c, o + len * i.size, none⟩ new).run P w = .ok () w') :
    (Builtin.append_ ts ty #[.slice (some ⟨c, o, none⟩) len cap, y]).run P w = .ok (.slice (some ⟨c, o, none⟩) (len + n) cap) w' := by
  have hu := run_und hE (elem_ok he)
  have hsize := run_size hE (show E.size e = some i.size by unfold Env.size; rw [hi]; rfl)
  rcases ofZeros_tail h1 with ⟨ht, _⟩ | ⟨u, d, ht, hd, hz⟩
  · simp [Builtin.append_, h0, ht, hu, hsize, hl, hc, hf, add_addr, hs]
  · have hd' := run_und hE hd
    simp [Builtin.append_, h0, ht, hu, hsize, hd']
    cases d <;> first | (simp [isInt] at hz; done) | simp [hl, hc, hf, add_addr, hs]
theorem run_appendV_nil (h1 : ofZeros E ts.toList.tail = some false) (hl : (Builtin.lenOf y).run P w = .ok n w) (hf : (Builtin.firstCells i.size n y).run P w = .ok new.toArray w) (hc : len + n ≤ cap) :
    (Builtin.append_ ts ty #[.slice none len cap, y]).run P w = .ok (.slice none (len + n) cap) w := by
  have hu := run_und hE (elem_ok he)
  have hsize := run_size hE (show E.size e = some i.size by unfold Env.size; rw [hi]; rfl)
  rcases ofZeros_tail h1 with ⟨ht, _⟩ | ⟨u, d, ht, hd, hz⟩
  · simp [Builtin.append_, h0, ht, hu, hsize, hl, hc, hf]
  · have hd' := run_und hE hd
    simp [Builtin.append_, h0, ht, hu, hsize, hd']
    cases d <;> first | (simp [isInt] at hz; done) | simp [hl, hc, hf]
theorem run_appendV_grows {old : List Value} (h1 : ofZeros E ts.toList.tail = some false) (hl : (Builtin.lenOf y).run P w = .ok n w) (hf : (Builtin.firstCells i.size n y).run P (drewn w) = .ok new.toArray (drewn w)) (hc : ¬ len + n ≤ cap)
    (hz : i.zero = some zv) (hb : (len + n) * (i.bytes + 1) ≤ 2 ^ 36) (ho : (Builtin.firstCells i.size len (.slice base len cap)).run P (drewn w) = .ok old.toArray (drewn w)) :
    ∃ N rest, len + n ≤ N ∧ rest.size = (N - (len + n)) * zv.cells.size ∧ (Builtin.append_ ts ty #[.slice base len cap, y]).run P w = .ok (.slice (some ⟨w.heap.size, 0, none⟩) (len + n) N) (push (drewn w) (.cells ((old ++ new).toArray ++ rest) e)) := by
  have hu := run_und hE (elem_ok he)
  have hsize := run_size hE (show E.size e = some i.size by unfold Env.size; rw [hi]; rfl)
  have hzero := run_zero hE (show E.zero e = some zv by unfold Env.zero; rw [hi]; exact hz)
  have hinfo := run_info hE hi
  have hn := next_room (show cap < len + n by omega) hb
  have hs := need_small hb
  have hm' : ¬ (IntKind.i64.max < (len : Int) + (n : Int) ∧ i.bytes = 0) := by
    rw [show IntKind.i64.max = 9223372036854775807 from rfl]; omega
  have hn' : ¬ 281474976710656 < Builtin.nextslicecap (len + n) cap * i.bytes := hn
  simp only [drewn] at ho hf
  refine ⟨len + n + w.tape w.drawn (.appendCap (len + n) cap e) % (2 ^ 63 - (len + n)), Builtin.zeroCells zv.cells (len + n + w.tape w.drawn (.appendCap (len + n) cap e) % (2 ^ 63 - (len + n)) - (len + n)), by omega, by simp [Builtin.zeroCells], ?_⟩
  rcases ofZeros_tail h1 with ⟨ht, _⟩ | ⟨u, d, ht, hd, hz⟩
  · simp [Builtin.append_, h0, ht, hu, hsize, hl, hc, hinfo, hm', hn', Question.forced, Question.cut, ho, hf, hzero, Go.newRow, newObj, Sem.run, push, drewn]
    rw [← Array.append_assoc, show old.toArray ++ new.toArray = (old ++ new).toArray by simp]
  · have hd' := run_und hE hd
    simp [Builtin.append_, h0, ht, hu, hsize, hd']
    cases d <;> first | (simp [isInt] at hz; done) | (simp [hl, hc, hinfo, hm', hn', Question.forced, Question.cut, ho, hf, hzero, Go.newRow, newObj, Sem.run, push, drewn]; rw [← Array.append_assoc, show old.toArray ++ new.toArray = (old ++ new).toArray by simp])

/-- What is added is told by a number of zeros. -/
theorem run_appendZ_fits {o c : Nat} {k : IntKind} (h1 : ofZeros E ts.toList.tail = some true) (hn : n ≤ 2 ^ 30) (hnb : n * i.bytes ≤ 2 ^ 40) (hz : i.zero = some zv) (hnew : (if n * i.size = 0 then #[] else Builtin.zeroCells zv.cells n) = new.toArray) (hc : len + n ≤ cap)
    (hs : (storeCells ⟨c, o + len * i.size, none⟩ new).run P w = .ok () w') :
    (Builtin.append_ ts ty #[.slice (some ⟨c, o, none⟩) len cap, .int k (n : Int)]).run P w = .ok (.slice (some ⟨c, o, none⟩) (len + n) cap) w' := by
  have hu := run_und hE (elem_ok he)
  have hsize := run_size hE (show E.size e = some i.size by unfold Env.size; rw [hi]; rfl)
  have hzero := run_zero hE (show E.zero e = some zv by unfold Env.zero; rw [hi]; exact hz)
  have hinfo := run_info hE hi
  have hw := wrap_small hn
  have hb : ¬ (281474976710656 : Int) < (n : Int) * (i.bytes : Int) := by rw [← Int.natCast_mul]; omega
  rcases ofZeros_tail h1 with ⟨_, hf⟩ | ⟨u, d, ht, hd, hzz⟩
  · cases hf
  · have hd' := run_und hE hd
    simp [Builtin.append_, h0, ht, hu, hsize, hd']
    cases d <;> first | (simp [isInt] at hzz; done) | skip
    by_cases h00 : n * i.size = 0
    · rw [if_pos h00] at hnew
      have hnn : new = [] := by simpa using hnew.symm
      subst hnn
      simp [asInt, asIntOf, hw, hinfo, hb, hc, h00, hs, add_addr, show ¬ ((n : Int) < 0) by omega]
    · rw [if_neg h00] at hnew
      simp [asInt, asIntOf, hw, hinfo, hb, hc, h00, hs, add_addr, hzero, hnew, show ¬ ((n : Int) < 0) by omega]
theorem run_appendZ_nil {k : IntKind} (h1 : ofZeros E ts.toList.tail = some true) (hn : n ≤ 2 ^ 30) (hnb : n * i.bytes ≤ 2 ^ 40) (hz : i.zero = some zv) (hc : len + n ≤ cap) :
    (Builtin.append_ ts ty #[.slice none len cap, .int k (n : Int)]).run P w = .ok (.slice none (len + n) cap) w := by
  have hu := run_und hE (elem_ok he)
  have hsize := run_size hE (show E.size e = some i.size by unfold Env.size; rw [hi]; rfl)
  have hzero := run_zero hE (show E.zero e = some zv by unfold Env.zero; rw [hi]; exact hz)
  have hinfo := run_info hE hi
  have hw := wrap_small hn
  have hb : ¬ (281474976710656 : Int) < (n : Int) * (i.bytes : Int) := by rw [← Int.natCast_mul]; omega
  rcases ofZeros_tail h1 with ⟨_, hf⟩ | ⟨u, d, ht, hd, hzz⟩
  · cases hf
  · have hd' := run_und hE hd
    simp [Builtin.append_, h0, ht, hu, hsize, hd']
    cases d <;> first | (simp [isInt] at hzz; done) | skip
    by_cases h00 : n * i.size = 0
    · simp [asInt, asIntOf, hw, hinfo, hb, hc, h00, show ¬ ((n : Int) < 0) by omega]
    · simp [asInt, asIntOf, hw, hinfo, hb, hc, hzero, show ¬ ((n : Int) < 0) by omega]
theorem run_appendZ_grows {old : List Value} {k : IntKind} (h1 : ofZeros E ts.toList.tail = some true) (hn0 : n ≤ 2 ^ 30) (hnb : n * i.bytes ≤ 2 ^ 40) (hc : ¬ len + n ≤ cap)
    (hz : i.zero = some zv) (hnew : (if n * i.size = 0 then #[] else Builtin.zeroCells zv.cells n) = new.toArray) (hb : (len + n) * (i.bytes + 1) ≤ 2 ^ 36) (ho : (Builtin.firstCells i.size len (.slice base len cap)).run P (drewn w) = .ok old.toArray (drewn w)) :
    ∃ N rest, len + n ≤ N ∧ rest.size = (N - (len + n)) * zv.cells.size ∧ (Builtin.append_ ts ty #[.slice base len cap, .int k (n : Int)]).run P w = .ok (.slice (some ⟨w.heap.size, 0, none⟩) (len + n) N) (push (drewn w) (.cells ((old ++ new).toArray ++ rest) e)) := by
  have hu := run_und hE (elem_ok he)
  have hsize := run_size hE (show E.size e = some i.size by unfold Env.size; rw [hi]; rfl)
  have hzero := run_zero hE (show E.zero e = some zv by unfold Env.zero; rw [hi]; exact hz)
  have hinfo := run_info hE hi
  have hn := next_room (show cap < len + n by omega) hb
  have hs := need_small hb
  have hm' : ¬ IntKind.i64.max < (len : Int) + (n : Int) := by
    rw [show IntKind.i64.max = 9223372036854775807 from rfl]; omega
  have hn' : ¬ 281474976710656 < Builtin.nextslicecap (len + n) cap * i.bytes := hn
  have hw := wrap_small hn0
  have hb2 : ¬ (281474976710656 : Int) < (n : Int) * (i.bytes : Int) := by rw [← Int.natCast_mul]; omega
  simp only [drewn] at ho
  refine ⟨len + n + w.tape w.drawn (.appendCap (len + n) cap e) % (2 ^ 63 - (len + n)), Builtin.zeroCells zv.cells (len + n + w.tape w.drawn (.appendCap (len + n) cap e) % (2 ^ 63 - (len + n)) - (len + n)), by omega, by simp [Builtin.zeroCells], ?_⟩
  rcases ofZeros_tail h1 with ⟨_, hf⟩ | ⟨u, d, ht, hd, hzz⟩
  · cases hf
  · have hd' := run_und hE hd
    simp [Builtin.append_, h0, ht, hu, hsize, hd']
    cases d <;> first | (simp [isInt] at hzz; done) | skip
    by_cases h00 : n * i.size = 0
    · rw [if_pos h00] at hnew
      have hnn : new = [] := by simpa using hnew.symm
      subst hnn
      simp [asInt, asIntOf, hw, hinfo, hb2, hc, h00, hm', hn', Question.forced, Question.cut, ho, hzero, Go.newRow, newObj, Sem.run, push, drewn, show ¬ ((n : Int) < 0) by omega]
    · rw [if_neg h00] at hnew
      simp [asInt, asIntOf, hw, hinfo, hb2, hc, h00, hm', hn', Question.forced, Question.cut, ho, hzero, hnew, Go.newRow, newObj, Sem.run, push, drewn, show ¬ ((n : Int) < 0) by omega]
      rw [← Array.append_assoc, show old.toArray ++ new.toArray = (old ++ new).toArray by simp]
end run
end Go.Ev
