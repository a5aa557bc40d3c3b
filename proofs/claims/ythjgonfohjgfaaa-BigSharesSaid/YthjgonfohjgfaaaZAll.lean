/- Rows of numbers as they come in; litmuslaw02.all: a row of the call's own, of so many numbers, each cut. -/
import Derived.Test.YthjgonfohjgfaaaZX
import Derived.Maps.AppendAt
namespace Go.Proofs.Ythjgonfohjgfaaa
open Go.RowKit
set_option linter.unusedVariables false
set_option maxRecDepth 100000

/-- A number in a row, as it comes. -/
structure IE where
  b : Bool
  A : Option Addr
  n : Nat
  c : Nat
  xs : List Nat
/-- Cut to so many limbs. -/
def IE.few (q : Nat) (e : IE) : IE := ⟨e.b, e.A, min e.n q, e.c, e.xs.take (min e.n q)⟩
def IE.z (e : IE) : ZE := ⟨e.b, e.A, e.n, e.c, zv e.b (M.val e.xs)⟩
/-- The cells of a row. -/
def icells : List IE → List Value
  | [] => []
  | e :: l => .bool e.b :: .slice e.A e.n e.c :: icells l
theorem icells_app (l l' : List IE) : icells (l ++ l') = icells l ++ icells l' := by
  induction l with
  | nil => rfl
  | cons e l ih => simp [icells, ih]
theorem icells_len (l : List IE) : (icells l).length = l.length * 2 := by
  induction l with
  | nil => rfl
  | cons e l ih => simp only [icells, List.length_cons, ih]; omega
theorem icells_at {l : List IE} {i : Nat} {e : IE} (h : l[i]? = some e) : (icells l)[2 * i]? = some (.bool e.b) ∧ (icells l)[2 * i + 1]? = some (.slice e.A e.n e.c) := by
  induction l generalizing i with
  | nil => simp at h
  | cons f l ih =>
    cases i with
    | zero => simp at h; subst h; exact ⟨rfl, rfl⟩
    | succ i =>
      have := ih (i := i) (by simpa using h)
      rw [show 2 * (i + 1) = 2 * i + 1 + 1 by omega]
      exact this
theorem icells_one (l : List IE) : ∀ u ∈ icells l, u.oneCell' = true := by
  induction l with
  | nil => intro u hu; cases hu
  | cons e l ih =>
    intro u hu
    rcases List.mem_cons.1 hu with rfl | hu
    · rfl
    · rcases List.mem_cons.1 hu with rfl | hu
      · rfl
      · exact ih u hu

/-- A slice of numbers, as it comes in. -/
structure IRow (w : World) (L : Option Addr) (n c : Nat) (es : List IE) : Prop where
  len : es.length = n
  cell : ∀ i e, es[i]? = some e → ∃ g o, L = some ⟨g, o, none⟩ ∧ w.cell? ⟨g, o + i * 2, none⟩ = some (.bool e.b) ∧ w.cell? ⟨g, o + i * 2 + 1, none⟩ = some (.slice e.A e.n e.c)
  rd : ∀ e ∈ es, Rd w e.A e.n e.c e.xs ∧ e.n ≤ maxLen
theorem IRow.below {w w' : World} {L : Option Addr} {n c : Nat} {es : List IE} (h : IRow w L n c es) (hb : Below w.heap.size w w') : IRow w' L n c es := by
  refine ⟨h.len, fun i e hi => ?_, fun e he => ⟨(h.rd e he).1.below hb, (h.rd e he).2⟩⟩
  obtain ⟨g, o, hL, h1, h2⟩ := h.cell i e hi
  exact ⟨g, o, hL, (hb.cell (World.block_lt_of_cell? w _ h1)).trans h1, (hb.cell (World.block_lt_of_cell? w _ h2)).trans h2⟩

/-- A row of the call's own. -/
abbrev OwI (w : World) (base : Nat) (A : Option Addr) (n c : Nat) (es : List IE) : Prop := w.ownsRow base 32 2 (.slice A n c) n (icells es)

/-- append of one number. -/
theorem app_int (w : World) {ops : Array Oper} {rest : List Oper} {o : Oper} {a : Act} {Q : Exit → Act → World → Prop} (hgd : o.guard = none) (s x : Operand)
    (ho : o.op = .call { callee := .builtin .append, args := #[s, x], argTypes := #[60, 60] })
    (base n c : Nat) (A : Option Addr) (es : List IE) (hs : a.eval s = .slice A n c) (hown : OwI w base A n c es)
    (g : Nat) (e : IE) (hx : a.eval x = .slice (some ⟨g, 0, none⟩) 1 1) (hr : w.heap[g]? = some (.cells #[.bool e.b, .slice e.A e.n e.c] 32 (0, 0))) (hbd : n + 1 ≤ 8388608) (hbase : base ≤ w.heap.size)
    (h : ∀ A' c' w', OwI w' base A' (n + 1) c' (es ++ [e]) → w.grownBy w' (Value.slice A n c).ownBlock → wpList Try.prog ops Q rest (a.put o.dst (.slice A' (n + 1) c')) w') :
    wpList Try.prog ops Q (o :: rest) a w := by
  have hinf : (Try.prog.info? 32).map (fun i => (i.zero, i.size, i.bytes)) = some (some (.agg #[.bool false, .slice none 0 0]), 2, 32) := by kernel_rfl
  obtain ⟨i0, hi, hz0, hz1, hz2⟩ := info_parts hinf
  refine wpList_append_own_at w hgd s x 60 ho base 32 i0 (.agg #[.bool false, .slice none 0 0]) 2 32 Try.underlying60 hi hz0 hz1 hz2 rfl (by decide) _ n (icells es) hs hown ⟨g, 0, none⟩ 1 1 (icells [e]) hx rfl ?_ (icells_one _) ?_ ?_ hbase ?_
  · intro j u hj
    rw [Addr.add_lit, cell_of_row _ _ _ _ _ _ hr]
    match j, hj with
    | 0, hj => simp [icells] at hj; subst hj; rfl
    | 1, hj => simp [icells] at hj; subst hj; rfl
  · unfold maxLen; omega
  · omega
  · intro v' w' h1 h2 h3 h4
    rw [← icells_app] at h1
    rcases h1.2 with ⟨rfl, h0⟩ | ⟨g', cap, cur, rfl, r⟩
    · omega
    · exact h _ _ w' h1 h2

theorem OwI.zs {w : World} {base : Nat} {A : Option Addr} {n c : Nat} {es : List IE} {K : Nat} (h : OwI w base A n c es) (hz : ∀ e ∈ es, Zm w e.b e.A e.n e.c (zv e.b (M.val e.xs)) K) : es.length = n ∧ n ≤ c ∧ (n = 0 ∨ ∃ g, A = some ⟨g, 0, none⟩ ∧ Zs w g 0 (es.map IE.z) K) := by
  have hl : es.length = n := by
    have := h.1
    rw [icells_len] at this
    omega
  rcases h.2 with ⟨hv, hn⟩ | ⟨g, cap, cur, hv, hb, hh, hnc, hcm, hcs, ht⟩
  · injection hv with h1 h2 h3
    exact ⟨hl, by omega, .inl hn⟩
  · injection hv with h1 h2 h3
    subst h1 h3
    refine ⟨hl, hnc, .inr ⟨g, rfl, ⟨fun i e hi => ?_, fun e he => ?_⟩⟩⟩
    · rw [List.getElem?_map] at hi
      cases hq : es[i]? with
      | none => rw [hq] at hi; cases hi
      | some f =>
        rw [hq] at hi
        cases hi
        obtain ⟨h1, h2⟩ := icells_at hq
        have g1 := h.cells (g := g) rfl (2 * i) _ h1
        have g2 := h.cells (g := g) rfl (2 * i + 1) _ h2
        rw [Addr.add_lit] at g1 g2
        exact ⟨g1, g2⟩
    · obtain ⟨f, hf, rfl⟩ := List.mem_map.1 he
      exact hz f hf

/-- A row of right-sized numbers, as a value. -/
def IsL (w : World) (v : Value) (ls : List ZE) (K : Nat) : Prop := ∃ A c, v = .slice A ls.length c ∧ ls.length ≤ c ∧ (ls.length = 0 ∨ ∃ g, A = some ⟨g, 0, none⟩ ∧ Zs w g 0 ls K)

theorem take_few {es : List IE} {k : Nat} {e : IE} (h : es[k]? = some e) (q : Nat) : (es.take (k + 1)).map (IE.few q) = (es.take k).map (IE.few q) ++ [e.few q] := by
  rw [List.take_add_one, h, List.map_append]
  rfl

set_option maxHeartbeats 2000000 in
theorem allZ (L : Option Addr) (n c : Nat) (es : List IE) (w : World) (H : Hid (IRow w L n c es)) (hm : n ≤ maxLen) : Calls Try.prog 45 #[.slice L n c, .int .i64 6, .int .i64 10] w (Ans w fun w' v => IsL w' v (((es.take 6).map (IE.few 10)).map IE.z) 10) := by
  unfold maxLen at hm
  go_enter Try.func45, Try.ntmps45
  go_wp2
  go_loopw [7, 8] (fun v i wr => ∃ (k cp : Nat) (A : Option Addr), k ≤ n ∧ k ≤ 6 ∧ i = .int .i64 k ∧ v = .slice A k cp ∧ OwI wr w.heap.size A k cp ((es.take k).map (IE.few 10)) ∧ Below w.heap.size w wr) (fun _ i _ => 6 - (intOf i).toNat)
  case atStart => exact ⟨0, 0, none, Nat.zero_le _, Nat.zero_le _, rfl, rfl, World.ownsRow_nil _ _ _ 2, Below.refl _ _⟩
  case round =>
    obtain ⟨k, cp, A, hk, hk6, rfl, rfl, ho, hb⟩ := hrel
    have HO := Lib.hid ho
    have HB := Lib.hid hb
    clear ho hb
    by_cases hkn : k < n
    · by_cases hks : k < 6
      · obtain ⟨e, he⟩ : ∃ e, es[k]? = some e := ⟨_, List.getElem?_eq_getElem (by rw [H.out.len]; exact hkn)⟩
        have HR := H.out.below HB.out
        obtain ⟨g, o, rfl, h1, h2⟩ := HR.cell k e he
        obtain ⟨hrd, hmx⟩ := HR.rd e (List.mem_of_getElem? he)
        have HRd := Lib.hid hrd
        have HE := Lib.hid he
        have HMx := Lib.hid hmx
        clear hrd he HR hmx
        go_wp2_with (first
          | (go_at_call 13; refine (cFew HRd.out HMx.out 10 _ rfl (by omega)).mono ?_; rintro e1 w1 ⟨_, rfl, hb1, rfl⟩; have HB1 := Lib.hid hb1; clear hb1)
          | (at_builtin; refine app_int _ rfl _ _ rfl w.heap.size k cp A _ rfl ((HO.out.kept (row := none) (grownBy_of_below HB1.out none) (by cases A <;> simp [Value.ownBlock])).alloc _) w1.heap.size (e.few 10) rfl (heap_alloc_new w1 _) (by omega) (by have := HB.out.size; have := HB1.out.size; simp; omega) ?_; intro A2 c2 w2 ho2 hg2; have HO2 := Lib.hid ho2; have HG2 := Lib.hid hg2; clear ho2 hg2))
        go_roundw
        case rel =>
          refine ⟨k + 1, c2, A2, by omega, by omega, by go_num, rfl, ?_, ?_⟩
          · rw [take_few HE.out]
            exact HO2.out
          · have hb3 := bl_trans HB.out HB1.out
            refine (hb3.alloc hb3.size (.cells #[.bool e.b, .slice e.A (min e.n 10) e.c] 32)).grown HG2.out (by have := hb3.size; simp; omega) fun q hq => ?_
            exact (HO.out.lt q hq).1
        case measure => simp [intOf]; omega
      · obtain rfl : k = 6 := by omega
        go_wp2_with fail
        go_ret
        refine ⟨_, rfl, HB.out, ?_⟩
        have hzm : ∀ f ∈ (es.take 6).map (IE.few 10), Zm wr f.b f.A f.n f.c (zv f.b (M.val f.xs)) 10 := by
          intro f hf
          obtain ⟨e, he, rfl⟩ := List.mem_map.1 hf
          exact few_zm ((H.out.below HB.out).rd e (List.mem_of_mem_take he)).1 10
        obtain ⟨hl, hc, hz⟩ := HO.out.zs hzm
        rw [← List.length_map (f := IE.z)] at hl
        exact ⟨A, cp, by rw [hl]; rfl, by rw [hl]; exact hc, by rw [hl]; exact hz⟩
    · obtain rfl : k = n := by omega
      go_wp2_with fail
      go_ret
      refine ⟨_, rfl, HB.out, ?_⟩
      have ht : es.take 6 = es.take k := by rw [List.take_of_length_le (by rw [H.out.len]; omega), List.take_of_length_le (by rw [H.out.len]; omega)]
      rw [ht]
      have hzm : ∀ f ∈ (es.take k).map (IE.few 10), Zm wr f.b f.A f.n f.c (zv f.b (M.val f.xs)) 10 := by
        intro f hf
        obtain ⟨e, he, rfl⟩ := List.mem_map.1 hf
        exact few_zm ((H.out.below HB.out).rd e (List.mem_of_mem_take he)).1 10
      obtain ⟨hl, hc, hz⟩ := HO.out.zs hzm
      rw [← List.length_map (f := IE.z)] at hl
      exact ⟨A, cp, by rw [hl]; rfl, by rw [hl]; exact hc, by rw [hl]; exact hz⟩

end Go.Proofs.Ythjgonfohjgfaaa
