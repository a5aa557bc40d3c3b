/- Copies of limbs, and numbers that the call owns: what regions that make them leave; rows of numbers that are spoilt. -/
import Derived.Test.YthjgonfohjgfaaaZAll
import Derived.Test.YthjgonfohjgfaaaZY
import Derived.Test.YthjgonfohjgfaaaLOwn
namespace Go.Proofs.Ythjgonfohjgfaaa
open Go.RowKit
set_option linter.unusedVariables false
set_option maxRecDepth 100000

/-- append of limbs onto an empty row. -/
theorem run_app0 (w : World) {N g m d : Nat} {B : Option Addr} {ys : List Nat} (ho : Own w N (some ⟨g, 0, none⟩) 0 0 []) (hr : Rd w B m d ys) (hm : m ≤ 1000) (hN : N ≤ w.heap.size) (ty : TypeId) :
    ∃ A c w', (Builtin.append_ #[25, 25] ty #[.slice (some ⟨g, 0, none⟩) 0 0, .slice B m d]).run Try.prog w = .ok (.slice A m c) w' ∧ Own w' N A m c ys ∧ Below w.heap.size w w' := by
  obtain ⟨i0, hi, hz0, hz1, hz2⟩ := info_parts kU32.info
  have hu := Try.underlying25
  cases B with
  | none =>
    have hd : d = 0 := hr.nil rfl
    subst hd
    have hm0 : m = 0 := by have := hr.cap; omega
    subst hm0
    have hy : ys = [] := List.eq_nil_of_length_eq_zero hr.len
    subst hy
    exact ⟨_, _, w, run_append_owned_none (P := Try.prog) (w := w) N 25 ty 63 i0 1 hu hi _ 0 [] ho.row, ho, Below.refl _ _⟩
  | some ad =>
    by_cases hm0 : m = 0
    · subst hm0
      have hy : ys = [] := List.eq_nil_of_length_eq_zero hr.len
      subst hy
      refine ⟨_, _, w, ?_, ho, Below.refl _ _⟩
      have hi' : Try.prog.info? 63 = some i0 := hi
      simp [Builtin.append_, run_underlying hu, sizeOf, typeInfo, hi', Builtin.lenOf, Builtin.firstCells, loadCells, loadCellsFrom, storeCells]
    · have hnews : ∀ j u, (ys.map kU32.enc)[j]? = some u → w.cell? (ad.add j) = some u := by
        intro j u hj
        rw [List.getElem?_map] at hj
        cases hy : ys[j]? with
        | none => rw [hy] at hj; cases hj
        | some y =>
          rw [hy] at hj
          cases hj
          obtain ⟨b, o', hA, hc⟩ := hr.cells (by omega)
          cases hA
          rw [Addr.add_lit]
          exact hc j y hy
      have hl : (ys.map kU32.enc).length = m * 1 := by rw [List.length_map, hr.len, Nat.mul_one]
      obtain ⟨v', w', r1, h1, h2, h3, h4⟩ := run_append_own_at (P := Try.prog) w N 25 ty 63 i0 (kU32.enc kU32.zero) 1 4 hu hi hz0 hz1 hz2 kU32.zsize (by decide) _ 0 [] ho.row ad m d (ys.map kU32.enc) hl hnews
        (fun u hu => by obtain ⟨y, _, rfl⟩ := List.mem_map.1 hu; rfl) (by unfold maxLen; omega) (by omega) hN
      have r2 := run_append_grow (P := Try.prog) w 25 ty 63 i0 (kU32.enc kU32.zero) hu hi hz0 ⟨g, 0, none⟩ 0 0 [] (by simp) (fun j v h => by simp at h) ad m d (ys.map kU32.enc) (by rw [hz1]; exact hl) hnews (by omega) (by omega) (growslice_fits (by omega) (by rw [hz2]; show (0 + m) * 4 ≤ _; omega))
      rw [r2] at r1
      injection r1 with e1 e2
      subst e1 e2
      rw [Nat.zero_add, List.nil_append] at h1
      refine ⟨_, _, _, by rw [r2, Nat.zero_add], ⟨?_, hr.lim⟩, ?_⟩
      · exact h1
      · exact bl_trans (Below.drew (Below.refl _ _)) (bl_alloc w.drew _)

/-- An empty row of the call's own. -/
def IsE (N : Nat) (w : World) (v : Value) : Prop := ∃ g, v = .slice (some ⟨g, 0, none⟩) 0 0 ∧ Own w N (some ⟨g, 0, none⟩) 0 0 []
/-- A row of limbs of the call's own. -/
def IsA (N : Nat) (w : World) (v : Value) (n : Nat) (xs : List Nat) : Prop := ∃ A c, v = .slice A n c ∧ Own w N A n c xs
/-- A number whose limbs are the call's own. -/
def IsO (N : Nat) (w : World) (v : Value) (b : Bool) (n : Nat) (xs : List Nat) : Prop := ∃ A c, v = .agg #[.bool b, .slice A n c] ∧ Own w N A n c xs
def HasO (N : Nat) (u : Value) (w : World) (b : Bool) (n : Nat) (xs : List Nat) : Prop := ∃ g A c, u = .pointer (some ⟨g, 0, none⟩) ∧ N ≤ g ∧ Bz w g b A n c ∧ Own w N A n c xs
/-- .. whatever they are. -/
def IsW0 (N : Nat) (w : World) (v : Value) : Prop := ∃ b A n c, v = .agg #[.bool b, .slice A n c] ∧ Ow w N A n c
theorem xE {N N' : Nat} : Stab (BelU N') fun v _ w => IsE N w v := fun _ _ _ _ _ r _ h => by
  obtain ⟨g, rfl, ho⟩ := h
  exact ⟨g, rfl, ho.belX r.x⟩
theorem xA {N N' n : Nat} {xs : List Nat} : Stab (BelU N') fun v _ w => IsA N w v n xs := fun _ _ _ _ _ r _ h => by
  obtain ⟨A, c, rfl, ho⟩ := h
  exact ⟨A, c, rfl, ho.belX r.x⟩
theorem xO {N N' n : Nat} {b : Bool} {xs : List Nat} : Stab (BelU N') fun v _ w => IsO N w v b n xs := fun _ _ _ _ _ r _ h => by
  obtain ⟨A, c, rfl, ho⟩ := h
  exact ⟨A, c, rfl, ho.belX r.x⟩
theorem xHO {N n : Nat} {b : Bool} {xs : List Nat} : Stab (BelU N) fun _ u w => HasO N u w b n xs := fun _ _ _ _ _ r hn h => by
  obtain ⟨g, A, c, rfl, hg, B, ho⟩ := h
  exact ⟨g, A, c, rfl, hg, B.belU r hn, ho.belX r.x⟩
theorem sW0 {N : Nat} : Stab RBu fun v _ w => IsW0 N w v := fun _ _ _ _ _ r _ h => by
  obtain ⟨b, A, n, c, rfl, ho⟩ := h
  exact ⟨b, A, n, c, rfl, ho.below r⟩
theorem IsW0.below {N : Nat} {w w' : World} {v : Value} (h : IsW0 N w v) (hb : Below w.heap.size w w') : IsW0 N w' v := by
  obtain ⟨b, A, n, c, rfl, ho⟩ := h
  exact ⟨b, A, n, c, rfl, ho.below hb⟩
theorem IsZ.w0 {N M : Nat} {w : World} {v : Value} {z : Int} {k : Nat} (h : IsZ N w v z k) (hM : M ≤ N) : IsW0 M w v := by
  obtain ⟨b, A, n, c, rfl, Z⟩ := h
  exact ⟨b, A, n, c, rfl, _, Z.own.mono hM⟩

section
variable {a : Act} {w : World} {Q : Exit → Act → World → Prop} {K : Act → World → Prop} {dst : Option Tmp} {ty : TypeId} {pos : String} {af : Array Edge} {gd : Option (Nat × Bool)} {x y : Operand} {ops : Array Oper} {sp : Nat → Value → Value → World → Prop} {i q N n : Nat} {v v' : Value} {b : Bool} {xs : List Nat}
theorem wp_bsE (h : K (a.put dst (.slice (some ⟨w.heap.size, 0, none⟩) 0 0)) (w.alloc (.cells #[] 63))) : Oper.wp Try.prog ⟨dst, .buildSlice 25 0 #[], ty, pos, af, gd⟩ a w K Q := by
  unfold Oper.wp execOp
  simp only [List.map_toArray, List.map_nil]
  go_simp
  exact h
theorem wp_bI {A : Option Addr} {c : Nat} (hx : a.eval x = .bool b) (hy : a.eval y = .slice A n c) (h : K (a.put dst (.agg #[.bool b, .slice A n c])) w) : Oper.wp Try.prog ⟨dst, .build 32 #[(0, x), (1, y)], ty, pos, af, gd⟩ a w K Q := by
  unfold Oper.wp execOp
  simp only [List.map_toArray, List.map_cons, List.map_nil, hx, hy]
  go_simp
  exact h
theorem st_app0 {B : Option Addr} {m d : Nat} (hna : isAlloc ops i = false) (hx : a.eval x = v) (hy : a.eval y = .slice B m d) (hE : IsE N w v) (hr : Rd w B m d xs) (hm : m ≤ 1000) (hN : N ≤ w.heap.size) {N' : Nat} (hsp : ∀ v u w, IsA N w v m xs → sp i v u w) : Oper.wp Try.prog ⟨dst, .call { callee := .builtin .append, args := #[x, y], argTypes := #[25, 25] }, ty, pos, af, gd⟩ a w (Done (BelU N') ops sp i a dst w) Q := by
  obtain ⟨g, rfl, ho⟩ := hE
  obtain ⟨A, c, w', hrun, ho', hb⟩ := run_app0 w ho hr hm hN ty
  unfold Oper.wp execOp
  simp only [resolve, invoke, builtin, Sem.run_bind, Sem.run_pure, Result.andThen_ok, List.map_toArray, List.map_cons, List.map_nil, hx, hy, hrun]
  exact done' hna (rxu _ _ _ _ hb) (hsp _ _ _ ⟨A, c, rfl, ho'⟩)
theorem st_storeO (hna : isAlloc ops i = false) (haux : auxOf ops i = some q) (hx : a.eval (.tmp q) = v) (hp : IsP N v w) (hy : a.eval y = v') (hz : IsO N w v' b n xs) (hsp : ∀ v u w, HasO N u w b n xs → sp i v u w) : Oper.wp Try.prog ⟨dst, .store 32 (.tmp q) y, ty, pos, af, gd⟩ a w (Done (BelU N) ops sp i a dst w) Q := by
  obtain ⟨g, rfl, hg, s, A, n0, c, hb⟩ := hp
  obtain ⟨A1, c1, rfl, ho⟩ := hz
  have st := belU_store (t := b) (B := A1) (m := n) (d := c1) hb hg
  refine wp_store hx hy hb (done' hna ?_ ?_)
  · rw [aux_eq haux hx]; exact st.1
  · rw [aux_eq haux hx]; exact hsp _ _ _ ⟨g, A1, c1, rfl, hg, st.2, ho.belX st.1.x⟩
end

/-- A row of twelve numbers that the call owns. -/
def IsR12 (N : Nat) (w : World) (v : Value) : Prop := ∃ g rs, v = .slice (some ⟨g, 0, none⟩) 12 12 ∧ rs.length = 12 ∧ N ≤ g ∧ w.heap[g]? = some (.cells (icells rs).toArray 32 (0, 0)) ∧ ∀ s ∈ rs, Ow w N s.A s.n s.c ∧ ∀ p, s.A = some p → p.block < g
theorem IsR12.below {N : Nat} {w w' : World} {v : Value} (h : IsR12 N w v) (hb : Below w.heap.size w w') : IsR12 N w' v := by
  obtain ⟨g, rs, rfl, hl, hN, hg, ho⟩ := h
  exact ⟨g, rs, rfl, hl, hN, (hb.block g (Array.getElem?_eq_some_iff.1 hg).1).trans hg, fun s hs => ⟨(ho s hs).1.below hb, (ho s hs).2⟩⟩
theorem sR12 {N : Nat} : Stab RBu fun v _ w => IsR12 N w v := fun _ _ _ _ _ r _ h => h.below r
section
variable {a : Act} {w : World} {Q : Exit → Act → World → Prop} {K : Act → World → Prop} {dst : Option Tmp} {ty : TypeId} {pos : String} {af : Array Edge} {gd : Option (Nat × Bool)} {x0 x1 x2 x3 x4 x5 x6 x7 x8 x9 x10 x11 : Operand} {e0 e1 e2 e3 e4 e5 e6 e7 e8 e9 e10 e11 : IE}
def IE.v (e : IE) : Value := .agg #[.bool e.b, .slice e.A e.n e.c]
theorem wp_bs12 (h0 : a.eval x0 = e0.v) (h1 : a.eval x1 = e1.v) (h2 : a.eval x2 = e2.v) (h3 : a.eval x3 = e3.v) (h4 : a.eval x4 = e4.v) (h5 : a.eval x5 = e5.v) (h6 : a.eval x6 = e6.v) (h7 : a.eval x7 = e7.v) (h8 : a.eval x8 = e8.v) (h9 : a.eval x9 = e9.v) (h10 : a.eval x10 = e10.v) (h11 : a.eval x11 = e11.v)
    (h : K (a.put dst (.slice (some ⟨w.heap.size, 0, none⟩) 12 12)) (w.alloc (.cells (icells [e0, e1, e2, e3, e4, e5, e6, e7, e8, e9, e10, e11]).toArray 32))) : Oper.wp Try.prog ⟨dst, .buildSlice 60 12 #[(0, x0), (1, x1), (2, x2), (3, x3), (4, x4), (5, x5), (6, x6), (7, x7), (8, x8), (9, x9), (10, x10), (11, x11)], ty, pos, af, gd⟩ a w K Q := by
  unfold Oper.wp execOp
  simp only [List.map_toArray, List.map_cons, List.map_nil, h0, h1, h2, h3, h4, h5, h6, h7, h8, h9, h10, h11, IE.v]
  go_simp
  exact h
end
theorem IsW0.ie {N : Nat} {w : World} {v : Value} (h : IsW0 N w v) : ∃ e : IE, v = e.v ∧ Ow w N e.A e.n e.c := by
  obtain ⟨b, A, n, c, rfl, ho⟩ := h
  exact ⟨⟨b, A, n, c, []⟩, rfl, ho⟩
theorem IsR12.new {N : Nat} {w : World} (rs : List IE) (hl : rs.length = 12) (hN : N ≤ w.heap.size) (h : ∀ s ∈ rs, Ow w N s.A s.n s.c) : IsR12 N (w.alloc (.cells (icells rs).toArray 32)) (.slice (some ⟨w.heap.size, 0, none⟩) 12 12) :=
  ⟨_, rs, rfl, hl, hN, heap_alloc_new w _, fun s hs => ⟨(h s hs).below (bl_alloc w _), fun p hp => ((h s hs).lt hp).2⟩⟩

/-- Div, Mod: what is answered is the call's own, whatever it is. -/
theorem cDivO {w : World} {v v' : Value} {z u : Int} {k j N : Nat} (h : IsM w v z k) (g : IsM w v' u j) (hk : k ≤ 1000) (hj : j ≤ 1000) (hN : N ≤ w.heap.size) : Calls Try.prog 36 #[v, v'] w (Ans w fun w' v => ∃ b A n c o, v = .tuple #[.agg #[.bool b, .slice A n c], .int .i64 o] ∧ Ow w' N A n c) := by
  by_cases hu : u = 0
  · refine (cDiv0 h g hk hj hu hN).mono ?_
    rintro e w' ⟨_, rfl, hb, b, A, n, c, rfl, Z⟩
    exact ⟨_, rfl, hb, b, A, n, c, _, rfl, _, Z.own⟩
  · refine (cDiv h g hk hj hu hN).mono ?_
    rintro e w' ⟨_, rfl, hb, b, A, n, c, rfl, Z⟩
    exact ⟨_, rfl, hb, b, A, n, c, _, rfl, _, Z.own⟩
theorem cModO {w : World} {v v' : Value} {z u : Int} {k j N : Nat} (h : IsM w v z k) (g : IsM w v' u j) (hk : k ≤ 1000) (hj : j ≤ 1000) (hN : N ≤ w.heap.size) : Calls Try.prog 37 #[v, v'] w (Ans w fun w' v => ∃ b A n c o, v = .tuple #[.agg #[.bool b, .slice A n c], .int .i64 o] ∧ Ow w' N A n c) := by
  by_cases hu : u = 0
  · refine (cMod0 h g hk hj hu hN).mono ?_
    rintro e w' ⟨_, rfl, hb, b, A, n, c, rfl, Z⟩
    exact ⟨_, rfl, hb, b, A, n, c, _, rfl, _, Z.own⟩
  · refine (cMod h g hk hj hu hN).mono ?_
    rintro e w' ⟨_, rfl, hb, b, A, n, c, rfl, Z⟩
    exact ⟨_, rfl, hb, b, A, n, c, _, rfl, _, Z.own⟩

def IE.r3 (e : IE) : R3 := ⟨e.A, e.n, e.c⟩
theorem Spoil.cellI {w9 wr : World} {h2 h3 i : Nat} {rs : List IE} {s : IE} (h : Spoil w9 wr h2 h3 (rs.map IE.r3)) (hall : w9.heap[h3]? = some (.cells (icells rs).toArray 32 (0, 0))) (hs : rs[i]? = some s) : wr.cell? ⟨h3, i * 2 + 1, none⟩ = some (.slice s.A s.n s.c) := by
  rw [cell_of_row wr h3 (i * 2 + 1) (icells rs).toArray 32 (0, 0) ((h.keep h3 (.inr (Nat.le_refl _))).trans hall)]
  have := (icells_at hs).2
  rw [Nat.mul_comm] at this
  simpa using this
theorem Spoil.bz {w9 wr : World} {h2 h3 g : Nat} {rs : List R3} {b : Bool} {A : Option Addr} {n c : Nat} (h : Spoil w9 wr h2 h3 rs) (P : Bz w9 g b A n c) (hg : g < h2) : Bz wr g b A n c := ⟨(h.keep g (.inl hg)).trans P.row⟩

end Go.Proofs.Ythjgonfohjgfaaa
