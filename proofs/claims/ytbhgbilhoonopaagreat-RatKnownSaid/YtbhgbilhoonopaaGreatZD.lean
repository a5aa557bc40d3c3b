/- Regions over numbers: which operations leave what; what stays. -/
import Derived.Test.YtbhgbilhoonopaaGreatZG
namespace Go.Proofs.YtbhgbilhoonopaaGreat
open Go.RowKit
set_option linter.unusedVariables false
set_option maxRecDepth 100000

/-- What was there stays. -/
def RB (w w' : World) : Prop := Below w.heap.size w w'
def RBu (_ : Value) (w w' : World) : Prop := Below w.heap.size w w'
theorem rb (u : Value) (w w' : World) (h : Below w.heap.size w w') : RBu u w w' := h
theorem rb_refl (w : World) : RB w w := Below.refl _ _
theorem rbu_refl (u : Value) (w : World) : RBu u w w := Below.refl _ _
theorem rb_trans (u : Value) (a b c : World) (h : RB a b) (k : RBu u b c) : RB a c := bl_trans h k
theorem undrew {W w : World} (h : RB W.drew w) : Below W.heap.size W w := ⟨h.os, h.tape, h.output, h.size, h.block⟩

section
variable {z u : Int} {k j N : Nat} {o : Int} {p : Bool} {l : List Nat}
theorem sM : Stab RBu fun v _ w => IsM w v z k := fun _ _ _ _ _ r _ h => h.below r
theorem sT : Stab RBu fun v _ w => IsT w v z k := fun _ _ _ _ _ r _ h => h.below r
theorem sZ : Stab RBu fun v _ w => IsZ N w v z k := fun _ _ _ _ _ r _ h => h.below r
theorem sZE : Stab RBu fun v _ w => IsZE N w v z k o := fun _ _ _ _ _ r _ h => h.below r
theorem sZB : Stab RBu fun v _ w => IsZB N w v z k p := fun _ _ _ _ _ r _ h => h.below r
theorem sR1 : Stab RBu fun v _ w => IsR1 w v z k := fun _ _ _ _ _ r _ h => h.below r
theorem sR2 : Stab RBu fun v _ w => IsR2 w v z k u j := fun _ _ _ _ _ r _ h => h.below r
theorem sC {Rel : Value → World → World → Prop} {c : Value} : Stab Rel fun v _ _ => v = c := fun _ _ _ _ _ _ _ h => h
theorem sS {Rel : Value → World → World → Prop} : Stab Rel fun v _ _ => IsS v l := fun _ _ _ _ _ _ _ h => h

/-- A row of limbs of this number. -/
def IsN (w : World) (v : Value) (x : Nat) (k : Nat) : Prop := ∃ A n c, v = .slice A n c ∧ Nm w A n c x k
theorem sN {x : Nat} : Stab RBu fun v _ w => IsN w v x k := fun _ _ _ _ _ r _ h => by
  obtain ⟨A, n, c, rfl, h⟩ := h
  exact ⟨A, n, c, rfl, h.below r⟩
theorem cOfN (s : Bool) {w : World} {v : Value} {x : Nat} (h : IsN w v x k) (hk : k ≤ 1000) (hN : N ≤ w.heap.size) : Calls Tryz.prog 89 #[.bool s, v] w (Ans w fun w' v => IsZ N w' v (zv s x) k) := by
  obtain ⟨A, n, c, rfl, h⟩ := h
  exact cOf s h hk hN
theorem wp_bsL2 {a : Act} {w : World} {K : Act → World → Prop} {Q : Exit → Act → World → Prop} {dst : Option Tmp} {ty : TypeId} {pos : String} {af : Array Edge} {gd : Option (Nat × Bool)} {x y : Int} (h : K (a.put dst (.slice (some ⟨w.heap.size, 0, none⟩) 2 2)) (w.alloc (.cells #[.int .u32 x, .int .u32 y] 44))) : Oper.wp Tryz.prog ⟨dst, .buildSlice 22 2 #[(0, .const (.int .u32 x)), (1, .const (.int .u32 y))], ty, pos, af, gd⟩ a w K Q := by
  unfold Oper.wp execOp
  go_simp
  exact h
theorem lit_neg {l : ByteArray} {ds : List Nat} {z : Int} (h1 : M.bytes l = 45 :: ds) (h2 : M.Digits ds) (h3 : z = -(M.dec 0 ds : Int)) (h4 : M.dec 0 ds ≠ 0) : M.bytes l = txtZ z := by
  rw [txtZ_neg (by omega), h1, show z.natAbs = M.dec 0 ds by omega, txt_dec h2]
theorem lit_pos {l : ByteArray} {z : Int} (h2 : M.Digits (M.bytes l)) (h3 : z = (M.dec 0 (M.bytes l) : Int)) : M.bytes l = txtZ z := by
  rw [txtZ_pos (by omega), show z.natAbs = M.dec 0 (M.bytes l) by omega, txt_dec h2]
instance (s : ByteArray) : Decidable (isZ s) := by unfold isZ; infer_instance

/-- A block is known whole. -/
structure Ar (w : World) (g : Nat) (cs : Array Value) (t : TypeId) : Prop where
  row : w.heap[g]? = some (.cells cs t (0, 0))
theorem Ar.below {w w' : World} {g : Nat} {cs : Array Value} {t : TypeId} (h : Ar w g cs t) (hb : Below w.heap.size w w') : Ar w' g cs t := ⟨(hb.block g (Array.getElem?_eq_some_iff.1 h.row).1).trans h.row⟩
theorem Ar.at {w : World} {g : Nat} {cs : Array Value} {t : TypeId} (h : Ar w g cs t) (i : Nat) {v : Value} (hv : cs[i]? = some v) : w.cell? ⟨g, i, none⟩ = some v := by rw [cell_of_row _ _ _ _ _ _ h.row, hv]
theorem Ar.new (w : World) (cs : Array Value) (t : TypeId) : Ar (w.alloc (.cells cs t)) w.heap.size cs t := ⟨heap_alloc_new w _⟩
section
variable {a : Act} {w : World} {K : Act → World → Prop} {Q : Exit → Act → World → Prop} {dst : Option Tmp} {ty : TypeId} {pos : String} {af : Array Edge} {gd : Option (Nat × Bool)} {x : Operand} {g : Nat}
end

/-! ### Stores into variables that the region makes -/
def IsBx (w : World) (g : Nat) : Prop := ∃ b A n c, Bz w g b A n c
/-- What was there stays, but for variables from block N on. -/
structure BelX (N : Nat) (w w' : World) : Prop where
  os : w'.os = w.os
  tape : w'.tape = w.tape
  output : w'.output = w.output
  size : w.heap.size ≤ w'.heap.size
  block : ∀ i, i < w.heap.size → w'.heap[i]? = w.heap[i]? ∨ (N ≤ i ∧ IsBx w i ∧ IsBx w' i)
/-- .. but for the one variable u. -/
structure BelU (N : Nat) (u : Value) (w w' : World) : Prop where
  x : BelX N w w'
  only : ∀ i, i < w.heap.size → w'.heap[i]? = w.heap[i]? ∨ u = .pointer (some ⟨i, 0, none⟩)
theorem rx (N : Nat) (w w' : World) (h : Below w.heap.size w w') : BelX N w w' := ⟨h.os, h.tape, h.output, h.size, fun i hi => .inl (h.block i hi)⟩
theorem rx_refl (N : Nat) (w : World) : BelX N w w := rx N w w (Below.refl _ _)
theorem IsBx.lt {w : World} {g : Nat} (h : IsBx w g) : g < w.heap.size := by
  obtain ⟨b, A, n, c, h⟩ := h
  exact h.lt
theorem IsBx.of_eq {w w' : World} {g : Nat} (h : IsBx w g) (e : w'.heap[g]? = w.heap[g]?) : IsBx w' g := by
  obtain ⟨b, A, n, c, h⟩ := h
  exact ⟨b, A, n, c, ⟨e.trans h.row⟩⟩
theorem rx_trans (N : Nat) (a b c : World) (h : BelX N a b) (g : BelX N b c) : BelX N a c := by
  refine ⟨g.os.trans h.os, g.tape.trans h.tape, g.output.trans h.output, Nat.le_trans h.size g.size, fun i hi => ?_⟩
  have hs := h.size
  rcases h.block i hi with e | ⟨h1, h2, h3⟩
  · rcases g.block i (by omega) with e' | ⟨g1, g2, g3⟩
    · exact .inl (e'.trans e)
    · exact .inr ⟨g1, g2.of_eq e.symm, g3⟩
  · rcases g.block i (by omega) with e' | ⟨g1, g2, g3⟩
    · exact .inr ⟨h1, h2, h3.of_eq e'⟩
    · exact .inr ⟨h1, h2, g3⟩
theorem rxu (N : Nat) (u : Value) (w w' : World) (h : Below w.heap.size w w') : BelU N u w w' := ⟨rx N w w' h, fun i hi => .inl (h.block i hi)⟩
theorem rxu_refl (N : Nat) (u : Value) (w : World) : BelU N u w w := rxu N u w w (Below.refl _ _)
theorem rxu_trans (N : Nat) (u : Value) (a b c : World) (h : BelX N a b) (k : BelU N u b c) : BelX N a c := rx_trans N a b c h k.x
theorem undrewX {W w : World} (h : BelX W.heap.size W.drew w) : Below W.heap.size W w := by
  refine ⟨h.os, h.tape, h.output, h.size, fun i hi => ?_⟩
  rcases h.block i hi with e | ⟨h1, _⟩
  · exact e
  · omega
/-- A block that is no variable stays. -/
theorem BelX.keep {N : Nat} {w w' : World} (h : BelX N w w') {i : Nat} {o : Obj} (ho : w.heap[i]? = some o) (hn : ∀ b A n c, o ≠ .cells #[.bool b, .slice A n c] 24 (0, 0)) : w'.heap[i]? = w.heap[i]? := by
  rcases h.block i (Array.getElem?_eq_some_iff.1 ho).1 with e | ⟨_, ⟨b, A, n, c, h2⟩, _⟩
  · exact e
  · exfalso
    rw [h2.row] at ho
    exact hn b A n c (Option.some.inj ho).symm
theorem RdK.belX {w w' : World} {A : Option Addr} {n c : Nat} {xs : List Nat} (h : Rd w A n c xs) (r : BelX N w w') : Rd w' A n c xs := by
  refine h.keep fun p hp hn => ?_
  obtain ⟨b, o', x, hA, hx, _, hc⟩ := h.at32 (i := 0) hn
  rw [hp] at hA
  injection hA with hA
  subst hA
  have hlt := World.block_lt_of_cell? w _ hc
  rcases r.block b hlt with e | ⟨_, ⟨s, B, m, d, h2⟩, _⟩
  · exact e
  · exfalso
    rw [cell_of_row _ _ _ _ _ _ h2.row] at hc
    have hl : o' + 0 < 2 := by
      have := (Array.getElem?_eq_some_iff.1 hc).1
      simpa using this
    rcases Nat.lt_or_ge (o' + 0) 1 with h9 | h9
    · have : o' + 0 = 0 := by omega
      rw [this] at hc
      simp at hc
    · have : o' + 0 = 1 := by omega
      rw [this] at hc
      simp at hc
theorem OwK.belX {w w' : World} {base : Nat} {A : Option Addr} {n c : Nat} {xs : List Nat} (h : Own w base A n c xs) (r : BelX N w w') : Own w' base A n c xs := by
  rcases h.cases with ⟨rfl, rfl, rfl, rfl⟩ | ⟨g, cur, rfl, hb, hh, hnc, hcm, hcs, ht⟩
  · exact OwK.nil_ _ _
  · have e := r.keep hh (fun b A n c e => by injection e with _ e2 _; exact absurd e2 (by decide))
    refine ⟨⟨by rw [List.length_map, h.len, Nat.mul_one], .inr ⟨g, c, cur, rfl, hb, e.trans hh, hnc, hcm, by omega, by simpa using ht⟩⟩, h.lim⟩
theorem Zm.belX {w w' : World} {b : Bool} {A : Option Addr} {n c : Nat} (h : Zm w b A n c z k) (r : BelX N w w') : Zm w' b A n c z k := by
  obtain ⟨v, h1, h2⟩ := h.row
  obtain ⟨xs, hx, hv⟩ := h1.row
  exact ⟨⟨v, ⟨⟨xs, hx.belX r, hv⟩, h1.le⟩, h2⟩⟩
theorem Zt.belX {w w' : World} {base : Nat} {b : Bool} {A : Option Addr} {n c : Nat} (h : Zt w base b A n c z k) (r : BelX N w w') : Zt w' base b A n c z k := ⟨h.own.belX r, h.le, h.neg⟩

/-- A new variable's address. -/
def IsP (N : Nat) (v : Value) (w : World) : Prop := ∃ g, v = .pointer (some ⟨g, 0, none⟩) ∧ N ≤ g ∧ IsBx w g
/-- A variable that holds this number. -/
def HasZ (N : Nat) (u : Value) (w : World) (z : Int) (k : Nat) : Prop := ∃ g b A n c, u = .pointer (some ⟨g, 0, none⟩) ∧ N ≤ g ∧ Bz w g b A n c ∧ Zt w N b A n c z k
/-- .. just this value. -/
def HasC (N : Nat) (u : Value) (w : World) (b : Bool) (A : Option Addr) (n c : Nat) : Prop := ∃ g, u = .pointer (some ⟨g, 0, none⟩) ∧ N ≤ g ∧ Bz w g b A n c

theorem xM {N' : Nat} : Stab (BelU N') fun v _ w => IsM w v z k := fun _ _ _ _ _ r _ h => by
  obtain ⟨b, A, n, c, rfl, Z⟩ := h
  exact ⟨b, A, n, c, rfl, Z.belX r.x⟩
theorem xZ {N' : Nat} : Stab (BelU N') fun v _ w => IsZ N w v z k := fun _ _ _ _ _ r _ h => by
  obtain ⟨b, A, n, c, rfl, Z⟩ := h
  exact ⟨b, A, n, c, rfl, Z.belX r.x⟩
theorem xT {N' : Nat} : Stab (BelU N') fun v _ w => IsT w v z k := fun _ _ _ _ _ r _ h => by
  obtain ⟨b, A, n, c, rfl, T, e⟩ := h
  exact ⟨b, A, n, c, rfl, ⟨T.rd.belX r.x, T.le⟩, e⟩
theorem xZE {N' : Nat} : Stab (BelU N') fun v _ w => IsZE N w v z k o := fun _ _ _ _ _ r _ h => by
  obtain ⟨b, A, n, c, rfl, Z⟩ := h
  exact ⟨b, A, n, c, rfl, Z.belX r.x⟩
theorem xZB {N' : Nat} : Stab (BelU N') fun v _ w => IsZB N w v z k p := fun _ _ _ _ _ r _ h => by
  obtain ⟨b, A, n, c, rfl, Z⟩ := h
  exact ⟨b, A, n, c, rfl, Z.belX r.x⟩
theorem xR2 {N' : Nat} : Stab (BelU N') fun v _ w => IsR2 w v z k u j := fun _ _ _ _ _ r _ h => by
  obtain ⟨g, s, A, n, c, t, B, m, d, rfl, h0, Z, Z'⟩ := h
  refine ⟨g, s, A, n, c, t, B, m, d, rfl, (r.x.keep h0 fun b A n c e => ?_).trans h0, Z.belX r.x, Z'.belX r.x⟩
  injection e with e1
  have := congrArg Array.size e1
  simp at this
theorem xP : Stab (BelU N) fun v _ w => IsP N v w := fun _ _ _ _ _ r _ h => by
  obtain ⟨g, rfl, hg, hb⟩ := h
  refine ⟨g, rfl, hg, ?_⟩
  rcases r.x.block g hb.lt with e | ⟨_, _, h3⟩
  · exact hb.of_eq e
  · exact h3
theorem Bz.belU {w w' : World} {u' : Value} {g : Nat} {b : Bool} {A : Option Addr} {n c : Nat} (h : Bz w g b A n c) (r : BelU N u' w w') (hn : u' ≠ undef → u' ≠ .pointer (some ⟨g, 0, none⟩)) : Bz w' g b A n c := by
  rcases r.only g h.lt with e | e
  · exact ⟨e.trans h.row⟩
  · exact absurd e (hn (by rw [e]; intro e'; cases e'))
theorem xHZ : Stab (BelU N) fun _ u w => HasZ N u w z k := fun _ _ _ _ _ r hn h => by
  obtain ⟨g, b, A, n, c, rfl, hg, B, Z⟩ := h
  exact ⟨g, b, A, n, c, rfl, hg, B.belU r hn, Z.belX r.x⟩
theorem xHC {b : Bool} {A : Option Addr} {n c : Nat} : Stab (BelU N) fun _ u w => HasC N u w b A n c := fun _ _ _ _ _ r hn h => by
  obtain ⟨g, rfl, hg, B⟩ := h
  exact ⟨g, rfl, hg, B.belU r hn⟩

/-- A store into a new variable. -/
theorem belU_store {w : World} {g : Nat} {s t : Bool} {A B : Option Addr} {n c m d : Nat} (h : Bz w g s A n c) (hg : N ≤ g) :
    BelU N (.pointer (some ⟨g, 0, none⟩)) w ((w.setCell ⟨g, 0, none⟩ (.bool t)).setCell ⟨g, 1, none⟩ (.slice B m d)) ∧ Bz ((w.setCell ⟨g, 0, none⟩ (.bool t)).setCell ⟨g, 1, none⟩ (.slice B m d)) g t B m d := by
  have hb : Bz ((w.setCell ⟨g, 0, none⟩ (.bool t)).setCell ⟨g, 1, none⟩ (.slice B m d)) g t B m d := by
    refine ⟨?_⟩
    have h1 := heap_setCell_same w g 0 #[.bool s, .slice A n c] 24 (.bool t) h.row
    exact heap_setCell_same _ g 1 _ 24 (.slice B m d) h1
  refine ⟨⟨⟨rfl, rfl, rfl, by simp [World.setCell], fun i hi => ?_⟩, fun i hi => ?_⟩, hb⟩
  · by_cases e : i = g
    · subst e
      exact .inr ⟨hg, ⟨_, _, _, _, h⟩, ⟨_, _, _, _, hb⟩⟩
    · exact .inl (by rw [heap_setCell_other _ ⟨g, 1, none⟩ i _ e, heap_setCell_other _ ⟨g, 0, none⟩ i _ e])
  · by_cases e : i = g
    · subst e
      exact .inr rfl
    · exact .inl (by rw [heap_setCell_other _ ⟨g, 1, none⟩ i _ e, heap_setCell_other _ ⟨g, 0, none⟩ i _ e])
section
variable {a : Act} {w : World} {Q : Exit → Act → World → Prop} {dst : Option Tmp} {ty : TypeId} {pos : String} {af : Array Edge} {gd : Option (Nat × Bool)} {y : Operand} {ops : Array Oper} {sp : Nat → Value → Value → World → Prop} {i q : Nat} {v v' : Value}
theorem st_storeZ (hna : isAlloc ops i = false) (haux : auxOf ops i = some q) (hx : a.eval (.tmp q) = v) (hp : IsP N v w) (hy : a.eval y = v') (hz : IsZ N w v' z k) (hsp : ∀ v u w, HasZ N u w z k → sp i v u w) : Oper.wp Tryz.prog ⟨dst, .store 24 (.tmp q) y, ty, pos, af, gd⟩ a w (Done (BelU N) ops sp i a dst w) Q := by
  obtain ⟨g, rfl, hg, b, A, n, c, hb⟩ := hp
  obtain ⟨b1, A1, n1, c1, rfl, Z⟩ := hz
  have st := belU_store (t := b1) (B := A1) (m := n1) (d := c1) hb hg
  refine wp_store hx hy hb (done' hna ?_ ?_)
  · rw [aux_eq haux hx]; exact st.1
  · rw [aux_eq haux hx]; exact hsp _ _ _ ⟨g, b1, A1, n1, c1, rfl, hg, st.2, Z.belX st.1.x⟩
theorem st_storeC {b1 : Bool} {A1 : Option Addr} {n1 c1 : Nat} (hna : isAlloc ops i = false) (haux : auxOf ops i = some q) (hx : a.eval (.tmp q) = v) (hp : IsP N v w) (hy : a.eval y = .agg #[.bool b1, .slice A1 n1 c1]) (hsp : ∀ v u w, HasC N u w b1 A1 n1 c1 → sp i v u w) : Oper.wp Tryz.prog ⟨dst, .store 24 (.tmp q) y, ty, pos, af, gd⟩ a w (Done (BelU N) ops sp i a dst w) Q := by
  obtain ⟨g, rfl, hg, b, A, n, c, hb⟩ := hp
  have st := belU_store (t := b1) (B := A1) (m := n1) (d := c1) hb hg
  refine wp_store hx hy hb (done' hna ?_ ?_)
  · rw [aux_eq haux hx]; exact st.1
  · rw [aux_eq haux hx]; exact hsp _ _ _ ⟨g, rfl, hg, st.2⟩
theorem st_alloc (hN : N ≤ w.heap.size) (hsp : ∀ v u w, IsP N v w → sp i v u w) (hall : ∀ j vj u, isAlloc ops j = true → sp j vj u w → IsP N vj w) : Oper.wp Tryz.prog ⟨dst, .alloc 24, ty, pos, af, gd⟩ a w (Done (BelU N) ops sp i a dst w) Q := by
  refine wp_alloc (doneA (rxu _ _ _ _ (bl_alloc _ _)) (hsp _ _ _ ⟨_, rfl, hN, _, _, _, _, Bz.new w false none 0 0⟩) fun j vj u hj hs e => ?_)
  obtain ⟨g, rfl, _, hb⟩ := hall j vj u hj hs
  have hlt := hb.lt
  injection e with e
  injection e with e
  injection e with e
  omega
end
theorem alloc_cases {ops : Array Oper} {l : List Nat} (h : (List.range ops.size).filter (isAlloc ops) = l) (j : Nat) (hj : isAlloc ops j = true) : j ∈ l := by
  rw [← h, List.mem_filter, List.mem_range]
  refine ⟨?_, hj⟩
  unfold isAlloc at hj
  cases ho : ops[j]? with
  | none => rw [ho] at hj; cases hj
  | some o => exact (Array.getElem?_eq_some_iff.1 ho).1
end

end Go.Proofs.YtbhgbilhoonopaaGreat

/- Functions that are called as they stand. -/
namespace Go.Proofs.YtbhgbilhoonopaaGreat
open Go.RowKit
set_option maxRecDepth 100000
theorem cf_big_Add : CallsF 105 := fun args w => by go_simp
theorem cf_big_Mul : CallsF 67 := fun args w => by go_simp
theorem cf_big_Neg : CallsF 59 := fun args w => by go_simp
theorem cf_big_From : CallsF 91 := fun args w => by go_simp
theorem cf_big_Sign : CallsF 72 := fun args w => by go_simp
theorem cf_big_Cmp : CallsF 71 := fun args w => by go_simp
theorem cf_big_Div : CallsF 76 := fun args w => by go_simp
theorem cf_big_Text : CallsF 84 := fun args w => by go_simp
theorem cf_big_Parse : CallsF 93 := fun args w => by go_simp
theorem cf_big_Of : CallsF 89 := fun args w => by go_simp
end Go.Proofs.YtbhgbilhoonopaaGreat
