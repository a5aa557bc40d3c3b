/- Contracts of the program's functions, as far as the claims ask for them (3 of 6). -/
import Derived.Laws.Externs
import Derived.Lib.Bytealg
import Derived.Test.YtbhgbilhoonopaaGreatV2
namespace Go.Proofs.YtbhgbilhoonopaaGreat
open Go.RowKit
set_option linter.unusedVariables false
set_option maxRecDepth 100000

/-- What was there stays. -/
def RB (w w' : World) : Prop := Below w.heap.size w w'
def RBu (_ : Value) (w w' : World) : Prop := Below w.heap.size w w'
theorem rb (u : Value) (w w' : World) (h : Below w.heap.size w w') : RBu u w w' := h
theorem rb_refl (w : World) : RB w w := Below.refl _ _
theorem rbu_refl (u : Value) (w : World) : RBu u w w := Below.refl _ _
theorem rb_trans (u : Value) (a b c : World) (h : RB a b) (k : RBu u b c) : RB a c := bl_trans h k
theorem undrew {W w : World} (h : RB W.drew w) : Below W.heap.size W w := ⟨h.os, h.tape, h.output, h.size, h.block⟩

section
variable {z u : Int} {k j N : Nat} {o : Int} {p : Bool} {l : List Nat}
theorem sM : Stab RBu fun v _ w => IsM w v z k := fun _ _ _ _ _ r _ h => h.below r
theorem sT : Stab RBu fun v _ w => IsT w v z k := fun _ _ _ _ _ r _ h => h.below r
theorem sZ : Stab RBu fun v _ w => IsZ N w v z k := fun _ _ _ _ _ r _ h => h.below r
theorem sC {Rel : Value → World → World → Prop} {c : Value} : Stab Rel fun v _ _ => v = c := fun _ _ _ _ _ _ _ h => h
theorem sS {Rel : Value → World → World → Prop} : Stab Rel fun v _ _ => IsS v l := fun _ _ _ _ _ _ _ h => h

/-- A row of limbs of this number. -/
def IsN (w : World) (v : Value) (x : Nat) (k : Nat) : Prop := ∃ A n c, v = .slice A n c ∧ Nm w A n c x k
theorem cOfN (s : Bool) {w : World} {v : Value} {x : Nat} (h : IsN w v x k) (hk : k ≤ 1000) (hN : N ≤ w.heap.size) : Calls Tryz.prog 89 #[.bool s, v] w (Ans w fun w' v => IsZ N w' v (zv s x) k) := by
 obtain ⟨A, n, c, rfl, h⟩ := h
 exact cOf s h hk hN
instance (s : ByteArray) : Decidable (isZ s) := by unfold isZ; infer_instance

/-- A block is known whole. -/
structure Ar (w : World) (g : Nat) (cs : Array Value) (t : TypeId) : Prop where
 row : w.heap[g]? = some (.cells cs t (0, 0))
section
variable {a : Act} {w : World} {K : Act → World → Prop} {Q : Exit → Act → World → Prop} {dst : Option Tmp} {ty : TypeId} {pos : String} {af : Array Edge} {gd : Option (Nat × Bool)} {x : Operand} {g : Nat}
end

/-! ### Stores into variables that the region makes -/
def IsBx (w : World) (g : Nat) : Prop := ∃ b A n c, Bz w g b A n c
/-- What was there stays, but for variables from block N on. -/
structure BelX (N : Nat) (w w' : World) : Prop where
 os : w'.os = w.os
 tape : w'.tape = w.tape
 output : w'.output = w.output
 size : w.heap.size ≤ w'.heap.size
 block : ∀ i, i < w.heap.size → w'.heap[i]? = w.heap[i]? ∨ (N ≤ i ∧ IsBx w i ∧ IsBx w' i)
/-- .. but for the one variable u. -/
structure BelU (N : Nat) (u : Value) (w w' : World) : Prop where
 x : BelX N w w'
 only : ∀ i, i < w.heap.size → w'.heap[i]? = w.heap[i]? ∨ u = .pointer (some ⟨i, 0, none⟩)
theorem rx (N : Nat) (w w' : World) (h : Below w.heap.size w w') : BelX N w w' := ⟨h.os, h.tape, h.output, h.size, fun i hi => .inl (h.block i hi)⟩
theorem rx_refl (N : Nat) (w : World) : BelX N w w := rx N w w (Below.refl _ _)
theorem IsBx.lt {w : World} {g : Nat} (h : IsBx w g) : g < w.heap.size := by
 obtain ⟨b, A, n, c, h⟩ := h
 exact h.lt
theorem IsBx.of_eq {w w' : World} {g : Nat} (h : IsBx w g) (e : w'.heap[g]? = w.heap[g]?) : IsBx w' g := by
 obtain ⟨b, A, n, c, h⟩ := h
 exact ⟨b, A, n, c, ⟨e.trans h.row⟩⟩
theorem rx_trans (N : Nat) (a b c : World) (h : BelX N a b) (g : BelX N b c) : BelX N a c := by
 refine ⟨g.os.trans h.os, g.tape.trans h.tape, g.output.trans h.output, Nat.le_trans h.size g.size, fun i hi => ?_⟩
 have hs := h.size
 rcases h.block i hi with e | ⟨h1, h2, h3⟩
 ·rcases g.block i (by omega) with e' | ⟨g1, g2, g3⟩
  ·exact .inl (e'.trans e)
  ·exact .inr ⟨g1, g2.of_eq e.symm, g3⟩
 ·rcases g.block i (by omega) with e' | ⟨g1, g2, g3⟩
  ·exact .inr ⟨h1, h2, h3.of_eq e'⟩
  ·exact .inr ⟨h1, h2, g3⟩
theorem rxu (N : Nat) (u : Value) (w w' : World) (h : Below w.heap.size w w') : BelU N u w w' := ⟨rx N w w' h, fun i hi => .inl (h.block i hi)⟩
theorem rxu_refl (N : Nat) (u : Value) (w : World) : BelU N u w w := rxu N u w w (Below.refl _ _)
theorem rxu_trans (N : Nat) (u : Value) (a b c : World) (h : BelX N a b) (k : BelU N u b c) : BelX N a c := rx_trans N a b c h k.x
theorem undrewX {W w : World} (h : BelX W.heap.size W.drew w) : Below W.heap.size W w := by
 refine ⟨h.os, h.tape, h.output, h.size, fun i hi => ?_⟩
 rcases h.block i hi with e | ⟨h1, _⟩
 ·exact e
 ·omega
/-- A block that is no variable stays. -/
theorem BelX.keep {N : Nat} {w w' : World} (h : BelX N w w') {i : Nat} {o : Obj} (ho : w.heap[i]? = some o) (hn : ∀ b A n c, o ≠ .cells #[.bool b, .slice A n c] 24 (0, 0)) : w'.heap[i]? = w.heap[i]? := by
 rcases h.block i (Array.getElem?_eq_some_iff.1 ho).1 with e | ⟨_, ⟨b, A, n, c, h2⟩, _⟩
 ·exact e
 ·exfalso
  rw [h2.row] at ho
  exact hn b A n c (Option.some.inj ho).symm
theorem RdK.belX {w w' : World} {A : Option Addr} {n c : Nat} {xs : List Nat} (h : Rd w A n c xs) (r : BelX N w w') : Rd w' A n c xs := by
 refine h.keep fun p hp hn => ?_
 obtain ⟨b, o', x, hA, hx, _, hc⟩ := h.at32 (i := 0) hn
 rw [hp] at hA
 injection hA with hA
 subst hA
 have hlt := World.block_lt_of_cell? w _ hc
 rcases r.block b hlt with e | ⟨_, ⟨s, B, m, d, h2⟩, _⟩
 ·exact e
 ·exfalso
  rw [cell_of_row _ _ _ _ _ _ h2.row] at hc
  have hl : o' + 0 < 2 := by
   have := (Array.getElem?_eq_some_iff.1 hc).1
   simpa using this
  rcases Nat.lt_or_ge (o' + 0) 1 with h9 | h9
  ·have : o' + 0 = 0 := by omega
   rw [this] at hc
   simp at hc
  ·have : o' + 0 = 1 := by omega
   rw [this] at hc
   simp at hc
theorem OwK.belX {w w' : World} {base : Nat} {A : Option Addr} {n c : Nat} {xs : List Nat} (h : Own w base A n c xs) (r : BelX N w w') : Own w' base A n c xs := by
 rcases h.cases with ⟨rfl, rfl, rfl, rfl⟩ | ⟨g, cur, rfl, hb, hh, hnc, hcm, hcs, ht⟩
 ·exact OwK.nil_ _ _
 ·have e := r.keep hh (fun b A n c e => by injection e with _ e2 _; exact absurd e2 (by decide))
  refine ⟨⟨by rw [List.length_map, h.len, Nat.mul_one], .inr ⟨g, c, cur, rfl, hb, e.trans hh, hnc, hcm, by omega, by simpa using ht⟩⟩, h.lim⟩
theorem Zm.belX {w w' : World} {b : Bool} {A : Option Addr} {n c : Nat} (h : Zm w b A n c z k) (r : BelX N w w') : Zm w' b A n c z k := by
 obtain ⟨v, h1, h2⟩ := h.row
 obtain ⟨xs, hx, hv⟩ := h1.row
 exact ⟨⟨v, ⟨⟨xs, hx.belX r, hv⟩, h1.le⟩, h2⟩⟩
theorem Zt.belX {w w' : World} {base : Nat} {b : Bool} {A : Option Addr} {n c : Nat} (h : Zt w base b A n c z k) (r : BelX N w w') : Zt w' base b A n c z k := ⟨h.own.belX r, h.le, h.neg⟩

/-- A new variable's address. -/
def IsP (N : Nat) (v : Value) (w : World) : Prop := ∃ g, v = .pointer (some ⟨g, 0, none⟩) ∧ N ≤ g ∧ IsBx w g
/-- A variable that holds this number. -/
def HasZ (N : Nat) (u : Value) (w : World) (z : Int) (k : Nat) : Prop := ∃ g b A n c, u = .pointer (some ⟨g, 0, none⟩) ∧ N ≤ g ∧ Bz w g b A n c ∧ Zt w N b A n c z k
theorem xZ {N' : Nat} : Stab (BelU N') fun v _ w => IsZ N w v z k := fun _ _ _ _ _ r _ h => by
 obtain ⟨b, A, n, c, rfl, Z⟩ := h
 exact ⟨b, A, n, c, rfl, Z.belX r.x⟩
theorem xZE {N' : Nat} : Stab (BelU N') fun v _ w => IsZE N w v z k o := fun _ _ _ _ _ r _ h => by
 obtain ⟨b, A, n, c, rfl, Z⟩ := h
 exact ⟨b, A, n, c, rfl, Z.belX r.x⟩
theorem xR2 {N' : Nat} : Stab (BelU N') fun v _ w => IsR2 w v z k u j := fun _ _ _ _ _ r _ h => by
 obtain ⟨g, s, A, n, c, t, B, m, d, rfl, h0, Z, Z'⟩ := h
 refine ⟨g, s, A, n, c, t, B, m, d, rfl, (r.x.keep h0 fun b A n c e => ?_).trans h0, Z.belX r.x, Z'.belX r.x⟩
 injection e with e1
 have := congrArg Array.size e1
 simp at this
theorem xP : Stab (BelU N) fun v _ w => IsP N v w := fun _ _ _ _ _ r _ h => by
 obtain ⟨g, rfl, hg, hb⟩ := h
 refine ⟨g, rfl, hg, ?_⟩
 rcases r.x.block g hb.lt with e | ⟨_, _, h3⟩
 ·exact hb.of_eq e
 ·exact h3
theorem Bz.belU {w w' : World} {u' : Value} {g : Nat} {b : Bool} {A : Option Addr} {n c : Nat} (h : Bz w g b A n c) (r : BelU N u' w w') (hn : u' ≠ undef → u' ≠ .pointer (some ⟨g, 0, none⟩)) : Bz w' g b A n c := by
 rcases r.only g h.lt with e | e
 ·exact ⟨e.trans h.row⟩
 ·exact absurd e (hn (by rw [e]; intro e'; cases e'))
theorem xHZ : Stab (BelU N) fun _ u w => HasZ N u w z k := fun _ _ _ _ _ r hn h => by
 obtain ⟨g, b, A, n, c, rfl, hg, B, Z⟩ := h
 exact ⟨g, b, A, n, c, rfl, hg, B.belU r hn, Z.belX r.x⟩
/-- A store into a new variable. -/
theorem belU_store {w : World} {g : Nat} {s t : Bool} {A B : Option Addr} {n c m d : Nat} (h : Bz w g s A n c) (hg : N ≤ g) :
  BelU N (.pointer (some ⟨g, 0, none⟩)) w ((w.setCell ⟨g, 0, none⟩ (.bool t)).setCell ⟨g, 1, none⟩ (.slice B m d)) ∧ Bz ((w.setCell ⟨g, 0, none⟩ (.bool t)).setCell ⟨g, 1, none⟩ (.slice B m d)) g t B m d := by
 have hb : Bz ((w.setCell ⟨g, 0, none⟩ (.bool t)).setCell ⟨g, 1, none⟩ (.slice B m d)) g t B m d := by
  refine ⟨?_⟩
  have h1 := heap_setCell_same w g 0 #[.bool s, .slice A n c] 24 (.bool t) h.row
  exact heap_setCell_same _ g 1 _ 24 (.slice B m d) h1
 refine ⟨⟨⟨rfl, rfl, rfl, by simp [World.setCell], fun i hi => ?_⟩, fun i hi => ?_⟩, hb⟩
 ·by_cases e : i = g
  ·subst e
   exact .inr ⟨hg, ⟨_, _, _, _, h⟩, ⟨_, _, _, _, hb⟩⟩
  ·exact .inl (by rw [heap_setCell_other _ ⟨g, 1, none⟩ i _ e, heap_setCell_other _ ⟨g, 0, none⟩ i _ e])
 ·by_cases e : i = g
  ·subst e
   exact .inr rfl
  ·exact .inl (by rw [heap_setCell_other _ ⟨g, 1, none⟩ i _ e, heap_setCell_other _ ⟨g, 0, none⟩ i _ e])
section
variable {a : Act} {w : World} {Q : Exit → Act → World → Prop} {dst : Option Tmp} {ty : TypeId} {pos : String} {af : Array Edge} {gd : Option (Nat × Bool)} {y : Operand} {ops : Array Oper} {sp : Nat → Value → Value → World → Prop} {i q : Nat} {v v' : Value}
theorem st_storeZ (hna : isAlloc ops i = false) (haux : auxOf ops i = some q) (hx : a.eval (.tmp q) = v) (hp : IsP N v w) (hy : a.eval y = v') (hz : IsZ N w v' z k) (hsp : ∀ v u w, HasZ N u w z k → sp i v u w) : Oper.wp Tryz.prog ⟨dst, .store 24 (.tmp q) y, ty, pos, af, gd⟩ a w (Done (BelU N) ops sp i a dst w) Q := by
 obtain ⟨g, rfl, hg, b, A, n, c, hb⟩ := hp
 obtain ⟨b1, A1, n1, c1, rfl, Z⟩ := hz
 have st := belU_store (t := b1) (B := A1) (m := n1) (d := c1) hb hg
 refine wp_store hx hy hb (done' hna ?_ ?_)
 ·rw [aux_eq haux hx]; exact st.1
 ·rw [aux_eq haux hx]; exact hsp _ _ _ ⟨g, b1, A1, n1, c1, rfl, hg, st.2, Z.belX st.1.x⟩
theorem st_alloc (hN : N ≤ w.heap.size) (hsp : ∀ v u w, IsP N v w → sp i v u w) (hall : ∀ j vj u, isAlloc ops j = true → sp j vj u w → IsP N vj w) : Oper.wp Tryz.prog ⟨dst, .alloc 24, ty, pos, af, gd⟩ a w (Done (BelU N) ops sp i a dst w) Q := by
 refine wp_alloc (doneA (rxu _ _ _ _ (bl_alloc _ _)) (hsp _ _ _ ⟨_, rfl, hN, _, _, _, _, Bz.new w false none 0 0⟩) fun j vj u hj hs e => ?_)
 obtain ⟨g, rfl, _, hb⟩ := hall j vj u hj hs
 have hlt := hb.lt
 injection e with e
 injection e with e
 injection e with e
 omega
end
theorem alloc_cases {ops : Array Oper} {l : List Nat} (h : (List.range ops.size).filter (isAlloc ops) = l) (j : Nat) (hj : isAlloc ops j = true) : j ∈ l := by
 rw [← h, List.mem_filter, List.mem_range]
 refine ⟨?_, hj⟩
 unfold isAlloc at hj
 cases ho : ops[j]? with
 | none => rw [ho] at hj; cases hj
 | some o => exact (Array.getElem?_eq_some_iff.1 ho).1
end

end Go.Proofs.YtbhgbilhoonopaaGreat

/- Functions that are called as they stand. -/
namespace Go.Proofs.YtbhgbilhoonopaaGreat
open Go.RowKit
set_option maxRecDepth 100000
theorem cf_big_Mul : CallsF 67 := fun args w => by go_simp
theorem cf_big_Neg : CallsF 59 := fun args w => by go_simp
theorem cf_big_Div : CallsF 76 := fun args w => by go_simp
theorem cf_big_Text : CallsF 84 := fun args w => by go_simp
theorem cf_big_Of : CallsF 89 := fun args w => by go_simp
end Go.Proofs.YtbhgbilhoonopaaGreat
namespace Go.Proofs.YtbhgbilhoonopaaGreat
open Go.RowKit
set_option linter.unusedVariables false
set_option maxRecDepth 100000

/-- A trimmed row of the call's own. -/
def IsD (N : Nat) (w : World) (v : Value) (x k : Nat) : Prop := ∃ A n c, v = .slice A n c ∧ Own w N A n c (M.lims x) ∧ n ≤ k
section
variable {w w' : World} {v v' : Value} {x y k j N N' : Nat}
theorem IsD.below (h : IsD N w v x k) (hb : Below w.heap.size w w') : IsD N w' v x k := by
 obtain ⟨A, n, c, rfl, h, l⟩ := h
 exact ⟨A, n, c, rfl, h.below hb, l⟩
theorem IsD.n (h : IsD N w v x k) : IsN w v x k := by
 obtain ⟨A, n, c, rfl, h, l⟩ := h
 exact ⟨A, n, c, rfl, ⟨⟨_, h.rd, M.val_lims x⟩, l⟩⟩
theorem sD : Stab RBu fun v _ w => IsD N w v x k := fun _ _ _ _ _ r _ h => h.below r
theorem ansD {e : Ending} (hN : N ≤ w.heap.size) (hx : x < M.R ^ k) (h : Gives w (M.lims x) e w') : Ans w (fun w' v => IsD N w' v x k) e w' := by
 obtain ⟨A, c, rfl, ho, hb⟩ := h
 exact ⟨_, rfl, hb, A, _, c, rfl, ho.mono hN, M.lims_length_le.2 hx⟩
theorem IsN.lt (h : IsN w v x k) : x < M.R ^ k := by
 obtain ⟨A, n, c, rfl, h⟩ := h
 exact h.lt

theorem cGcd (h : IsN w v x k) (g : IsN w v' y j) (hk : k ≤ 1000) (hj : j ≤ 1000) (hN : N ≤ w.heap.size) : Calls Tryz.prog 99 #[v, v'] w (Ans w fun w' v => IsD N w' v (x.gcd y) (max k j)) := by
 have hx := h.lt
 have hy := g.lt
 obtain ⟨A, n, c, rfl, h⟩ := h
 obtain ⟨B, m, d, rfl, g⟩ := g
 have hl := h.le
 have gl := g.le
 obtain ⟨xs, hx', rfl⟩ := h.row
 obtain ⟨ys, hy', rfl⟩ := g.row
 refine (gcd_all _ _ _ _ _ _ _ _ _ hx' hy' (by omega) (by omega)).mono fun e w' r => ansD hN ?_ r
 rcases Nat.eq_zero_or_pos (M.val xs) with h0 | h0
 ·rw [h0, Nat.gcd_zero_left]
  exact Nat.lt_of_lt_of_le hy (Nat.pow_le_pow_right M.R_pos (by omega))
 ·exact Nat.lt_of_le_of_lt (Nat.gcd_le_left _ h0) (Nat.lt_of_lt_of_le hx (Nat.pow_le_pow_right M.R_pos (by omega)))
theorem cMulD (h : IsN w v x k) (g : IsN w v' y j) (hk : k ≤ 1000) (hj : j ≤ 1000) (hm : min k j < 40) (hN : N ≤ w.heap.size) : Calls Tryz.prog 68 #[v, v'] w (Ans w fun w' v => IsD N w' v (x * y) (k + j)) := by
 have hx := h.lt
 have hy := g.lt
 obtain ⟨A, n, c, rfl, h⟩ := h
 obtain ⟨B, m, d, rfl, g⟩ := g
 have hl := h.le
 have gl := g.le
 obtain ⟨xs, hx', rfl⟩ := h.row
 obtain ⟨ys, hy', rfl⟩ := g.row
 have e1 := M.lims_length_le.2 hx
 have e2 := M.lims_length_le.2 hy
 exact (mul_few _ _ _ _ _ _ _ _ _ hx' hy' (by omega) (by omega) (by omega)).mono fun e w' r => ansD hN (mul_lt_pow hx hy) r
theorem cFromD (n : Nat) (hn : n < 4294967296) (hN : N ≤ w.heap.size) : Calls Tryz.prog 90 #[.int .u64 (n : Int)] w (Ans w fun w' v => IsD N w' v n 1) :=
 (from_any n w (by omega) (by omega)).mono fun e w' r => ansD hN (by rw [Nat.pow_one, M.R_eq]; exact hn) (by simpa using r)
set_option maxHeartbeats 1000000 in
theorem cWithout (h : IsN w v x k) (g : IsN w v' y j) (hk : k ≤ 1000) (hj : j ≤ 1000) (hy0 : y ≠ 0) (hN : N ≤ w.heap.size) : Calls Tryz.prog 100 #[v, v'] w (Ans w fun w' v => IsD N w' v (x / y) k) := by
 have hx := h.lt
 obtain ⟨A, n, c, rfl, h⟩ := h
 obtain ⟨B, m, d, rfl, g⟩ := g
 have hl := h.le
 have gl := g.le
 obtain ⟨xs, hx', rfl⟩ := h.row
 obtain ⟨ys, hy', rfl⟩ := g.row
 have H := Lib.hid (div_all A n c xs B m d ys w hx' hy' (by omega) (by omega) hy0)
 clear h g hx' hy' hy0
 go_enter Tryz.func100, Tryz.ntmps100
 go_wp2_with fail
 refine H.out.mono ?_
 rintro e w1 ⟨A1, c1, B1, d1, rfl, ho, _, _, hb⟩
 have HO := Lib.hid ho
 have HB := Lib.hid hb
 clear ho hb H
 go_wp2_with fail
 go_ret
 exact ⟨_, rfl, HB.out, A1, _, c1, rfl, HO.out.mono hN, M.lims_length_le.2 (Nat.lt_of_le_of_lt (Nat.div_le_self _ _) hx)⟩
set_option maxHeartbeats 1000000 in
theorem cUnsigned (A : Option Addr) (n c : Nat) : Calls Tryz.prog 77 #[.slice A n c] w (Ans w fun _ v => v = .agg #[.bool false, .slice A n c]) := by
 go_enter Tryz.func77, Tryz.ntmps77
 go_wp2
 exact bodyPost_ret (v := .agg #[.bool false, .slice A n c]) (by simp [results, Tryz.results77, go_sem]) rfl ⟨_, rfl, bl_alloc _ _, rfl⟩
set_option maxHeartbeats 1000000 in
theorem cIsOne (h : IsN w v x k) (hk : k ≤ 1000) : Calls Tryz.prog 83 #[v] w (Ans w fun _ v => v = .bool (decide (x = 1))) := by
 obtain ⟨A, n, c, rfl, h⟩ := h
 have H := Lib.hid h
 clear h
 go_enter Tryz.func83, Tryz.ntmps83
 go_wp2_with fail
 refine (cFromD (N := 0) 1 (by omega) (Nat.zero_le _)).mono ?_
 rintro e w1 ⟨_, rfl, hb1, B, m, d, rfl, ho, hl⟩
 have HO := Lib.hid ho
 have HB := Lib.hid hb1
 clear ho hb1
 go_wp2_with fail
 refine (cmpN (H.out.below HB.out) (show Nm w1 B m d 1 1 from ⟨⟨_, HO.out.rd, M.val_lims 1⟩, hl⟩) (by omega) (by omega)).mono ?_
 rintro e w2 ⟨rfl, hb2⟩
 have HB2 := Lib.hid (bl_trans HB.out hb2)
 have hcmp : (cmpV x 1 == 0) = decide (x = 1) := by
  rcases Nat.lt_trichotomy x 1 with h | h | h
  ·rw [cmpV_lt h, decide_eq_false (by omega)]; rfl
  ·subst h; rw [cmpV_eq, decide_eq_true rfl]; rfl
  ·rw [cmpV_gt h, decide_eq_false (by omega)]; rfl
 have HC := Lib.hid hcmp
 clear hb2 hcmp
 go_wp2_with fail
 go_ret
 exact ⟨_, rfl, HB2.out, congrArg Value.bool HC.out⟩
end

/-- A fraction as it comes. -/
def IsQm (w : World) (v : Value) (q : Rat) (k : Nat) : Prop := ∃ b A n c B m d, v = .agg #[.bool b, .slice A n c, .slice B m d] ∧ ∃ z y, Zm w b A n c z k ∧ Nm w B m d y k ∧ q = mkRat z (dOf y)
/-- A right one. -/
def IsQt (w : World) (v : Value) (q : Rat) (k : Nat) : Prop := ∃ b A n c B m d, v = .agg #[.bool b, .slice A n c, .slice B m d] ∧ Tm w A n c q.num.natAbs k ∧ b = decide (q.num < 0) ∧ Tm w B m d q.den k
/-- A right one whose limbs are the call's own. -/
def IsQ (N : Nat) (w : World) (v : Value) (q : Rat) (k : Nat) : Prop := ∃ b A n c B m d, v = .agg #[.bool b, .slice A n c, .slice B m d] ∧ Zt w N b A n c q.num k ∧ Own w N B m d (M.lims q.den) ∧ m ≤ k
section
variable {w w' : World} {v v' : Value} {q p : Rat} {k j N N' : Nat}
theorem IsQm.below (h : IsQm w v q k) (hb : Below w.heap.size w w') : IsQm w' v q k := by
 obtain ⟨b, A, n, c, B, m, d, rfl, z, y, h1, h2, h3⟩ := h
 exact ⟨b, A, n, c, B, m, d, rfl, z, y, h1.below hb, h2.below hb, h3⟩
theorem IsQt.below (h : IsQt w v q k) (hb : Below w.heap.size w w') : IsQt w' v q k := by
 obtain ⟨b, A, n, c, B, m, d, rfl, h1, h2, h3⟩ := h
 exact ⟨b, A, n, c, B, m, d, rfl, h1.below hb, h2, h3.below hb⟩
theorem IsQ.below (h : IsQ N w v q k) (hb : Below w.heap.size w w') : IsQ N w' v q k := by
 obtain ⟨b, A, n, c, B, m, d, rfl, h1, h2, h3⟩ := h
 exact ⟨b, A, n, c, B, m, d, rfl, h1.below hb, h2.below hb, h3⟩
theorem IsQ.t (h : IsQ N w v q k) : IsQt w v q k := by
 obtain ⟨b, A, n, c, B, m, d, rfl, h1, h2, h3⟩ := h
 exact ⟨b, A, n, c, B, m, d, rfl, h1.tm, h1.neg, h2.rd, h3⟩
theorem IsQt.m (h : IsQt w v q k) : IsQm w v q k := by
 obtain ⟨b, A, n, c, B, m, d, rfl, h1, rfl, h3⟩ := h
 refine ⟨_, A, n, c, B, m, d, rfl, q.num, q.den, ⟨⟨_, h1.nm, ?_⟩⟩, h3.nm, ?_⟩
 ·by_cases h : q.num < 0
  ·rw [decide_eq_true h, zv_true]; omega
  ·rw [decide_eq_false h, zv_false]; omega
 ·rw [dOf_of q.den_nz, Rat.mkRat_self]
theorem IsQ.m (h : IsQ N w v q k) : IsQm w v q k := h.t.m
theorem IsQ.base (h : IsQ N w v q k) (hN : N' ≤ N) : IsQ N' w v q k := by
 obtain ⟨b, A, n, c, B, m, d, rfl, h1, h2, h3⟩ := h
 exact ⟨b, A, n, c, B, m, d, rfl, h1.mono hN, h2.mono hN, h3⟩
theorem IsQ.mono (h : IsQ N w v q k) (hk : k ≤ j) : IsQ N w v q j := by
 obtain ⟨b, A, n, c, B, m, d, rfl, h1, h2, h3⟩ := h
 exact ⟨b, A, n, c, B, m, d, rfl, h1.monoK hk, h2, by omega⟩
theorem IsQt.mono (h : IsQt w v q k) (hk : k ≤ j) : IsQt w v q j := by
 obtain ⟨b, A, n, c, B, m, d, rfl, h1, h2, h3⟩ := h
 exact ⟨b, A, n, c, B, m, d, rfl, ⟨h1.rd, by have := h1.le; omega⟩, h2, ⟨h3.rd, by have := h3.le; omega⟩⟩
/-- By how great both are. -/
theorem IsQ.fit (h : IsQ N w v q k) (hn : q.num.natAbs < M.R ^ j) (hd : q.den < M.R ^ j) : IsQ N w v q j := by
 obtain ⟨b, A, n, c, B, m, d, rfl, h1, h2, h3⟩ := h
 refine ⟨b, A, n, c, B, m, d, rfl, ⟨h1.own, ?_, h1.neg⟩, h2, ?_⟩
 ·rw [← h1.own.len]; exact M.lims_length_le.2 hn
 ·rw [← h2.len]; exact M.lims_length_le.2 hd
theorem IsQt.num_lt (h : IsQt w v q k) : q.num.natAbs < M.R ^ k := by
 obtain ⟨b, A, n, c, B, m, d, rfl, h1, h2, h3⟩ := h
 exact h1.nm.lt
theorem IsQt.den_lt (h : IsQt w v q k) : q.den < M.R ^ k := by
 obtain ⟨b, A, n, c, B, m, d, rfl, h1, h2, h3⟩ := h
 exact h3.nm.lt
/-- A number and a D, put together. -/
theorem isQ_mk {b : Bool} {A B : Option Addr} {n c m d : Nat} (h : Zt w N b A n c q.num k) (g : Own w N B m d (M.lims q.den)) (hm : m ≤ k) : IsQ N w (.agg #[.bool b, .slice A n c, .slice B m d]) q k := ⟨b, A, n, c, B, m, d, rfl, h, g, hm⟩
/-- Behind a store into a variable that is older. -/
theorem IsQ.stored (h : IsQ N w v q k) {g : Nat} (hg : g < N) (i : Nat) (u : Value) : IsQ N (w.setCell ⟨g, i, none⟩ u) v q k := by
 obtain ⟨b, A, n, c, B, m, d, rfl, h1, h2, h3⟩ := h
 refine ⟨b, A, n, c, B, m, d, rfl, h1.stored hg i u, h2.grown (grownBy_setCell w ⟨g, i, none⟩ u) (fun p hp e => ?_), h3⟩
 injection e with e
 have := (OwK.lt h2 hp).1
 dsimp only at e
 omega
theorem sQt : Stab RBu fun v _ w => IsQt w v q k := fun _ _ _ _ _ r _ h => h.below r
theorem sQ : Stab RBu fun v _ w => IsQ N w v q k := fun _ _ _ _ _ r _ h => h.below r
end

/-- Block g holds an api.Rat. -/
structure Bq (w : World) (g : Nat) (b : Bool) (A : Option Addr) (n c : Nat) (B : Option Addr) (m d : Nat) : Prop where
 row : w.heap[g]? = some (.cells #[.bool b, .slice A n c, .slice B m d] 26 (0, 0))
section
variable {w w' : World} {g : Nat} {b : Bool} {A B : Option Addr} {n c m d : Nat}
theorem Bq.lt (h : Bq w g b A n c B m d) : g < w.heap.size := (Array.getElem?_eq_some_iff.1 h.row).1
theorem Bq.below (h : Bq w g b A n c B m d) (hb : Below w.heap.size w w') : Bq w' g b A n c B m d := ⟨(hb.block g h.lt).trans h.row⟩
theorem Bq.alloc (h : Bq w g b A n c B m d) (o : Obj) : Bq (w.alloc o) g b A n c B m d := h.below (bl_alloc w o)
theorem Bq.new (w : World) (b : Bool) (A : Option Addr) (n c : Nat) (B : Option Addr) (m d : Nat) : Bq (w.alloc (.cells #[.bool b, .slice A n c, .slice B m d] 26)) w.heap.size b A n c B m d := ⟨heap_alloc_new w _⟩
theorem Bq.new2 (w : World) (o : Obj) (b : Bool) (A : Option Addr) (n c : Nat) (B : Option Addr) (m d : Nat) : Bq ((w.alloc o).alloc (.cells #[.bool b, .slice A n c, .slice B m d] 26)) (w.heap.size + 1) b A n c B m d := by
 have := Bq.new (w.alloc o) b A n c B m d
 rw [hs_alloc] at this
 exact this
theorem Bq.new3 (w : World) (o o' : Obj) (b : Bool) (A : Option Addr) (n c : Nat) (B : Option Addr) (m d : Nat) : Bq (((w.alloc o).alloc o').alloc (.cells #[.bool b, .slice A n c, .slice B m d] 26)) (w.heap.size + 1 + 1) b A n c B m d := by
 have := Bq.new2 (w.alloc o) o' b A n c B m d
 rw [hs_alloc] at this
 exact this
theorem Bq.new4 (w : World) (o o' o'' : Obj) (b : Bool) (A : Option Addr) (n c : Nat) (B : Option Addr) (m d : Nat) : Bq ((((w.alloc o).alloc o').alloc o'').alloc (.cells #[.bool b, .slice A n c, .slice B m d] 26)) (w.heap.size + 1 + 1 + 1) b A n c B m d := by
 have := Bq.new3 (w.alloc o) o' o'' b A n c B m d
 rw [hs_alloc] at this
 exact this
theorem Bq.drew (h : Bq w g b A n c B m d) : Bq w.drew g b A n c B m d := ⟨h.row⟩
theorem Bq.c0 (h : Bq w g b A n c B m d) : w.cell? ⟨g, 0, none⟩ = some (.bool b) := by
 rw [cell_of_row _ _ _ _ _ _ h.row]; rfl
theorem Bq.c1 (h : Bq w g b A n c B m d) : w.cell? ⟨g, 1, none⟩ = some (.slice A n c) := by
 rw [cell_of_row _ _ _ _ _ _ h.row]; rfl
theorem Bq.c2 (h : Bq w g b A n c B m d) : w.cell? ⟨g, 2, none⟩ = some (.slice B m d) := by
 rw [cell_of_row _ _ _ _ _ _ h.row]; rfl
theorem Bq.f (h : Bq w g b A n c B m d) (i : Nat) : w.frozen? ⟨g, i, none⟩ = false := frozen_of_row _ _ _ _ _ h.row
/-- Its D alone is written. -/
theorem Bq.setD (h : Bq w g b A n c B m d) (B' : Option Addr) (m' d' : Nat) : Bq (w.setCell ⟨g, 2, none⟩ (.slice B' m' d')) g b A n c B' m' d' :=
 ⟨heap_setCell_same w g 2 #[.bool b, .slice A n c, .slice B m d] 26 (.slice B' m' d') h.row⟩
theorem Bq.other (h : Bq w g b A n c B m d) {g' i : Nat} {v : Value} (hne : g ≠ g') : Bq (w.setCell ⟨g', i, none⟩ v) g b A n c B m d := ⟨(heap_setCell_other _ ⟨g', i, none⟩ g _ hne).trans h.row⟩
theorem Bz.other {w : World} {g : Nat} {b : Bool} {A : Option Addr} {n c : Nat} (h : Bz w g b A n c) {g' i : Nat} {v : Value} (hne : g ≠ g') : Bz (w.setCell ⟨g', i, none⟩ v) g b A n c := ⟨(heap_setCell_other _ ⟨g', i, none⟩ g _ hne).trans h.row⟩
end
/-- Behind the store of a result: what was answered stands. -/
theorem fin_q {w w2 : World} {v : Value} {q : Rat} {k N g : Nat} (h : IsQ N w2 v q k) (hb : Below w.heap.size w w2) (hg : w.heap.size ≤ g) (hgb : g < N) (x y z : Value) :
  Ans w (fun w' v => IsQ w.heap.size w' v q k) (.returned v) (((w2.setCell ⟨g, 0, none⟩ x).setCell ⟨g, 1, none⟩ y).setCell ⟨g, 2, none⟩ z) :=
 ⟨v, rfl, ((hb.setCell (p := ⟨g, 0, none⟩) hg x).setCell (p := ⟨g, 1, none⟩) hg y).setCell (p := ⟨g, 2, none⟩) hg z, (((h.stored hgb 0 x).stored hgb 1 y).stored hgb 2 z).base (by omega)⟩

end Go.Proofs.YtbhgbilhoonopaaGreat
namespace Go.Proofs.YtbhgbilhoonopaaGreat
open Go.RowKit
set_option linter.unusedVariables false
set_option maxRecDepth 100000

section
variable {a : Act} {w : World} {Q : Exit → Act → World → Prop} {K : Act → World → Prop} {dst : Option Tmp} {ty : TypeId} {pos : String} {af : Array Edge} {gd : Option (Nat × Bool)} {x y : Operand} {g : Nat} {b : Bool} {A B : Option Addr} {n c m d : Nat}
theorem wp_qf0 (hx : a.eval x = .pointer (some ⟨g, 0, none⟩)) (h : K (a.put dst (.pointer (some ⟨g, 0, none⟩))) w) : Oper.wp Tryz.prog ⟨dst, .fieldAddr 26 x 0, ty, pos, af, gd⟩ a w K Q := by
 unfold Oper.wp execOp
 simp only [hx]
 go_simp
 exact h
theorem wp_qf1 (hx : a.eval x = .pointer (some ⟨g, 0, none⟩)) (h : K (a.put dst (.pointer (some ⟨g, 2, none⟩))) w) : Oper.wp Tryz.prog ⟨dst, .fieldAddr 26 x 1, ty, pos, af, gd⟩ a w K Q := by
 unfold Oper.wp execOp
 simp only [hx]
 go_simp
 exact h
theorem wp_qN (hx : a.eval x = .pointer (some ⟨g, 0, none⟩)) (hb : Bq w g b A n c B m d) (h : K (a.put dst (.agg #[.bool b, .slice A n c])) w) : Oper.wp Tryz.prog ⟨dst, .load 24 x, ty, pos, af, gd⟩ a w K Q := by
 have c0 := hb.c0
 have c1 := hb.c1
 unfold Oper.wp execOp
 simp only [hx]
 go_simp
 exact h
theorem wp_qD (hx : a.eval x = .pointer (some ⟨g, 2, none⟩)) (hb : Bq w g b A n c B m d) (h : K (a.put dst (.slice B m d)) w) : Oper.wp Tryz.prog ⟨dst, .load 22 x, ty, pos, af, gd⟩ a w K Q := by
 have c2 := hb.c2
 unfold Oper.wp execOp
 simp only [hx]
 go_simp
 exact h
theorem wp_qB (hx : a.eval x = .pointer (some ⟨g, 0, none⟩)) (hb : Bq w g b A n c B m d) (h : K (a.put dst (.bool b)) w) : Oper.wp Tryz.prog ⟨dst, .load 4 x, ty, pos, af, gd⟩ a w K Q := by
 have c0 := hb.c0
 unfold Oper.wp execOp
 simp only [hx]
 go_simp
 exact h
theorem wp_qM (hx : a.eval x = .pointer (some ⟨g, 1, none⟩)) (hb : Bq w g b A n c B m d) (h : K (a.put dst (.slice A n c)) w) : Oper.wp Tryz.prog ⟨dst, .load 22 x, ty, pos, af, gd⟩ a w K Q := by
 have c1 := hb.c1
 unfold Oper.wp execOp
 simp only [hx]
 go_simp
 exact h
theorem wp_qload (hx : a.eval x = .pointer (some ⟨g, 0, none⟩)) (hb : Bq w g b A n c B m d) (h : K (a.put dst (.agg #[.bool b, .slice A n c, .slice B m d])) w) : Oper.wp Tryz.prog ⟨dst, .load 26 x, ty, pos, af, gd⟩ a w K Q := by
 have c0 := hb.c0
 have c1 := hb.c1
 have c2 := hb.c2
 unfold Oper.wp execOp
 simp only [hx]
 go_simp
 exact h
theorem wp_bQ (hx : a.eval x = .agg #[.bool b, .slice A n c]) (hy : a.eval y = .slice B m d) (h : K (a.put dst (.agg #[.bool b, .slice A n c, .slice B m d])) w) : Oper.wp Tryz.prog ⟨dst, .build 26 #[(0, x), (1, y)], ty, pos, af, gd⟩ a w K Q := by
 unfold Oper.wp execOp
 simp only [List.map_toArray, List.map_cons, List.map_nil, hx, hy]
 go_simp
 exact h
theorem wp_build0Q (h : K (a.put dst (.agg #[.bool false, .slice none 0 0, .slice none 0 0])) w) : Oper.wp Tryz.prog ⟨dst, .build 26 #[], ty, pos, af, gd⟩ a w K Q := by
 unfold Oper.wp execOp
 simp only [List.map_toArray, List.map_nil]
 go_simp
 exact h
end
theorem cf_nat_Mul : CallsF 68 := fun args w => by go_simp
theorem cf_nat_Text : CallsF 85 := fun args w => by go_simp
theorem cf_rat_without : CallsF 100 := fun args w => by go_simp
theorem cf_rat_unsigned : CallsF 77 := fun args w => by go_simp
end Go.Proofs.YtbhgbilhoonopaaGreat
namespace Go.Proofs.YtbhgbilhoonopaaGreat
open Go.RowKit
set_option linter.unusedVariables false
set_option maxRecDepth 100000

set_option maxHeartbeats 2000000 in
theorem cLowest {w : World} {v v' : Value} {z : Int} {y k j : Nat} (h : IsM w v z k) (g : IsN w v' y j) (hk : k ≤ 1000) (hj : j ≤ 1000) (hy : y ≠ 0) : Calls Tryz.prog 66 #[v, v'] w (Ans w fun w' v => IsQ w.heap.size w' v (mkRat z y) (max k j)) := by
 obtain ⟨b, A, n, c, rfl, h⟩ := h
 obtain ⟨B, m, d, rfl, g⟩ := g
 obtain ⟨x, hx, rfl⟩ := h.row
 have HN := Lib.hid (low_num b x hy)
 have HD := Lib.hid (low_den b x hy)
 have HG := Lib.hid (show x.gcd y ≠ 0 from fun e => hy (Nat.eq_zero_of_gcd_eq_zero_right e))
 have PA := (Bz.new w b A n c).alloc (.cells #[.bool false, .slice none 0 0, .slice none 0 0] 26)
 have PR := Bq.new2 w (.cells #[.bool b, .slice A n c] 24) false none 0 0 none 0 0
 have BB := bl_trans (bl_alloc w (.cells #[.bool b, .slice A n c] 24)) (bl_alloc _ (.cells #[.bool false, .slice none 0 0, .slice none 0 0] 26))
 have NX := hx.below BB
 have NY := g.below BB
 clear h hx g hy
 have P0 := PA.c1
 go_enter Tryz.func66, Tryz.ntmps66
 go_wp2_with fail
 refine (cGcd (N := 0) ⟨_, _, _, rfl, NX⟩ ⟨_, _, _, rfl, NY⟩ (by omega) (by omega) (Nat.zero_le _)).mono ?_
 rintro e w1 ⟨_, rfl, hb1, G, gn, gc, rfl, og, lg⟩
 have NG : Nm w1 G gn gc (x.gcd y) (max k j) := ⟨⟨_, og.rd, M.val_lims _⟩, lg⟩
 have hs1 := hb1.size
 simp only [hs_alloc] at hs1
 replace NX := NX.below hb1
 replace NY := NY.below hb1
 replace PA := PA.below hb1
 replace PR := PR.below hb1
 replace BB := bl_trans BB hb1
 clear P0 hb1 og lg
 go_wp2_with fail
 refine wp_cut (by kernel_rfl) 11 ?_
 simp only [List.take_succ_cons, List.take_zero, List.drop_succ_cons, List.drop_zero]
 refine wp_cut_list (Ext := RB) (Rel := RBu) [fun v _ _ => v = .pointer (some ⟨w.heap.size, 0, none⟩), fun v _ _ => v = .bool b, fun v _ _ => v = .pointer (some ⟨w.heap.size, 1, none⟩), fun v _ _ => v = .slice A n c, fun v _ _ => v = .slice G gn gc, fun v _ w => IsD (w1).heap.size w v (x / (x.gcd y)) k, fun v _ w => IsZ (w1).heap.size w v (zv b (x / (x.gcd y))) k, fun v _ _ => v = .slice B m d, fun v _ _ => v = .slice G gn gc, fun v _ w => IsD (w1).heap.size w v (y / (x.gcd y)) j, fun v _ w => IsQ (w1).heap.size w v (mkRat (zv b x) y) (max k j)] (n := 11) (by kernel_rfl) (by kernel_rfl) (by kernel_rfl) (by kernel_rfl) (by kernel_rfl) (by kernel_rfl) (by kernel_rfl) (by kernel_rfl) (by kernel_rfl) rb_refl rb_trans ⟨sC, ⟨sC, ⟨sC, ⟨sC, ⟨sC, ⟨sD, ⟨sZ, ⟨sC, ⟨sC, ⟨sD, ⟨sQ, trivial⟩⟩⟩⟩⟩⟩⟩⟩⟩⟩⟩ ?_ ?_
 ·refine ⟨⟨⟨⟨⟨⟨⟨⟨⟨⟨⟨trivial, ?_⟩, ?_⟩, ?_⟩, ?_⟩, ?_⟩, ?_⟩, ?_⟩, ?_⟩, ?_⟩, ?_⟩, ?_⟩
  ·refine rs_plain rfl rfl fun a wr S => ?_
   have X := undrew S.ext
   exact wp_field0 (ev_of ((S.old 2 (by kernel_rfl)).trans rfl)) (done (by kernel_rfl) rbu_refl rfl)
  ·refine rs_plain rfl rfl fun a wr S => ?_
   have X := undrew S.ext
   obtain ⟨v0, e0, h0⟩ := S.got 0 (by kernel_rfl)
   exact wp_loadB ((ev_of (e0 10 (by kernel_rfl))).trans h0) (PA.below X) (done (by kernel_rfl) rbu_refl rfl)
  ·refine rs_plain rfl rfl fun a wr S => ?_
   have X := undrew S.ext
   exact wp_field1 (ev_of ((S.old 2 (by kernel_rfl)).trans rfl)) (done (by kernel_rfl) rbu_refl rfl)
  ·refine rs_plain rfl rfl fun a wr S => ?_
   have X := undrew S.ext
   obtain ⟨v2, e2, h2⟩ := S.got 2 (by kernel_rfl)
   exact wp_loadM ((ev_of (e2 12 (by kernel_rfl))).trans h2) (PA.below X) (done (by kernel_rfl) rbu_refl rfl)
  ·refine rs_plain rfl rfl fun a wr S => ?_
   have X := undrew S.ext
   exact wp_mv (ev_of ((S.old 5 (by kernel_rfl)).trans rfl)) (done (by kernel_rfl) rbu_refl rfl)
  ·refine rs_plain rfl rfl fun a wr S => ?_
   have X := undrew S.ext
   obtain ⟨v3, e3, h3⟩ := S.got 3 (by kernel_rfl)
   obtain ⟨v4, e4, h4⟩ := S.got 4 (by kernel_rfl)
   exact st_call cf_rat_without (args2 ((ev_of (e3 13 (by kernel_rfl))).trans h3) ((ev_of (e4 14 (by kernel_rfl))).trans h4)) (by kernel_rfl) rb (cWithout ⟨_, _, _, rfl, NX.below X⟩ ⟨_, _, _, rfl, NG.below X⟩ (by omega) (by omega) HG.out X.size) (fun _ _ _ h => h)
  ·refine rs_plain rfl rfl fun a wr S => ?_
   have X := undrew S.ext
   obtain ⟨v1, e1, h1⟩ := S.got 1 (by kernel_rfl)
   obtain ⟨v5, e5, h5⟩ := S.got 5 (by kernel_rfl)
   exact st_call cf_big_Of (args2 ((ev_of (e1 11 (by kernel_rfl))).trans h1) (ev_of (e5 15 (by kernel_rfl)))) (by kernel_rfl) rb (cOfN b (show IsD _ _ _ _ _ from h5).n (by omega) X.size) (fun _ _ _ h => h)
  ·refine rs_plain rfl rfl fun a wr S => ?_
   have X := undrew S.ext
   exact wp_mv (ev_of ((S.old 1 (by kernel_rfl)).trans rfl)) (done (by kernel_rfl) rbu_refl rfl)
  ·refine rs_plain rfl rfl fun a wr S => ?_
   have X := undrew S.ext
   exact wp_mv (ev_of ((S.old 5 (by kernel_rfl)).trans rfl)) (done (by kernel_rfl) rbu_refl rfl)
  ·refine rs_plain rfl rfl fun a wr S => ?_
   have X := undrew S.ext
   obtain ⟨v7, e7, h7⟩ := S.got 7 (by kernel_rfl)
   obtain ⟨v8, e8, h8⟩ := S.got 8 (by kernel_rfl)
   exact st_call cf_rat_without (args2 ((ev_of (e7 17 (by kernel_rfl))).trans h7) ((ev_of (e8 18 (by kernel_rfl))).trans h8)) (by kernel_rfl) rb (cWithout ⟨_, _, _, rfl, NY.below X⟩ ⟨_, _, _, rfl, NG.below X⟩ (by omega) (by omega) HG.out X.size) (fun _ _ _ h => h)
  ·refine rs_plain rfl rfl fun a wr S => ?_
   have X := undrew S.ext
   obtain ⟨v6, e6, h6⟩ := S.got 6 (by kernel_rfl)
   obtain ⟨v9, e9, h9⟩ := S.got 9 (by kernel_rfl)
   obtain ⟨bb, AA, nn, cc, hvv, ZZ⟩ := (show IsZ _ wr _ (zv b (x / (x.gcd y))) k from h6)
   obtain ⟨BB, mm, dd, hvd, OO, ll⟩ := (show IsD _ wr _ (y / (x.gcd y)) j from h9)
   exact wp_bQ ((ev_of (e6 16 (by kernel_rfl))).trans hvv) ((ev_of (e9 19 (by kernel_rfl))).trans hvd) (done (by kernel_rfl) rbu_refl (isQ_mk (by rw [← HN.out]; exact ZZ.monoK (by omega)) (by rw [← HD.out]; exact OO) (by omega)))
 ·intro fa w2 hR hv hap
  clear hap
  replace hR := undrew hR
  have f0 : fa 0 = .pointer (some ⟨w.heap.size, 0, none⟩) := (hvc (hv 0 (by omega))).elim fun _ h => h
  have f1 : fa 1 = .bool b := (hvc (hv 1 (by omega))).elim fun _ h => h
  have f2 : fa 2 = .pointer (some ⟨w.heap.size, 1, none⟩) := (hvc (hv 2 (by omega))).elim fun _ h => h
  have f3 : fa 3 = .slice A n c := (hvc (hv 3 (by omega))).elim fun _ h => h
  have f4 : fa 4 = .slice G gn gc := (hvc (hv 4 (by omega))).elim fun _ h => h
  have f7 : fa 7 = .slice B m d := (hvc (hv 7 (by omega))).elim fun _ h => h
  have f8 : fa 8 = .slice G gn gc := (hvc (hv 8 (by omega))).elim fun _ h => h
  obtain ⟨bq, Aq, nq, cq, Bq, mq, dq, f10, Zq, Oq, lq⟩ := (show IsQ _ w2 _ (mkRat (zv b x) y) (max k j) from (hvc (hv 10 (by omega))).elim fun _ h => h)
  simp only [putFn, Act.put, List.setIfInBounds_toArray, List.set_cons_zero, List.set_cons_succ, f0, f1, f2, f3, f4, f7, f8, f10]
  have IQ : IsQ w1.heap.size w2 (.agg #[.bool bq, .slice Aq nq cq, .slice Bq mq dq]) (mkRat (zv b x) y) (max k j) := ⟨_, _, _, _, _, _, _, rfl, Zq, Oq, lq⟩
  replace PR := PR.below hR
  replace BB := bl_trans BB hR
  have r0 := PR.c0
  have r1 := PR.c1
  have r2 := PR.c2
  have f0 := PR.f 0
  have f1 := PR.f 1
  have f2 := PR.f 2
  clear hR hv Zq Oq lq NX NY NG PA
  go_wp2_with fail
  exact bodyPost_ret (v := .agg #[.bool bq, .slice Aq nq cq, .slice Bq mq dq]) (by simp [results, Tryz.results66, go_sem, *]) rfl (fin_q IQ BB (by omega) (by omega) _ _ _)

end Go.Proofs.YtbhgbilhoonopaaGreat
namespace Go.Proofs.YtbhgbilhoonopaaGreat
open Go.RowKit
set_option linter.unusedVariables false
set_option maxRecDepth 100000

theorem fin_zz {w w2 : World} {v : Value} {z : Int} {k N g : Nat} (h : IsZ N w2 v z k) (hb : Below w.heap.size w w2) (hg : w.heap.size ≤ g) (hgb : g < N) (x y : Value) :
  Ans w (fun w' v => IsZ w.heap.size w' v z k) (.returned v) ((w2.setCell ⟨g, 0, none⟩ x).setCell ⟨g, 1, none⟩ y) := by
 obtain ⟨b, A, n, c, rfl, Z⟩ := h
 exact ⟨_, rfl, (hb.setCell (p := ⟨g, 0, none⟩) hg x).setCell (p := ⟨g, 1, none⟩) hg y, b, A, n, c, rfl, ((Z.stored hgb 0 x).stored hgb 1 y).mono (by omega)⟩

set_option maxHeartbeats 2000000 in
theorem madeR_rat_Neg__1 {w : World} {v : Value} {q : Rat} {k : Nat} {q' : Rat} {k' : Nat} (h : IsQm w v q k) (hk : k ≤ 900) (hk1 : 1 ≤ k) (hf : ∀ W u, Below w.heap.size w W → w.heap.size + 2 ≤ W.heap.size → IsQ (w.heap.size + 2) W u q k → Calls Tryz.prog 58 #[u] W (Ans W fun w' v => IsQ (w.heap.size + 2) w' v q' k')) : Calls Tryz.prog 57 #[v, .func (Fn.func 58) #[] #[]] w (Ans w fun w' v => IsQ w.heap.size w' v q' k') := by
 obtain ⟨b, A, n, c, B, m, d, rfl, z, y, hz, hy, rfl⟩ := h
 have PA := (Bq.new w b A n c B m d).alloc (.cells #[.bool false, .slice none 0 0, .slice none 0 0] 26)
 have PR := Bq.new2 w (.cells #[.bool b, .slice A n c, .slice B m d] 26) false none 0 0 none 0 0
 have BB := bl_trans (bl_alloc w (.cells #[.bool b, .slice A n c, .slice B m d] 26)) (bl_alloc _ (.cells #[.bool false, .slice none 0 0, .slice none 0 0] 26))
 have HF := Lib.hid hf
 have ZA := hz.below BB
 have NY := hy.below BB
 have HZ := Lib.hid hz
 clear hf hz hy
 have p2 := PA.c2
 go_enter Tryz.func57, Tryz.ntmps57
 go_wp2_with fail
 refine (cmpN NY (nilN _) (by omega) (Nat.zero_le _)).mono ?_
 rintro e w1 ⟨rfl, hb1⟩
 have hs1 := hb1.size
 simp only [hs_alloc] at hs1
 replace PA := PA.below hb1
 replace ZA := ZA.below hb1
 replace NY := NY.below hb1
 replace PR := PR.below hb1
 replace BB := bl_trans BB hb1
 clear hb1 p2
 by_cases hy0 : y = 0
 ·subst hy0
  rw [cmpV_eq]
  have p1 := PA.c2
  have g2 := PA.f 2
  go_wp2_with fail
  refine (cFromD (N := w.heap.size + 2) 1 (by omega) (by omega)).mono ?_
  rintro e w2 ⟨_, rfl, hb2, D1, n1, c1, rfl, o1, l1⟩
  have hs2 := hb2.size
  replace PA := PA.below hb2
  replace PR := PR.below hb2
  replace ZA := ZA.below hb2
  replace BB := bl_trans BB hb2
  clear hb2 p1 g2 NY
  have p0 := PA.c0
  have p1 := PA.c1
  have p2 := PA.c2
  have g2 := PA.f 2
  go_wp2_with fail
  clear p0 p1 p2 g2
  replace PA := PA.setD D1 n1 c1
  replace PR := PR.other (g' := w.heap.size) (i := 2) (v := .slice D1 n1 c1) (by omega)
  replace BB := BB.setCell (p := ⟨w.heap.size, 2, none⟩) (Nat.le_refl _) (.slice D1 n1 c1)
  replace ZA := HZ.out.below BB
  have ND : Nm (w2.setCell ⟨w.heap.size, 2, none⟩ (.slice D1 n1 c1)) D1 n1 c1 1 1 := ⟨⟨_, (OwK.rd (o1.grown (grownBy_setCell w2 ⟨w.heap.size, 2, none⟩ (.slice D1 n1 c1)) (fun p hp e => by injection e with e; have := (OwK.lt o1 hp).1; dsimp only at e; omega))), M.val_lims 1⟩, l1⟩
  have hs4 : w.heap.size + 2 ≤ (w2.setCell ⟨w.heap.size, 2, none⟩ (.slice D1 n1 c1)).heap.size := by simp [World.setCell]; omega
  generalize w2.setCell ⟨w.heap.size, 2, none⟩ (.slice D1 n1 c1) = W2 at PA PR BB ZA ND hs4 ⊢
  clear o1 l1
  refine (cLowest ⟨_, _, _, _, rfl, ZA⟩ ⟨_, _, _, rfl, ND⟩ (by omega) (by omega) (by omega)).mono ?_
  rintro e w3 ⟨u, rfl, hb3, q3⟩
  have hs3 := hb3.size
  have q3' := (q3.mono (show max k 1 ≤ k by omega)).base (N' := w.heap.size + 2) (by omega)
  replace PR := PR.below hb3
  replace BB := bl_trans BB hb3
  clear hb3 q3  PA ZA ND
  go_wp2_with fail
  refine (HF.out _ _ BB (by omega) (by rw [dOf_zero]; exact q3')).mono ?_
  rintro e w4 ⟨r, rfl, hb4, q4⟩
  obtain ⟨b4, A4, n4, c4, B4, m4, d4, rfl, q4'⟩ := id q4
  replace PR := PR.below hb4
  have r0 := PR.c0
  have f0 := PR.f 0
  have r1 := PR.c1
  have f1 := PR.f 1
  have r2 := PR.c2
  have f2 := PR.f 2
  replace BB := bl_trans BB hb4
  clear hb4 q3' HF
  clear q4'
  go_wp2_with fail
  exact bodyPost_ret (v := .agg #[.bool b4, .slice A4 n4 c4, .slice B4 m4 d4]) (by simp [results, Tryz.results57, go_sem, *]) rfl (fin_q q4 BB (by omega) (by omega) _ _ _)
 ·have HY := Lib.hid hy0
  have hc : (cmpV y 0 == 0) = false := by rw [cmpV_gt (by omega)]; rfl
  rw [cmpV_gt (show 0 < y by omega)]
  clear hc hy0
  have p0 := PA.c0
  have p1 := PA.c1
  have p2 := PA.c2
  go_wp2_with fail
  refine (cLowest ⟨_, _, _, _, rfl, ZA⟩ ⟨_, _, _, rfl, NY⟩ (by omega) (by omega) HY.out).mono ?_
  rintro e w3 ⟨u, rfl, hb3, q3⟩
  have hs3 := hb3.size
  have q3' := (q3.mono (show max k k ≤ k by omega)).base (N' := w.heap.size + 2) (by omega)
  replace PR := PR.below hb3
  replace BB := bl_trans BB hb3
  clear hb3 q3 p0 p1 p2 PA ZA NY
  go_wp2_with fail
  refine (HF.out _ _ BB (by omega) (by rw [dOf_of HY.out]; exact q3')).mono ?_
  rintro e w4 ⟨r, rfl, hb4, q4⟩
  obtain ⟨b4, A4, n4, c4, B4, m4, d4, rfl, q4'⟩ := id q4
  replace PR := PR.below hb4
  have r0 := PR.c0
  have f0 := PR.f 0
  have r1 := PR.c1
  have f1 := PR.f 1
  have r2 := PR.c2
  have f2 := PR.f 2
  replace BB := bl_trans BB hb4
  clear hb4 q3' HF
  clear q4'
  go_wp2_with fail
  exact bodyPost_ret (v := .agg #[.bool b4, .slice A4 n4 c4, .slice B4 m4 d4]) (by simp [results, Tryz.results57, go_sem, *]) rfl (fin_q q4 BB (by omega) (by omega) _ _ _)

set_option maxHeartbeats 2000000 in
theorem madeR_ofTwoR1 {w : World} {v : Value} {q : Rat} {k : Nat} {cap0 cap1 : Value} {q' : Rat} {k' : Nat} (h : IsQm w v q k) (hk : k ≤ 900) (hk1 : 1 ≤ k) (hf : ∀ W u, Below w.heap.size w W → w.heap.size + 2 ≤ W.heap.size → IsQ (w.heap.size + 2) W u q k → Calls Tryz.prog 97 #[u, cap0, cap1] W (Ans W fun w' v => IsQ (w.heap.size + 2) w' v q' k')) : Calls Tryz.prog 57 #[v, .func (Fn.func 97) #[] #[cap0, cap1]] w (Ans w fun w' v => IsQ w.heap.size w' v q' k') := by
 obtain ⟨b, A, n, c, B, m, d, rfl, z, y, hz, hy, rfl⟩ := h
 have PA := (Bq.new w b A n c B m d).alloc (.cells #[.bool false, .slice none 0 0, .slice none 0 0] 26)
 have PR := Bq.new2 w (.cells #[.bool b, .slice A n c, .slice B m d] 26) false none 0 0 none 0 0
 have BB := bl_trans (bl_alloc w (.cells #[.bool b, .slice A n c, .slice B m d] 26)) (bl_alloc _ (.cells #[.bool false, .slice none 0 0, .slice none 0 0] 26))
 have HF := Lib.hid hf
 have ZA := hz.below BB
 have NY := hy.below BB
 have HZ := Lib.hid hz
 clear hf hz hy
 have p2 := PA.c2
 go_enter Tryz.func57, Tryz.ntmps57
 go_wp2_with fail
 refine (cmpN NY (nilN _) (by omega) (Nat.zero_le _)).mono ?_
 rintro e w1 ⟨rfl, hb1⟩
 have hs1 := hb1.size
 simp only [hs_alloc] at hs1
 replace PA := PA.below hb1
 replace ZA := ZA.below hb1
 replace NY := NY.below hb1
 replace PR := PR.below hb1
 replace BB := bl_trans BB hb1
 clear hb1 p2
 by_cases hy0 : y = 0
 ·subst hy0
  rw [cmpV_eq]
  have p1 := PA.c2
  have g2 := PA.f 2
  go_wp2_with fail
  refine (cFromD (N := w.heap.size + 2) 1 (by omega) (by omega)).mono ?_
  rintro e w2 ⟨_, rfl, hb2, D1, n1, c1, rfl, o1, l1⟩
  have hs2 := hb2.size
  replace PA := PA.below hb2
  replace PR := PR.below hb2
  replace ZA := ZA.below hb2
  replace BB := bl_trans BB hb2
  clear hb2 p1 g2 NY
  have p0 := PA.c0
  have p1 := PA.c1
  have p2 := PA.c2
  have g2 := PA.f 2
  go_wp2_with fail
  clear p0 p1 p2 g2
  replace PA := PA.setD D1 n1 c1
  replace PR := PR.other (g' := w.heap.size) (i := 2) (v := .slice D1 n1 c1) (by omega)
  replace BB := BB.setCell (p := ⟨w.heap.size, 2, none⟩) (Nat.le_refl _) (.slice D1 n1 c1)
  replace ZA := HZ.out.below BB
  have ND : Nm (w2.setCell ⟨w.heap.size, 2, none⟩ (.slice D1 n1 c1)) D1 n1 c1 1 1 := ⟨⟨_, (OwK.rd (o1.grown (grownBy_setCell w2 ⟨w.heap.size, 2, none⟩ (.slice D1 n1 c1)) (fun p hp e => by injection e with e; have := (OwK.lt o1 hp).1; dsimp only at e; omega))), M.val_lims 1⟩, l1⟩
  have hs4 : w.heap.size + 2 ≤ (w2.setCell ⟨w.heap.size, 2, none⟩ (.slice D1 n1 c1)).heap.size := by simp [World.setCell]; omega
  generalize w2.setCell ⟨w.heap.size, 2, none⟩ (.slice D1 n1 c1) = W2 at PA PR BB ZA ND hs4 ⊢
  clear o1 l1
  refine (cLowest ⟨_, _, _, _, rfl, ZA⟩ ⟨_, _, _, rfl, ND⟩ (by omega) (by omega) (by omega)).mono ?_
  rintro e w3 ⟨u, rfl, hb3, q3⟩
  have hs3 := hb3.size
  have q3' := (q3.mono (show max k 1 ≤ k by omega)).base (N' := w.heap.size + 2) (by omega)
  replace PR := PR.below hb3
  replace BB := bl_trans BB hb3
  clear hb3 q3  PA ZA ND
  go_wp2_with fail
  refine (HF.out _ _ BB (by omega) (by rw [dOf_zero]; exact q3')).mono ?_
  rintro e w4 ⟨r, rfl, hb4, q4⟩
  obtain ⟨b4, A4, n4, c4, B4, m4, d4, rfl, q4'⟩ := id q4
  replace PR := PR.below hb4
  have r0 := PR.c0
  have f0 := PR.f 0
  have r1 := PR.c1
  have f1 := PR.f 1
  have r2 := PR.c2
  have f2 := PR.f 2
  replace BB := bl_trans BB hb4
  clear hb4 q3' HF
  clear q4'
  go_wp2_with fail
  exact bodyPost_ret (v := .agg #[.bool b4, .slice A4 n4 c4, .slice B4 m4 d4]) (by simp [results, Tryz.results57, go_sem, *]) rfl (fin_q q4 BB (by omega) (by omega) _ _ _)
 ·have HY := Lib.hid hy0
  have hc : (cmpV y 0 == 0) = false := by rw [cmpV_gt (by omega)]; rfl
  rw [cmpV_gt (show 0 < y by omega)]
  clear hc hy0
  have p0 := PA.c0
  have p1 := PA.c1
  have p2 := PA.c2
  go_wp2_with fail
  refine (cLowest ⟨_, _, _, _, rfl, ZA⟩ ⟨_, _, _, rfl, NY⟩ (by omega) (by omega) HY.out).mono ?_
  rintro e w3 ⟨u, rfl, hb3, q3⟩
  have hs3 := hb3.size
  have q3' := (q3.mono (show max k k ≤ k by omega)).base (N' := w.heap.size + 2) (by omega)
  replace PR := PR.below hb3
  replace BB := bl_trans BB hb3
  clear hb3 q3 p0 p1 p2 PA ZA NY
  go_wp2_with fail
  refine (HF.out _ _ BB (by omega) (by rw [dOf_of HY.out]; exact q3')).mono ?_
  rintro e w4 ⟨r, rfl, hb4, q4⟩
  obtain ⟨b4, A4, n4, c4, B4, m4, d4, rfl, q4'⟩ := id q4
  replace PR := PR.below hb4
  have r0 := PR.c0
  have f0 := PR.f 0
  have r1 := PR.c1
  have f1 := PR.f 1
  have r2 := PR.c2
  have f2 := PR.f 2
  replace BB := bl_trans BB hb4
  clear hb4 q3' HF
  clear q4'
  go_wp2_with fail
  exact bodyPost_ret (v := .agg #[.bool b4, .slice A4 n4 c4, .slice B4 m4 d4]) (by simp [results, Tryz.results57, go_sem, *]) rfl (fin_q q4 BB (by omega) (by omega) _ _ _)

set_option maxHeartbeats 2000000 in
theorem madeR_ofTwoR2 {w : World} {v : Value} {q : Rat} {k : Nat} {cap0 cap1 : Value} {q' : Rat} {k' : Nat} (h : IsQm w v q k) (hk : k ≤ 900) (hk1 : 1 ≤ k) (hf : ∀ W u, Below w.heap.size w W → w.heap.size + 2 ≤ W.heap.size → IsQ (w.heap.size + 2) W u q k → Calls Tryz.prog 98 #[u, cap0, cap1] W (Ans W fun w' v => IsQ (w.heap.size + 2) w' v q' k')) : Calls Tryz.prog 57 #[v, .func (Fn.func 98) #[] #[cap0, cap1]] w (Ans w fun w' v => IsQ w.heap.size w' v q' k') := by
 obtain ⟨b, A, n, c, B, m, d, rfl, z, y, hz, hy, rfl⟩ := h
 have PA := (Bq.new w b A n c B m d).alloc (.cells #[.bool false, .slice none 0 0, .slice none 0 0] 26)
 have PR := Bq.new2 w (.cells #[.bool b, .slice A n c, .slice B m d] 26) false none 0 0 none 0 0
 have BB := bl_trans (bl_alloc w (.cells #[.bool b, .slice A n c, .slice B m d] 26)) (bl_alloc _ (.cells #[.bool false, .slice none 0 0, .slice none 0 0] 26))
 have HF := Lib.hid hf
 have ZA := hz.below BB
 have NY := hy.below BB
 have HZ := Lib.hid hz
 clear hf hz hy
 have p2 := PA.c2
 go_enter Tryz.func57, Tryz.ntmps57
 go_wp2_with fail
 refine (cmpN NY (nilN _) (by omega) (Nat.zero_le _)).mono ?_
 rintro e w1 ⟨rfl, hb1⟩
 have hs1 := hb1.size
 simp only [hs_alloc] at hs1
 replace PA := PA.below hb1
 replace ZA := ZA.below hb1
 replace NY := NY.below hb1
 replace PR := PR.below hb1
 replace BB := bl_trans BB hb1
 clear hb1 p2
 by_cases hy0 : y = 0
 ·subst hy0
  rw [cmpV_eq]
  have p1 := PA.c2
  have g2 := PA.f 2
  go_wp2_with fail
  refine (cFromD (N := w.heap.size + 2) 1 (by omega) (by omega)).mono ?_
  rintro e w2 ⟨_, rfl, hb2, D1, n1, c1, rfl, o1, l1⟩
  have hs2 := hb2.size
  replace PA := PA.below hb2
  replace PR := PR.below hb2
  replace ZA := ZA.below hb2
  replace BB := bl_trans BB hb2
  clear hb2 p1 g2 NY
  have p0 := PA.c0
  have p1 := PA.c1
  have p2 := PA.c2
  have g2 := PA.f 2
  go_wp2_with fail
  clear p0 p1 p2 g2
  replace PA := PA.setD D1 n1 c1
  replace PR := PR.other (g' := w.heap.size) (i := 2) (v := .slice D1 n1 c1) (by omega)
  replace BB := BB.setCell (p := ⟨w.heap.size, 2, none⟩) (Nat.le_refl _) (.slice D1 n1 c1)
  replace ZA := HZ.out.below BB
  have ND : Nm (w2.setCell ⟨w.heap.size, 2, none⟩ (.slice D1 n1 c1)) D1 n1 c1 1 1 := ⟨⟨_, (OwK.rd (o1.grown (grownBy_setCell w2 ⟨w.heap.size, 2, none⟩ (.slice D1 n1 c1)) (fun p hp e => by injection e with e; have := (OwK.lt o1 hp).1; dsimp only at e; omega))), M.val_lims 1⟩, l1⟩
  have hs4 : w.heap.size + 2 ≤ (w2.setCell ⟨w.heap.size, 2, none⟩ (.slice D1 n1 c1)).heap.size := by simp [World.setCell]; omega
  generalize w2.setCell ⟨w.heap.size, 2, none⟩ (.slice D1 n1 c1) = W2 at PA PR BB ZA ND hs4 ⊢
  clear o1 l1
  refine (cLowest ⟨_, _, _, _, rfl, ZA⟩ ⟨_, _, _, rfl, ND⟩ (by omega) (by omega) (by omega)).mono ?_
  rintro e w3 ⟨u, rfl, hb3, q3⟩
  have hs3 := hb3.size
  have q3' := (q3.mono (show max k 1 ≤ k by omega)).base (N' := w.heap.size + 2) (by omega)
  replace PR := PR.below hb3
  replace BB := bl_trans BB hb3
  clear hb3 q3  PA ZA ND
  go_wp2_with fail
  refine (HF.out _ _ BB (by omega) (by rw [dOf_zero]; exact q3')).mono ?_
  rintro e w4 ⟨r, rfl, hb4, q4⟩
  obtain ⟨b4, A4, n4, c4, B4, m4, d4, rfl, q4'⟩ := id q4
  replace PR := PR.below hb4
  have r0 := PR.c0
  have f0 := PR.f 0
  have r1 := PR.c1
  have f1 := PR.f 1
  have r2 := PR.c2
  have f2 := PR.f 2
  replace BB := bl_trans BB hb4
  clear hb4 q3' HF
  clear q4'
  go_wp2_with fail
  exact bodyPost_ret (v := .agg #[.bool b4, .slice A4 n4 c4, .slice B4 m4 d4]) (by simp [results, Tryz.results57, go_sem, *]) rfl (fin_q q4 BB (by omega) (by omega) _ _ _)
 ·have HY := Lib.hid hy0
  have hc : (cmpV y 0 == 0) = false := by rw [cmpV_gt (by omega)]; rfl
  rw [cmpV_gt (show 0 < y by omega)]
  clear hc hy0
  have p0 := PA.c0
  have p1 := PA.c1
  have p2 := PA.c2
  go_wp2_with fail
  refine (cLowest ⟨_, _, _, _, rfl, ZA⟩ ⟨_, _, _, rfl, NY⟩ (by omega) (by omega) HY.out).mono ?_
  rintro e w3 ⟨u, rfl, hb3, q3⟩
  have hs3 := hb3.size
  have q3' := (q3.mono (show max k k ≤ k by omega)).base (N' := w.heap.size + 2) (by omega)
  replace PR := PR.below hb3
  replace BB := bl_trans BB hb3
  clear hb3 q3 p0 p1 p2 PA ZA NY
  go_wp2_with fail
  refine (HF.out _ _ BB (by omega) (by rw [dOf_of HY.out]; exact q3')).mono ?_
  rintro e w4 ⟨r, rfl, hb4, q4⟩
  obtain ⟨b4, A4, n4, c4, B4, m4, d4, rfl, q4'⟩ := id q4
  replace PR := PR.below hb4
  have r0 := PR.c0
  have f0 := PR.f 0
  have r1 := PR.c1
  have f1 := PR.f 1
  have r2 := PR.c2
  have f2 := PR.f 2
  replace BB := bl_trans BB hb4
  clear hb4 q3' HF
  clear q4'
  go_wp2_with fail
  exact bodyPost_ret (v := .agg #[.bool b4, .slice A4 n4 c4, .slice B4 m4 d4]) (by simp [results, Tryz.results57, go_sem, *]) rfl (fin_q q4 BB (by omega) (by omega) _ _ _)

set_option maxHeartbeats 2000000 in
theorem madeI_ofTwoI1 {w : World} {v : Value} {q : Rat} {k : Nat} {cap0 cap1 : Value} {Post : Value → Prop} (h : IsQm w v q k) (hk : k ≤ 900) (hk1 : 1 ≤ k) (hf : ∀ W u, Below w.heap.size w W → w.heap.size + 1 ≤ W.heap.size → IsQ (w.heap.size + 1) W u q k → Calls Tryz.prog 113 #[u, cap0, cap1] W (Ans W fun _ v => Post v)) : Calls Tryz.prog 112 #[v, .func (Fn.func 113) #[] #[cap0, cap1]] w (Ans w fun _ v => Post v) := by
 obtain ⟨b, A, n, c, B, m, d, rfl, z, y, hz, hy, rfl⟩ := h
 have PA := Bq.new w b A n c B m d
 have BB := bl_alloc w (.cells #[.bool b, .slice A n c, .slice B m d] 26)
 have HF := Lib.hid hf
 have ZA := hz.below BB
 have NY := hy.below BB
 have HZ := Lib.hid hz
 clear hf hz hy
 have p2 := PA.c2
 go_enter Tryz.func112, Tryz.ntmps112
 go_wp2_with fail
 refine (cmpN NY (nilN _) (by omega) (Nat.zero_le _)).mono ?_
 rintro e w1 ⟨rfl, hb1⟩
 have hs1 := hb1.size
 simp only [hs_alloc] at hs1
 replace PA := PA.below hb1
 replace ZA := ZA.below hb1
 replace NY := NY.below hb1
 replace BB := bl_trans BB hb1
 clear hb1 p2
 by_cases hy0 : y = 0
 ·subst hy0
  rw [cmpV_eq]
  have p1 := PA.c2
  have g2 := PA.f 2
  go_wp2_with fail
  refine (cFromD (N := w.heap.size + 1) 1 (by omega) (by omega)).mono ?_
  rintro e w2 ⟨_, rfl, hb2, D1, n1, c1, rfl, o1, l1⟩
  have hs2 := hb2.size
  replace PA := PA.below hb2
  replace ZA := ZA.below hb2
  replace BB := bl_trans BB hb2
  clear hb2 p1 g2 NY
  have p0 := PA.c0
  have p1 := PA.c1
  have p2 := PA.c2
  have g2 := PA.f 2
  go_wp2_with fail
  clear p0 p1 p2 g2
  replace PA := PA.setD D1 n1 c1
  replace BB := BB.setCell (p := ⟨w.heap.size, 2, none⟩) (Nat.le_refl _) (.slice D1 n1 c1)
  replace ZA := HZ.out.below BB
  have ND : Nm (w2.setCell ⟨w.heap.size, 2, none⟩ (.slice D1 n1 c1)) D1 n1 c1 1 1 := ⟨⟨_, (OwK.rd (o1.grown (grownBy_setCell w2 ⟨w.heap.size, 2, none⟩ (.slice D1 n1 c1)) (fun p hp e => by injection e with e; have := (OwK.lt o1 hp).1; dsimp only at e; omega))), M.val_lims 1⟩, l1⟩
  have hs4 : w.heap.size + 1 ≤ (w2.setCell ⟨w.heap.size, 2, none⟩ (.slice D1 n1 c1)).heap.size := by simp [World.setCell]; omega
  generalize w2.setCell ⟨w.heap.size, 2, none⟩ (.slice D1 n1 c1) = W2 at PA  BB ZA ND hs4 ⊢
  clear o1 l1
  refine (cLowest ⟨_, _, _, _, rfl, ZA⟩ ⟨_, _, _, rfl, ND⟩ (by omega) (by omega) (by omega)).mono ?_
  rintro e w3 ⟨u, rfl, hb3, q3⟩
  have hs3 := hb3.size
  have q3' := (q3.mono (show max k 1 ≤ k by omega)).base (N' := w.heap.size + 1) (by omega)
  replace BB := bl_trans BB hb3
  clear hb3 q3  PA ZA ND
  go_wp2_with fail
  refine (HF.out _ _ BB (by omega) (by rw [dOf_zero]; exact q3')).mono ?_
  rintro e w4 ⟨r, rfl, hb4, q4⟩
  replace BB := bl_trans BB hb4
  clear hb4 q3' HF
  go_wp2_with fail
  go_ret
  exact ⟨r, rfl, BB, q4⟩
 ·have HY := Lib.hid hy0
  have hc : (cmpV y 0 == 0) = false := by rw [cmpV_gt (by omega)]; rfl
  rw [cmpV_gt (show 0 < y by omega)]
  clear hc hy0
  have p0 := PA.c0
  have p1 := PA.c1
  have p2 := PA.c2
  go_wp2_with fail
  refine (cLowest ⟨_, _, _, _, rfl, ZA⟩ ⟨_, _, _, rfl, NY⟩ (by omega) (by omega) HY.out).mono ?_
  rintro e w3 ⟨u, rfl, hb3, q3⟩
  have hs3 := hb3.size
  have q3' := (q3.mono (show max k k ≤ k by omega)).base (N' := w.heap.size + 1) (by omega)
  replace BB := bl_trans BB hb3
  clear hb3 q3 p0 p1 p2 PA ZA NY
  go_wp2_with fail
  refine (HF.out _ _ BB (by omega) (by rw [dOf_of HY.out]; exact q3')).mono ?_
  rintro e w4 ⟨r, rfl, hb4, q4⟩
  replace BB := bl_trans BB hb4
  clear hb4 q3' HF
  go_wp2_with fail
  go_ret
  exact ⟨r, rfl, BB, q4⟩

set_option maxHeartbeats 2000000 in
theorem madeI_ofTwoI2 {w : World} {v : Value} {q : Rat} {k : Nat} {cap0 cap1 : Value} {Post : Value → Prop} (h : IsQm w v q k) (hk : k ≤ 900) (hk1 : 1 ≤ k) (hf : ∀ W u, Below w.heap.size w W → w.heap.size + 1 ≤ W.heap.size → IsQ (w.heap.size + 1) W u q k → Calls Tryz.prog 114 #[u, cap0, cap1] W (Ans W fun _ v => Post v)) : Calls Tryz.prog 112 #[v, .func (Fn.func 114) #[] #[cap0, cap1]] w (Ans w fun _ v => Post v) := by
 obtain ⟨b, A, n, c, B, m, d, rfl, z, y, hz, hy, rfl⟩ := h
 have PA := Bq.new w b A n c B m d
 have BB := bl_alloc w (.cells #[.bool b, .slice A n c, .slice B m d] 26)
 have HF := Lib.hid hf
 have ZA := hz.below BB
 have NY := hy.below BB
 have HZ := Lib.hid hz
 clear hf hz hy
 have p2 := PA.c2
 go_enter Tryz.func112, Tryz.ntmps112
 go_wp2_with fail
 refine (cmpN NY (nilN _) (by omega) (Nat.zero_le _)).mono ?_
 rintro e w1 ⟨rfl, hb1⟩
 have hs1 := hb1.size
 simp only [hs_alloc] at hs1
 replace PA := PA.below hb1
 replace ZA := ZA.below hb1
 replace NY := NY.below hb1
 replace BB := bl_trans BB hb1
 clear hb1 p2
 by_cases hy0 : y = 0
 ·subst hy0
  rw [cmpV_eq]
  have p1 := PA.c2
  have g2 := PA.f 2
  go_wp2_with fail
  refine (cFromD (N := w.heap.size + 1) 1 (by omega) (by omega)).mono ?_
  rintro e w2 ⟨_, rfl, hb2, D1, n1, c1, rfl, o1, l1⟩
  have hs2 := hb2.size
  replace PA := PA.below hb2
  replace ZA := ZA.below hb2
  replace BB := bl_trans BB hb2
  clear hb2 p1 g2 NY
  have p0 := PA.c0
  have p1 := PA.c1
  have p2 := PA.c2
  have g2 := PA.f 2
  go_wp2_with fail
  clear p0 p1 p2 g2
  replace PA := PA.setD D1 n1 c1
  replace BB := BB.setCell (p := ⟨w.heap.size, 2, none⟩) (Nat.le_refl _) (.slice D1 n1 c1)
  replace ZA := HZ.out.below BB
  have ND : Nm (w2.setCell ⟨w.heap.size, 2, none⟩ (.slice D1 n1 c1)) D1 n1 c1 1 1 := ⟨⟨_, (OwK.rd (o1.grown (grownBy_setCell w2 ⟨w.heap.size, 2, none⟩ (.slice D1 n1 c1)) (fun p hp e => by injection e with e; have := (OwK.lt o1 hp).1; dsimp only at e; omega))), M.val_lims 1⟩, l1⟩
  have hs4 : w.heap.size + 1 ≤ (w2.setCell ⟨w.heap.size, 2, none⟩ (.slice D1 n1 c1)).heap.size := by simp [World.setCell]; omega
  generalize w2.setCell ⟨w.heap.size, 2, none⟩ (.slice D1 n1 c1) = W2 at PA  BB ZA ND hs4 ⊢
  clear o1 l1
  refine (cLowest ⟨_, _, _, _, rfl, ZA⟩ ⟨_, _, _, rfl, ND⟩ (by omega) (by omega) (by omega)).mono ?_
  rintro e w3 ⟨u, rfl, hb3, q3⟩
  have hs3 := hb3.size
  have q3' := (q3.mono (show max k 1 ≤ k by omega)).base (N' := w.heap.size + 1) (by omega)
  replace BB := bl_trans BB hb3
  clear hb3 q3  PA ZA ND
  go_wp2_with fail
  refine (HF.out _ _ BB (by omega) (by rw [dOf_zero]; exact q3')).mono ?_
  rintro e w4 ⟨r, rfl, hb4, q4⟩
  replace BB := bl_trans BB hb4
  clear hb4 q3' HF
  go_wp2_with fail
  go_ret
  exact ⟨r, rfl, BB, q4⟩
 ·have HY := Lib.hid hy0
  have hc : (cmpV y 0 == 0) = false := by rw [cmpV_gt (by omega)]; rfl
  rw [cmpV_gt (show 0 < y by omega)]
  clear hc hy0
  have p0 := PA.c0
  have p1 := PA.c1
  have p2 := PA.c2
  go_wp2_with fail
  refine (cLowest ⟨_, _, _, _, rfl, ZA⟩ ⟨_, _, _, rfl, NY⟩ (by omega) (by omega) HY.out).mono ?_
  rintro e w3 ⟨u, rfl, hb3, q3⟩
  have hs3 := hb3.size
  have q3' := (q3.mono (show max k k ≤ k by omega)).base (N' := w.heap.size + 1) (by omega)
  replace BB := bl_trans BB hb3
  clear hb3 q3 p0 p1 p2 PA ZA NY
  go_wp2_with fail
  refine (HF.out _ _ BB (by omega) (by rw [dOf_of HY.out]; exact q3')).mono ?_
  rintro e w4 ⟨r, rfl, hb4, q4⟩
  replace BB := bl_trans BB hb4
  clear hb4 q3' HF
  go_wp2_with fail
  go_ret
  exact ⟨r, rfl, BB, q4⟩

set_option maxHeartbeats 2000000 in
theorem madeZ_rat_Floor__1 {w : World} {v : Value} {q : Rat} {k : Nat} {z' : Int} {k' : Nat} (h : IsQm w v q k) (hk : k ≤ 900) (hk1 : 1 ≤ k) (hf : ∀ W u, Below w.heap.size w W → w.heap.size + 2 ≤ W.heap.size → IsQ (w.heap.size + 2) W u q k → Calls Tryz.prog 75 #[u] W (Ans W fun w' v => IsZ (w.heap.size + 2) w' v z' k')) : Calls Tryz.prog 74 #[v, .func (Fn.func 75) #[] #[]] w (Ans w fun w' v => IsZ w.heap.size w' v z' k') := by
 obtain ⟨b, A, n, c, B, m, d, rfl, z, y, hz, hy, rfl⟩ := h
 have PA := (Bq.new w b A n c B m d).alloc (.cells #[.bool false, .slice none 0 0] 24)
 have PR := Bz.new2 w (.cells #[.bool b, .slice A n c, .slice B m d] 26) false none 0 0
 have BB := bl_trans (bl_alloc w (.cells #[.bool b, .slice A n c, .slice B m d] 26)) (bl_alloc _ (.cells #[.bool false, .slice none 0 0] 24))
 have HF := Lib.hid hf
 have ZA := hz.below BB
 have NY := hy.below BB
 have HZ := Lib.hid hz
 clear hf hz hy
 have p2 := PA.c2
 go_enter Tryz.func74, Tryz.ntmps74
 go_wp2_with fail
 refine (cmpN NY (nilN _) (by omega) (Nat.zero_le _)).mono ?_
 rintro e w1 ⟨rfl, hb1⟩
 have hs1 := hb1.size
 simp only [hs_alloc] at hs1
 replace PA := PA.below hb1
 replace ZA := ZA.below hb1
 replace NY := NY.below hb1
 replace PR := PR.below hb1
 replace BB := bl_trans BB hb1
 clear hb1 p2
 by_cases hy0 : y = 0
 ·subst hy0
  rw [cmpV_eq]
  have p1 := PA.c2
  have g2 := PA.f 2
  go_wp2_with fail
  refine (cFromD (N := w.heap.size + 2) 1 (by omega) (by omega)).mono ?_
  rintro e w2 ⟨_, rfl, hb2, D1, n1, c1, rfl, o1, l1⟩
  have hs2 := hb2.size
  replace PA := PA.below hb2
  replace PR := PR.below hb2
  replace ZA := ZA.below hb2
  replace BB := bl_trans BB hb2
  clear hb2 p1 g2 NY
  have p0 := PA.c0
  have p1 := PA.c1
  have p2 := PA.c2
  have g2 := PA.f 2
  go_wp2_with fail
  clear p0 p1 p2 g2
  replace PA := PA.setD D1 n1 c1
  replace PR := PR.other (g' := w.heap.size) (i := 2) (v := .slice D1 n1 c1) (by omega)
  replace BB := BB.setCell (p := ⟨w.heap.size, 2, none⟩) (Nat.le_refl _) (.slice D1 n1 c1)
  replace ZA := HZ.out.below BB
  have ND : Nm (w2.setCell ⟨w.heap.size, 2, none⟩ (.slice D1 n1 c1)) D1 n1 c1 1 1 := ⟨⟨_, (OwK.rd (o1.grown (grownBy_setCell w2 ⟨w.heap.size, 2, none⟩ (.slice D1 n1 c1)) (fun p hp e => by injection e with e; have := (OwK.lt o1 hp).1; dsimp only at e; omega))), M.val_lims 1⟩, l1⟩
  have hs4 : w.heap.size + 2 ≤ (w2.setCell ⟨w.heap.size, 2, none⟩ (.slice D1 n1 c1)).heap.size := by simp [World.setCell]; omega
  generalize w2.setCell ⟨w.heap.size, 2, none⟩ (.slice D1 n1 c1) = W2 at PA PR BB ZA ND hs4 ⊢
  clear o1 l1
  refine (cLowest ⟨_, _, _, _, rfl, ZA⟩ ⟨_, _, _, rfl, ND⟩ (by omega) (by omega) (by omega)).mono ?_
  rintro e w3 ⟨u, rfl, hb3, q3⟩
  have hs3 := hb3.size
  have q3' := (q3.mono (show max k 1 ≤ k by omega)).base (N' := w.heap.size + 2) (by omega)
  replace PR := PR.below hb3
  replace BB := bl_trans BB hb3
  clear hb3 q3  PA ZA ND
  go_wp2_with fail
  refine (HF.out _ _ BB (by omega) (by rw [dOf_zero]; exact q3')).mono ?_
  rintro e w4 ⟨r, rfl, hb4, q4⟩
  obtain ⟨b4, A4, n4, c4, rfl, q4'⟩ := id q4
  replace PR := PR.below hb4
  have r0 := PR.c0
  have f0 := PR.f 0
  have r1 := PR.c1
  have f1 := PR.f 1
  replace BB := bl_trans BB hb4
  clear hb4 q3' HF
  clear q4'
  go_wp2_with fail
  exact bodyPost_ret (v := .agg #[.bool b4, .slice A4 n4 c4]) (by simp [results, Tryz.results74, go_sem, *]) rfl (fin_zz q4 BB (by omega) (by omega) _ _)
 ·have HY := Lib.hid hy0
  have hc : (cmpV y 0 == 0) = false := by rw [cmpV_gt (by omega)]; rfl
  rw [cmpV_gt (show 0 < y by omega)]
  clear hc hy0
  have p0 := PA.c0
  have p1 := PA.c1
  have p2 := PA.c2
  go_wp2_with fail
  refine (cLowest ⟨_, _, _, _, rfl, ZA⟩ ⟨_, _, _, rfl, NY⟩ (by omega) (by omega) HY.out).mono ?_
  rintro e w3 ⟨u, rfl, hb3, q3⟩
  have hs3 := hb3.size
  have q3' := (q3.mono (show max k k ≤ k by omega)).base (N' := w.heap.size + 2) (by omega)
  replace PR := PR.below hb3
  replace BB := bl_trans BB hb3
  clear hb3 q3 p0 p1 p2 PA ZA NY
  go_wp2_with fail
  refine (HF.out _ _ BB (by omega) (by rw [dOf_of HY.out]; exact q3')).mono ?_
  rintro e w4 ⟨r, rfl, hb4, q4⟩
  obtain ⟨b4, A4, n4, c4, rfl, q4'⟩ := id q4
  replace PR := PR.below hb4
  have r0 := PR.c0
  have f0 := PR.f 0
  have r1 := PR.c1
  have f1 := PR.f 1
  replace BB := bl_trans BB hb4
  clear hb4 q3' HF
  clear q4'
  go_wp2_with fail
  exact bodyPost_ret (v := .agg #[.bool b4, .slice A4 n4 c4]) (by simp [results, Tryz.results74, go_sem, *]) rfl (fin_zz q4 BB (by omega) (by omega) _ _)

set_option maxHeartbeats 2000000 in
theorem madeB_rat_Right__1 {w : World} {v : Value} {q : Rat} {k : Nat} {cap0 : Value} {Post : Value → Prop} (h : IsQm w v q k) (hk : k ≤ 900) (hk1 : 1 ≤ k) (hf : ∀ W u, Below w.heap.size w W → w.heap.size + 1 ≤ W.heap.size → IsQ (w.heap.size + 1) W u q k → Calls Tryz.prog 55 #[u, cap0] W (Ans W fun _ v => Post v)) : Calls Tryz.prog 54 #[v, .func (Fn.func 55) #[] #[cap0]] w (Ans w fun _ v => Post v) := by
 obtain ⟨b, A, n, c, B, m, d, rfl, z, y, hz, hy, rfl⟩ := h
 have PA := Bq.new w b A n c B m d
 have BB := bl_alloc w (.cells #[.bool b, .slice A n c, .slice B m d] 26)
 have HF := Lib.hid hf
 have ZA := hz.below BB
 have NY := hy.below BB
 have HZ := Lib.hid hz
 clear hf hz hy
 have p2 := PA.c2
 go_enter Tryz.func54, Tryz.ntmps54
 go_wp2_with fail
 refine (cmpN NY (nilN _) (by omega) (Nat.zero_le _)).mono ?_
 rintro e w1 ⟨rfl, hb1⟩
 have hs1 := hb1.size
 simp only [hs_alloc] at hs1
 replace PA := PA.below hb1
 replace ZA := ZA.below hb1
 replace NY := NY.below hb1
 replace BB := bl_trans BB hb1
 clear hb1 p2
 by_cases hy0 : y = 0
 ·subst hy0
  rw [cmpV_eq]
  have p1 := PA.c2
  have g2 := PA.f 2
  go_wp2_with fail
  refine (cFromD (N := w.heap.size + 1) 1 (by omega) (by omega)).mono ?_
  rintro e w2 ⟨_, rfl, hb2, D1, n1, c1, rfl, o1, l1⟩
  have hs2 := hb2.size
  replace PA := PA.below hb2
  replace ZA := ZA.below hb2
  replace BB := bl_trans BB hb2
  clear hb2 p1 g2 NY
  have p0 := PA.c0
  have p1 := PA.c1
  have p2 := PA.c2
  have g2 := PA.f 2
  go_wp2_with fail
  clear p0 p1 p2 g2
  replace PA := PA.setD D1 n1 c1
  replace BB := BB.setCell (p := ⟨w.heap.size, 2, none⟩) (Nat.le_refl _) (.slice D1 n1 c1)
  replace ZA := HZ.out.below BB
  have ND : Nm (w2.setCell ⟨w.heap.size, 2, none⟩ (.slice D1 n1 c1)) D1 n1 c1 1 1 := ⟨⟨_, (OwK.rd (o1.grown (grownBy_setCell w2 ⟨w.heap.size, 2, none⟩ (.slice D1 n1 c1)) (fun p hp e => by injection e with e; have := (OwK.lt o1 hp).1; dsimp only at e; omega))), M.val_lims 1⟩, l1⟩
  have hs4 : w.heap.size + 1 ≤ (w2.setCell ⟨w.heap.size, 2, none⟩ (.slice D1 n1 c1)).heap.size := by simp [World.setCell]; omega
  generalize w2.setCell ⟨w.heap.size, 2, none⟩ (.slice D1 n1 c1) = W2 at PA  BB ZA ND hs4 ⊢
  clear o1 l1
  refine (cLowest ⟨_, _, _, _, rfl, ZA⟩ ⟨_, _, _, rfl, ND⟩ (by omega) (by omega) (by omega)).mono ?_
  rintro e w3 ⟨u, rfl, hb3, q3⟩
  have hs3 := hb3.size
  have q3' := (q3.mono (show max k 1 ≤ k by omega)).base (N' := w.heap.size + 1) (by omega)
  replace BB := bl_trans BB hb3
  clear hb3 q3  PA ZA ND
  go_wp2_with fail
  refine (HF.out _ _ BB (by omega) (by rw [dOf_zero]; exact q3')).mono ?_
  rintro e w4 ⟨r, rfl, hb4, q4⟩
  replace BB := bl_trans BB hb4
  clear hb4 q3' HF
  go_wp2_with fail
  go_ret
  exact ⟨r, rfl, BB, q4⟩
 ·have HY := Lib.hid hy0
  have hc : (cmpV y 0 == 0) = false := by rw [cmpV_gt (by omega)]; rfl
  rw [cmpV_gt (show 0 < y by omega)]
  clear hc hy0
  have p0 := PA.c0
  have p1 := PA.c1
  have p2 := PA.c2
  go_wp2_with fail
  refine (cLowest ⟨_, _, _, _, rfl, ZA⟩ ⟨_, _, _, rfl, NY⟩ (by omega) (by omega) HY.out).mono ?_
  rintro e w3 ⟨u, rfl, hb3, q3⟩
  have hs3 := hb3.size
  have q3' := (q3.mono (show max k k ≤ k by omega)).base (N' := w.heap.size + 1) (by omega)
  replace BB := bl_trans BB hb3
  clear hb3 q3 p0 p1 p2 PA ZA NY
  go_wp2_with fail
  refine (HF.out _ _ BB (by omega) (by rw [dOf_of HY.out]; exact q3')).mono ?_
  rintro e w4 ⟨r, rfl, hb4, q4⟩
  replace BB := bl_trans BB hb4
  clear hb4 q3' HF
  go_wp2_with fail
  go_ret
  exact ⟨r, rfl, BB, q4⟩

set_option maxHeartbeats 2000000 in
theorem madeS_rat_Text__1 {w : World} {v : Value} {q : Rat} {k : Nat} {Post : Value → Prop} (h : IsQm w v q k) (hk : k ≤ 900) (hk1 : 1 ≤ k) (hf : ∀ W u, Below w.heap.size w W → w.heap.size + 1 ≤ W.heap.size → IsQ (w.heap.size + 1) W u q k → Calls Tryz.prog 82 #[u] W (Ans W fun _ v => Post v)) : Calls Tryz.prog 81 #[v, .func (Fn.func 82) #[] #[]] w (Ans w fun _ v => Post v) := by
 obtain ⟨b, A, n, c, B, m, d, rfl, z, y, hz, hy, rfl⟩ := h
 have PA := Bq.new w b A n c B m d
 have BB := bl_alloc w (.cells #[.bool b, .slice A n c, .slice B m d] 26)
 have HF := Lib.hid hf
 have ZA := hz.below BB
 have NY := hy.below BB
 have HZ := Lib.hid hz
 clear hf hz hy
 have p2 := PA.c2
 go_enter Tryz.func81, Tryz.ntmps81
 go_wp2_with fail
 refine (cmpN NY (nilN _) (by omega) (Nat.zero_le _)).mono ?_
 rintro e w1 ⟨rfl, hb1⟩
 have hs1 := hb1.size
 simp only [hs_alloc] at hs1
 replace PA := PA.below hb1
 replace ZA := ZA.below hb1
 replace NY := NY.below hb1
 replace BB := bl_trans BB hb1
 clear hb1 p2
 by_cases hy0 : y = 0
 ·subst hy0
  rw [cmpV_eq]
  have p1 := PA.c2
  have g2 := PA.f 2
  go_wp2_with fail
  refine (cFromD (N := w.heap.size + 1) 1 (by omega) (by omega)).mono ?_
  rintro e w2 ⟨_, rfl, hb2, D1, n1, c1, rfl, o1, l1⟩
  have hs2 := hb2.size
  replace PA := PA.below hb2
  replace ZA := ZA.below hb2
  replace BB := bl_trans BB hb2
  clear hb2 p1 g2 NY
  have p0 := PA.c0
  have p1 := PA.c1
  have p2 := PA.c2
  have g2 := PA.f 2
  go_wp2_with fail
  clear p0 p1 p2 g2
  replace PA := PA.setD D1 n1 c1
  replace BB := BB.setCell (p := ⟨w.heap.size, 2, none⟩) (Nat.le_refl _) (.slice D1 n1 c1)
  replace ZA := HZ.out.below BB
  have ND : Nm (w2.setCell ⟨w.heap.size, 2, none⟩ (.slice D1 n1 c1)) D1 n1 c1 1 1 := ⟨⟨_, (OwK.rd (o1.grown (grownBy_setCell w2 ⟨w.heap.size, 2, none⟩ (.slice D1 n1 c1)) (fun p hp e => by injection e with e; have := (OwK.lt o1 hp).1; dsimp only at e; omega))), M.val_lims 1⟩, l1⟩
  have hs4 : w.heap.size + 1 ≤ (w2.setCell ⟨w.heap.size, 2, none⟩ (.slice D1 n1 c1)).heap.size := by simp [World.setCell]; omega
  generalize w2.setCell ⟨w.heap.size, 2, none⟩ (.slice D1 n1 c1) = W2 at PA  BB ZA ND hs4 ⊢
  clear o1 l1
  refine (cLowest ⟨_, _, _, _, rfl, ZA⟩ ⟨_, _, _, rfl, ND⟩ (by omega) (by omega) (by omega)).mono ?_
  rintro e w3 ⟨u, rfl, hb3, q3⟩
  have hs3 := hb3.size
  have q3' := (q3.mono (show max k 1 ≤ k by omega)).base (N' := w.heap.size + 1) (by omega)
  replace BB := bl_trans BB hb3
  clear hb3 q3  PA ZA ND
  go_wp2_with fail
  refine (HF.out _ _ BB (by omega) (by rw [dOf_zero]; exact q3')).mono ?_
  rintro e w4 ⟨r, rfl, hb4, q4⟩
  replace BB := bl_trans BB hb4
  clear hb4 q3' HF
  go_wp2_with fail
  go_ret
  exact ⟨r, rfl, BB, q4⟩
 ·have HY := Lib.hid hy0
  have hc : (cmpV y 0 == 0) = false := by rw [cmpV_gt (by omega)]; rfl
  rw [cmpV_gt (show 0 < y by omega)]
  clear hc hy0
  have p0 := PA.c0
  have p1 := PA.c1
  have p2 := PA.c2
  go_wp2_with fail
  refine (cLowest ⟨_, _, _, _, rfl, ZA⟩ ⟨_, _, _, rfl, NY⟩ (by omega) (by omega) HY.out).mono ?_
  rintro e w3 ⟨u, rfl, hb3, q3⟩
  have hs3 := hb3.size
  have q3' := (q3.mono (show max k k ≤ k by omega)).base (N' := w.heap.size + 1) (by omega)
  replace BB := bl_trans BB hb3
  clear hb3 q3 p0 p1 p2 PA ZA NY
  go_wp2_with fail
  refine (HF.out _ _ BB (by omega) (by rw [dOf_of HY.out]; exact q3')).mono ?_
  rintro e w4 ⟨r, rfl, hb4, q4⟩
  replace BB := bl_trans BB hb4
  clear hb4 q3' HF
  go_wp2_with fail
  go_ret
  exact ⟨r, rfl, BB, q4⟩

end Go.Proofs.YtbhgbilhoonopaaGreat
namespace Go.Proofs.YtbhgbilhoonopaaGreat
open Go.RowKit
set_option linter.unusedVariables false
set_option maxRecDepth 100000

theorem ansQ_base {w : World} {q : Rat} {k N : Nat} (hN : N ≤ w.heap.size) (e : Ending) (w' : World) (h : Ans w (fun w' v => IsQ w.heap.size w' v q k) e w') : Ans w (fun w' v => IsQ N w' v q k) e w' := by
 obtain ⟨v, rfl, hb, h⟩ := h
 exact ⟨v, rfl, hb, h.base hN⟩
def IsNgV (N : Nat) (w : World) (v s : Value) (z : Int) (k : Nat) : Prop := ∃ b A n c, v = .agg #[.bool b, .slice A n c, s] ∧ Zt w N b A n c z k
theorem sNgV {N : Nat} {s : Value} {z : Int} {k : Nat} : Stab RBu fun v _ w => IsNgV N w v s z k := fun _ _ _ _ _ r _ h => by
 obtain ⟨b, A, n, c, e, Z⟩ := h
 exact ⟨b, A, n, c, e, Z.below r⟩

section
variable {w w' : World} {v v' v'' : Value} {z u : Int} {x y k j i N : Nat} {q : Rat}
set_option maxHeartbeats 2000000

theorem cSumOver (h : IsR2 w v z k u j) (g : IsN w v' y i) (hk : k ≤ 900) (hj : j ≤ 900) (hi : i ≤ 900) (hy : y ≠ 0) : Calls Tryz.prog 62 #[v', v] w (Ans w fun w' v => IsQ w.heap.size w' v (mkRat (z + u) y) (max (max k j + 1) i)) := by
 obtain ⟨D, l, e, rfl, g⟩ := g
 have PR := Bq.new w false none 0 0 none 0 0
 have BB := bl_alloc w (.cells #[.bool false, .slice none 0 0, .slice none 0 0] 26)
 have RR := h.below BB
 have NY := g.below BB
 obtain ⟨gr, s, A, n, c, s', A', n', c', rfl, _⟩ := id h
 have HY := Lib.hid hy
 clear h g hy
 go_enter Tryz.func62, Tryz.ntmps62
 go_wp2_with fail
 refine (cAdd2 (N := 0) RR (by omega) (by omega) (Nat.zero_le _)).mono ?_
 rintro e1 w1 ⟨_, rfl, hb1, q1⟩
 obtain ⟨b1, A1, n1, c1, rfl, Z1⟩ := id q1
 have hs1 := hb1.size
 simp only [hs_alloc] at hs1
 replace PR := PR.below hb1
 replace NY := NY.below hb1
 replace BB := bl_trans BB hb1
 clear hb1 RR Z1
 go_wp2_with fail
 refine (cLowest q1.m ⟨_, _, _, rfl, NY⟩ (by omega) (by omega) HY.out).mono ?_
 rintro e2 w2 ⟨_, rfl, hb2, q2⟩
 obtain ⟨b2, A2, n2, c2, B2, m2, d2, rfl, _⟩ := id q2
 replace PR := PR.below hb2
 replace BB := bl_trans BB hb2
 have r0 := PR.c0
 have r1 := PR.c1
 have r2 := PR.c2
 have f0 := PR.f 0
 have f1 := PR.f 1
 have f2 := PR.f 2
 clear hb2 q1 NY
 go_wp2_with fail
 exact bodyPost_ret (v := .agg #[.bool b2, .slice A2 n2 c2, .slice B2 m2 d2]) (by simp [results, Tryz.results62, go_sem, *]) rfl (fin_q q2 BB (by omega) (by omega) _ _ _)

theorem cAdd1c (h : IsM w v z k) (h' : IsM w v' u j) (g : IsN w v'' y i) (hk : k ≤ 900) (hj : j ≤ 900) (hi : i ≤ 900) (hy : y ≠ 0) : Calls Tryz.prog 61 #[v, v', v''] w (Ans w fun w' v => IsQ w.heap.size w' v (mkRat (z + u) y) (max (max k j + 1) i)) := by
 obtain ⟨b, A, n, c, rfl, h⟩ := h
 obtain ⟨t, B, m, d, rfl, h'⟩ := h'
 obtain ⟨D, l, e, rfl, g⟩ := g
 have PA := ((Bz.new w b A n c).alloc (.cells #[.bool t, .slice B m d] 24)).alloc (.cells #[.bool false, .slice none 0 0, .slice none 0 0] 26)
 have PB := (Bz.new2 w (.cells #[.bool b, .slice A n c] 24) t B m d).alloc (.cells #[.bool false, .slice none 0 0, .slice none 0 0] 26)
 have PR := Bq.new3 w (.cells #[.bool b, .slice A n c] 24) (.cells #[.bool t, .slice B m d] 24) false none 0 0 none 0 0
 have BB := bl_trans (bl_trans (bl_alloc w (.cells #[.bool b, .slice A n c] 24)) (bl_alloc _ (.cells #[.bool t, .slice B m d] 24))) (bl_alloc _ (.cells #[.bool false, .slice none 0 0, .slice none 0 0] 26))
 have ZA := h.below BB
 have ZB := h'.below BB
 have NY := g.below BB
 have HY := Lib.hid hy
 clear h h' g hy
 have a0 := PA.c0
 have a1 := PA.c1
 have b0 := PB.c0
 have b1 := PB.c1
 have RR := IsR2.new ZA ZB
 simp only [hs_alloc] at RR
 go_enter Tryz.func61, Tryz.ntmps61
 go_wp2_with fail
 refine (cSumOver RR ⟨_, _, _, rfl, NY.below (bl_alloc _ _)⟩ (by omega) (by omega) (by omega) HY.out).mono ?_
 rintro e2 w2 ⟨_, rfl, hb2, q2⟩
 simp only [hs_alloc] at q2
 replace hb2 := bl_trans (bl_alloc _ _) hb2
 obtain ⟨b2, A2, n2, c2, B2, m2, d2, rfl, _⟩ := id q2
 have hs2 := hb2.size
 replace PR := PR.below hb2
 replace BB := bl_trans BB hb2
 have r0 := PR.c0
 have r1 := PR.c1
 have r2 := PR.c2
 have f0 := PR.f 0
 have f1 := PR.f 1
 have f2 := PR.f 2
 clear hb2 RR ZA ZB NY PA PB a0 a1 b0 b1
 go_wp2_with fail
 exact bodyPost_ret (v := .agg #[.bool b2, .slice A2 n2 c2, .slice B2 m2 d2]) (by simp [results, Tryz.results61, go_sem, *]) rfl (fin_q (N := w.heap.size + 1 + 1 + 1) (q2.base (by omega)) BB (by omega) (by omega) _ _ _)

theorem cMul1c (h : IsM w v z k) (h' : IsM w v' u j) (g : IsN w v'' y i) (hk : k ≤ 900) (hj : j ≤ 900) (hi : i < 40) (hm : min k j < 40) (hy : y ≠ 0) : Calls Tryz.prog 65 #[v, v', v''] w (Ans w fun w' v => IsQ w.heap.size w' v (mkRat (z * u) (y * y)) (max (k + j) (i + i))) := by
 obtain ⟨b, A, n, c, rfl, h⟩ := h
 obtain ⟨t, B, m, d, rfl, h'⟩ := h'
 obtain ⟨D, l, e, rfl, g⟩ := g
 have PA := ((Bz.new w b A n c).alloc (.cells #[.bool t, .slice B m d] 24)).alloc (.cells #[.bool false, .slice none 0 0, .slice none 0 0] 26)
 have PB := (Bz.new2 w (.cells #[.bool b, .slice A n c] 24) t B m d).alloc (.cells #[.bool false, .slice none 0 0, .slice none 0 0] 26)
 have PR := Bq.new3 w (.cells #[.bool b, .slice A n c] 24) (.cells #[.bool t, .slice B m d] 24) false none 0 0 none 0 0
 have BB := bl_trans (bl_trans (bl_alloc w (.cells #[.bool b, .slice A n c] 24)) (bl_alloc _ (.cells #[.bool t, .slice B m d] 24))) (bl_alloc _ (.cells #[.bool false, .slice none 0 0, .slice none 0 0] 26))
 have ZA := h.below BB
 have ZB := h'.below BB
 have NY := g.below BB
 have HY := Lib.hid hy
 clear h h' g hy
 have a0 := PA.c0
 have a1 := PA.c1
 have b0 := PB.c0
 have b1 := PB.c1
 have RR := IsR2.new ZA ZB
 simp only [hs_alloc] at RR
 go_enter Tryz.func65, Tryz.ntmps65
 go_wp2_with fail
 refine (cMul2 (N := 0) RR (by omega) (by omega) hm (Nat.zero_le _)).mono ?_
 rintro e1 w1 ⟨_, rfl, hb1, q1⟩
 replace hb1 := bl_trans (bl_alloc _ _) hb1
 obtain ⟨b1', A1, n1, c1, rfl, _⟩ := id q1
 replace NY := NY.below hb1
 replace PR := PR.below hb1
 replace BB := bl_trans BB hb1
 clear hb1 RR ZA ZB PA PB a0 a1 b0 b1
 go_wp2_with fail
 refine (cMulD (N := 0) ⟨_, _, _, rfl, NY⟩ ⟨_, _, _, rfl, NY⟩ (by omega) (by omega) (by omega) (Nat.zero_le _)).mono ?_
 rintro e3 w3 ⟨_, rfl, hb3, q3⟩
 obtain ⟨A3, n3, c3, rfl, _⟩ := id q3
 replace q1 := q1.below hb3
 replace PR := PR.below hb3
 replace BB := bl_trans BB hb3
 have hl3 := PR.lt
 clear hb3 NY
 go_wp2_with fail
 refine (cLowest q1.m q3.n (by omega) (by omega) (Nat.mul_ne_zero HY.out HY.out)).mono ?_
 rintro e2 w2 ⟨_, rfl, hb2, q2⟩
 obtain ⟨b2, A2, n2, c2, B2, m2, d2, rfl, _⟩ := id q2
 have hs2 := hb2.size
 replace PR := PR.below hb2
 replace BB := bl_trans BB hb2
 have r0 := PR.c0
 have r1 := PR.c1
 have r2 := PR.c2
 have f0 := PR.f 0
 have f1 := PR.f 1
 have f2 := PR.f 2
 clear hb2 q1 q3
 go_wp2_with fail
 exact bodyPost_ret (v := .agg #[.bool b2, .slice A2 n2 c2, .slice B2 m2 d2]) (by simp [results, Tryz.results65, go_sem, *]) rfl (fin_q (N := w3.heap.size) (q2.base (by omega)) BB (by omega) (by omega) _ _ _)

theorem cCmp1c {p : Int} (h : IsM w v z k) (h' : IsM w v' u j) (g : IsN w v'' y i) (hk : k ≤ 900) (hj : j ≤ 900) (hi : i ≤ 900) (hp : cmpI z u = p) : Calls Tryz.prog 70 #[v, v', v''] w (Ans w fun _ v => v = .int .i64 p) := by
 obtain ⟨b, A, n, c, rfl, h⟩ := h
 obtain ⟨t, B, m, d, rfl, h'⟩ := h'
 obtain ⟨D, l, e, rfl, g⟩ := g
 have PA := (Bz.new w b A n c).alloc (.cells #[.bool t, .slice B m d] 24)
 have PB := Bz.new2 w (.cells #[.bool b, .slice A n c] 24) t B m d
 have BB := bl_trans (bl_alloc w (.cells #[.bool b, .slice A n c] 24)) (bl_alloc _ (.cells #[.bool t, .slice B m d] 24))
 have ZA := h.below BB
 have ZB := h'.below BB
 have NY := g.below BB
 clear h h' g
 have a0 := PA.c0
 have a1 := PA.c1
 have b0 := PB.c0
 have b1 := PB.c1
 go_enter Tryz.func70, Tryz.ntmps70
 go_wp2_with fail
 refine (cCmp ⟨_, _, _, _, rfl, ZA⟩ ⟨_, _, _, _, rfl, ZB⟩ (by omega) (by omega) hp).mono ?_
 rintro e1 w1 ⟨_, rfl, hb1, rfl⟩
 replace BB := bl_trans BB hb1
 clear hb1 ZA ZB NY PA PB a0 a1 b0 b1
 go_wp2_with fail
 go_ret
 exact ⟨_, rfl, BB, rfl⟩

theorem cNeg1c (h : IsQ N w v q k) (hk : k ≤ 900) (hN : N ≤ w.heap.size) : Calls Tryz.prog 58 #[v] w (Ans w fun w' v => IsQ N w' v (-q) k) := by
 obtain ⟨b, A, n, c, B, m, d, rfl, Z, O, l⟩ := h
 have PA := (Bq.new w b A n c B m d).alloc (.cells #[.bool false, .slice none 0 0, .slice none 0 0] 26)
 have PR := Bq.new2 w (.cells #[.bool b, .slice A n c, .slice B m d] 26) false none 0 0 none 0 0
 have BB := bl_trans (bl_alloc w (.cells #[.bool b, .slice A n c, .slice B m d] 26)) (bl_alloc _ (.cells #[.bool false, .slice none 0 0, .slice none 0 0] 26))
 have QA : IsM _ (.agg #[.bool b, .slice A n c]) q.num k := ⟨_, _, _, _, rfl, Z.zm.below BB⟩
 have ND : Nm _ B m d q.den k := ⟨⟨_, O.rd.below BB, M.val_lims _⟩, l⟩
 have HO := Lib.hid O
 have HL := Lib.hid l
 clear Z O l
 go_enter Tryz.func58, Tryz.ntmps58
 go_wp2_with fail
 have hs0 : ((w.alloc (.cells #[.bool b, .slice A n c, .slice B m d] 26)).alloc (.cells #[.bool false, .slice none 0 0, .slice none 0 0] 26)).heap.size = w.heap.size + 1 + 1 := by simp
 generalize ((w.alloc (.cells #[.bool b, .slice A n c, .slice B m d] 26)).alloc (.cells #[.bool false, .slice none 0 0, .slice none 0 0] 26)) = W0 at PA PR BB QA ND hs0 ⊢
 refine wp_cut (by kernel_rfl) 6 ?_
 simp only [List.take_succ_cons, List.take_zero, List.drop_succ_cons, List.drop_zero]
 refine wp_cut_list (Ext := RB) (Rel := RBu) [fun v _ _ => v = .pointer (some ⟨w.heap.size, 0, none⟩), fun v _ _ => v = .agg #[.bool b, .slice A n c], fun v _ w => IsZ (W0).heap.size w v (-q.num) k, fun v _ _ => v = .pointer (some ⟨w.heap.size, 2, none⟩), fun v _ _ => v = .slice B m d, fun v _ w => IsNgV (W0).heap.size w v (.slice B m d) (-q.num) k] (n := 6) (by kernel_rfl) (by kernel_rfl) (by kernel_rfl) (by kernel_rfl) (by kernel_rfl) (by kernel_rfl) (by kernel_rfl) (by kernel_rfl) (by kernel_rfl) rb_refl rb_trans ⟨sC, ⟨sC, ⟨sZ, ⟨sC, ⟨sC, ⟨sNgV, trivial⟩⟩⟩⟩⟩⟩ ?_ ?_
 ·refine ⟨⟨⟨⟨⟨⟨trivial, ?_⟩, ?_⟩, ?_⟩, ?_⟩, ?_⟩, ?_⟩
  ·refine rs_plain rfl rfl fun a wr S => ?_
   have X := undrew S.ext
   exact wp_qf0 (ev_of ((S.old 1 (by kernel_rfl)).trans rfl)) (done (by kernel_rfl) rbu_refl rfl)
  ·refine rs_plain rfl rfl fun a wr S => ?_
   have X := undrew S.ext
   obtain ⟨v0, e0, h0⟩ := S.got 0 (by kernel_rfl)
   exact wp_qN ((ev_of (e0 3 (by kernel_rfl))).trans h0) (PA.below X) (done (by kernel_rfl) rbu_refl rfl)
  ·refine rs_plain rfl rfl fun a wr S => ?_
   have X := undrew S.ext
   obtain ⟨v1, e1, h1⟩ := S.got 1 (by kernel_rfl)
   exact st_call cf_big_Neg (args1 ((ev_of (e1 4 (by kernel_rfl))).trans h1)) (by kernel_rfl) rb (cNeg (QA.below X) (by omega) X.size) (fun _ _ _ h => h)
  ·refine rs_plain rfl rfl fun a wr S => ?_
   have X := undrew S.ext
   exact wp_qf1 (ev_of ((S.old 1 (by kernel_rfl)).trans rfl)) (done (by kernel_rfl) rbu_refl rfl)
  ·refine rs_plain rfl rfl fun a wr S => ?_
   have X := undrew S.ext
   obtain ⟨v3, e3, h3⟩ := S.got 3 (by kernel_rfl)
   exact wp_qD ((ev_of (e3 6 (by kernel_rfl))).trans h3) (PA.below X) (done (by kernel_rfl) rbu_refl rfl)
  ·refine rs_plain rfl rfl fun a wr S => ?_
   have X := undrew S.ext
   obtain ⟨v2, e2, h2⟩ := S.got 2 (by kernel_rfl)
   obtain ⟨v4, e4, h4⟩ := S.got 4 (by kernel_rfl)
   obtain ⟨bb, AA, nn, cc, hvv, ZZ⟩ := (show IsZ _ wr _ (-q.num) k from h2)
   exact wp_bQ ((ev_of (e2 5 (by kernel_rfl))).trans hvv) ((ev_of (e4 7 (by kernel_rfl))).trans h4) (done (by kernel_rfl) rbu_refl ⟨_, _, _, _, rfl, ZZ⟩)
 ·intro fa w2 hR hv hap
  clear hap
  replace hR := undrew hR
  have f0 : fa 0 = .pointer (some ⟨w.heap.size, 0, none⟩) := (hvc (hv 0 (by omega))).elim fun _ h => h
  have f1 : fa 1 = .agg #[.bool b, .slice A n c] := (hvc (hv 1 (by omega))).elim fun _ h => h
  have f3 : fa 3 = .pointer (some ⟨w.heap.size, 2, none⟩) := (hvc (hv 3 (by omega))).elim fun _ h => h
  have f4 : fa 4 = .slice B m d := (hvc (hv 4 (by omega))).elim fun _ h => h
  obtain ⟨bq, Aq, nq, cq, f5, Zq⟩ := (show IsNgV _ w2 _ _ _ _ from (hvc (hv 5 (by omega))).elim fun _ h => h)
  simp only [putFn, Act.put, List.setIfInBounds_toArray, List.set_cons_zero, List.set_cons_succ, f0, f1, f3, f4, f5]
  have hs2 := hR.size
  replace PR := PR.below hR
  replace BB := bl_trans BB hR
  have r0 := PR.c0
  have r1 := PR.c1
  have r2 := PR.c2
  have f0 := PR.f 0
  have f1 := PR.f 1
  have f2 := PR.f 2
  have HB := Lib.hid (((BB.setCell (p := ⟨w.heap.size + 1, 0, none⟩) (by simp) (.bool bq)).setCell (p := ⟨w.heap.size + 1, 1, none⟩) (by simp) (.slice Aq nq cq)).setCell (p := ⟨w.heap.size + 1, 2, none⟩) (by simp) (.slice B m d))
  have HZ := Lib.hid (((Zq.stored (g := w.heap.size + 1) (by omega) 0 (.bool bq)).stored (g := w.heap.size + 1) (by omega) 1 (.slice Aq nq cq)).stored (g := w.heap.size + 1) (by omega) 2 (.slice B m d))
  clear hR hv Zq QA ND PA BB
  go_wp2_with fail
  exact bodyPost_ret (v := .agg #[.bool bq, .slice Aq nq cq, .slice B m d]) (by simp [results, Tryz.results58, go_sem, *]) rfl ⟨_, rfl, HB.out, isQ_mk (HZ.out.mono (by omega)) (HO.out.below HB.out) HL.out⟩

end

end Go.Proofs.YtbhgbilhoonopaaGreat
namespace Go.Proofs.YtbhgbilhoonopaaGreat
open Go.RowKit
set_option linter.unusedVariables false
set_option maxRecDepth 100000

/-- Block g holds this function. -/
structure Bf (w : World) (g : Nat) (f : Value) (T : TypeId) : Prop where
 row : w.heap[g]? = some (.cells #[f] T (0, 0))
section
variable {w w' : World} {g : Nat} {f : Value} {T : TypeId}
theorem Bf.lt (h : Bf w g f T) : g < w.heap.size := (Array.getElem?_eq_some_iff.1 h.row).1
theorem Bf.below (h : Bf w g f T) (hb : Below w.heap.size w w') : Bf w' g f T := ⟨(hb.block g h.lt).trans h.row⟩
theorem Bf.new (w : World) (f : Value) (T : TypeId) : Bf (w.alloc (.cells #[f] T)) w.heap.size f T := ⟨heap_alloc_new w _⟩
theorem Bf.new3 (w : World) (o o' : Obj) (f : Value) (T : TypeId) : Bf (((w.alloc o).alloc o').alloc (.cells #[f] T)) (w.heap.size + 1 + 1) f T := by
 have := Bf.new ((w.alloc o).alloc o') f T
 simp only [hs_alloc] at this
 exact this
theorem Bf.c0 (h : Bf w g f T) : w.cell? ⟨g, 0, none⟩ = some f := by
 rw [cell_of_row _ _ _ _ _ _ h.row]; rfl
end
section
variable {a : Act} {w : World} {Q : Exit → Act → World → Prop} {K : Act → World → Prop} {dst : Option Tmp} {ty : TypeId} {pos : String} {af : Array Edge} {gd : Option (Nat × Bool)} {x : Operand} {g : Nat} {fn : FuncId} {cs : Array Value}
theorem wp_floadR (hx : a.eval x = .pointer (some ⟨g, 0, none⟩)) (hb : Bf w g (.func (Fn.func fn) #[] cs) 58) (h : K (a.put dst (.func (Fn.func fn) #[] cs)) w) : Oper.wp Tryz.prog ⟨dst, .load 58 x, ty, pos, af, gd⟩ a w K Q := by
 have c0 := hb.c0
 unfold Oper.wp execOp
 simp only [hx]
 go_simp
 exact h
theorem wp_floadI (hx : a.eval x = .pointer (some ⟨g, 0, none⟩)) (hb : Bf w g (.func (Fn.func fn) #[] cs) 71) (h : K (a.put dst (.func (Fn.func fn) #[] cs)) w) : Oper.wp Tryz.prog ⟨dst, .load 71 x, ty, pos, af, gd⟩ a w K Q := by
 have c0 := hb.c0
 unfold Oper.wp execOp
 simp only [hx]
 go_simp
 exact h
end
theorem unsM {w : World} {A : Option Addr} {n c x k : Nat} (h : Nm w A n c x k) : IsM w (.agg #[.bool false, .slice A n c]) (x : Int) k := ⟨_, _, _, _, rfl, ⟨_, h, rfl⟩⟩
theorem mul_fits {p q : Rat} {k j : Nat} (h1 : p.num.natAbs < M.R ^ k) (h2 : p.den < M.R ^ k) (h3 : q.num.natAbs < M.R ^ j) (h4 : q.den < M.R ^ j) : (p * q).num.natAbs < M.R ^ (k + j) ∧ (p * q).den < M.R ^ (k + j) := by
 rw [Rat.mul_def']
 refine ⟨Nat.lt_of_le_of_lt (num_le _ _) ?_, Nat.lt_of_le_of_lt (den_le _ (Nat.mul_ne_zero p.den_nz q.den_nz)) (mul_lt_pow h2 h4)⟩
 rw [Int.natAbs_mul]
 exact mul_lt_pow h1 h3

set_option maxHeartbeats 4000000 in
theorem two2_Cmp {w : World} {v : Value} {p q : Rat} {k j N ga gt : Nat} {b : Bool} {A B : Option Addr} {n c m d : Nat} (hb : IsQ N w v q j) (PA : Bq w ga b A n c B m d) (QP : IsQt w (.agg #[.bool b, .slice A n c, .slice B m d]) p k) (PT : Bf w gt (.func (Fn.func 70) #[] #[]) 71) (hk : k ≤ 18) (hj : j ≤ 18) : Calls Tryz.prog 114 #[v, .pointer (some ⟨ga, 0, none⟩), .pointer (some ⟨gt, 0, none⟩)] w (Ans w fun w' v => v = .int .i64 (cmpQ p q)) := by
 obtain ⟨t, A', n', c', B', m', d', rfl, Zb, Ob, lb⟩ := hb
 have h1 := QP.num_lt
 have h2 := QP.den_lt
 have h3 : q.num.natAbs < M.R ^ j := Zb.tm.nm.lt
 have h4 : q.den < M.R ^ j := by rw [← M.lims_length_le, Ob.len]; exact lb
 obtain ⟨_, _, _, _, _, _, _, ea, Ta, hsa, Da⟩ := QP
 cases ea
 have HG := Lib.hid (show p.den.gcd q.den ≠ 0 by have := two_g p q; omega)
 have PB := Bq.new w t A' n' c' B' m' d'
 have BB := bl_alloc w (.cells #[.bool t, .slice A' n' c', .slice B' m' d'] 26)
 have hga := PA.lt
 have hgt := PT.lt
 replace PA := PA.below BB
 replace PT := PT.below BB
 have NA : Nm _ B m d p.den k := (Da.nm).below BB
 have NB : Nm _ B' m' d' q.den j := Nm.below ⟨⟨_, Ob.rd, M.val_lims _⟩, lb⟩ BB
 have ZA : IsM (w.alloc (.cells #[.bool t, .slice A' n' c', .slice B' m' d'] 26)) (.agg #[.bool b, .slice A n c]) p.num k := by
  refine ⟨_, _, _, _, rfl, ⟨⟨_, Ta.nm.below BB, ?_⟩⟩⟩
  rw [hsa]
  by_cases h : p.num < 0
  ·rw [decide_eq_true h, zv_true]; omega
  ·rw [decide_eq_false h, zv_false]; omega
 have ZB : IsM (w.alloc (.cells #[.bool t, .slice A' n' c', .slice B' m' d'] 26)) (.agg #[.bool t, .slice A' n' c']) q.num j := ⟨_, _, _, _, rfl, Zb.zm.below BB⟩
 have hs0 : (w.alloc (.cells #[.bool t, .slice A' n' c', .slice B' m' d'] 26)).heap.size = w.heap.size + 1 := by simp
 clear Zb Ob lb Ta hsa Da
 have a2 := PA.c2
 have b2 := PB.c2
 go_enter Tryz.func114, Tryz.ntmps114
 go_wp2_with fail
 clear a2 b2
 generalize (w.alloc (.cells #[.bool t, .slice A' n' c', .slice B' m' d'] 26)) = W0 at PA PB PT NA NB ZA ZB BB hs0 ⊢
 refine (cGcd (N := 0) ⟨_, _, _, rfl, NA⟩ ⟨_, _, _, rfl, NB⟩ (by omega) (by omega) (Nat.zero_le _)).mono ?_
 rintro e w1 ⟨_, rfl, hb1, G, gn, gc, rfl, og, lg⟩
 have NG : Nm w1 G gn gc (p.den.gcd q.den) (max k j) := ⟨⟨_, og.rd, M.val_lims _⟩, lg⟩
 have hs1 := hb1.size
 replace PA := PA.below hb1
 replace PB := PB.below hb1
 replace PT := PT.below hb1
 replace NA := NA.below hb1
 replace NB := NB.below hb1
 replace ZA := ZA.below hb1
 replace ZB := ZB.below hb1
 replace BB := bl_trans BB hb1
 clear hb1 og lg
 go_wp2_with fail
 refine wp_region_list (Ext := RB) (Rel := RBu) [fun v _ _ => v = .pointer (some ⟨w.heap.size, 2, none⟩), fun v _ _ => v = .slice B' m' d', fun v _ _ => v = .slice G gn gc, fun v _ w => IsD (w1).heap.size w v (q.den / (p.den.gcd q.den)) j, fun v _ _ => v = .pointer (some ⟨ga, 2, none⟩), fun v _ _ => v = .slice B m d, fun v _ _ => v = .slice G gn gc, fun v _ w => IsD (w1).heap.size w v (p.den / (p.den.gcd q.den)) k, fun v _ w => IsD (w1).heap.size w v (q.den / (p.den.gcd q.den)) j, fun v _ w => IsD (w1).heap.size w v (p.den / (p.den.gcd q.den)) k] (n := 10) (by kernel_rfl) rfl (by kernel_rfl) (by kernel_rfl) (by kernel_rfl) (by kernel_rfl) (by kernel_rfl) rb_refl rb_trans ⟨sC, ⟨sC, ⟨sC, ⟨sD, ⟨sC, ⟨sC, ⟨sC, ⟨sD, ⟨sD, ⟨sD, trivial⟩⟩⟩⟩⟩⟩⟩⟩⟩⟩ ?_ ?_
 ·refine ⟨⟨⟨⟨⟨⟨⟨⟨⟨⟨trivial, ?_⟩, ?_⟩, ?_⟩, ?_⟩, ?_⟩, ?_⟩, ?_⟩, ?_⟩, ?_⟩, ?_⟩
  ·refine rs_plain rfl rfl fun a wr S => ?_
   have X := undrew S.ext
   exact wp_qf1 (ev_of ((S.old 3 (by kernel_rfl)).trans rfl)) (done (by kernel_rfl) rbu_refl rfl)
  ·refine rs_plain rfl rfl fun a wr S => ?_
   have X := undrew S.ext
   obtain ⟨v0, e0, h0⟩ := S.got 0 (by kernel_rfl)
   exact wp_qD ((ev_of (e0 15 (by kernel_rfl))).trans h0) (PB.below X) (done (by kernel_rfl) rbu_refl rfl)
  ·refine rs_plain rfl rfl fun a wr S => ?_
   have X := undrew S.ext
   exact wp_mv (ev_of ((S.old 5 (by kernel_rfl)).trans rfl)) (done (by kernel_rfl) rbu_refl rfl)
  ·refine rs_plain rfl rfl fun a wr S => ?_
   have X := undrew S.ext
   obtain ⟨v1, e1, h1⟩ := S.got 1 (by kernel_rfl)
   obtain ⟨v2, e2, h2⟩ := S.got 2 (by kernel_rfl)
   exact st_call cf_rat_without (args2 ((ev_of (e1 16 (by kernel_rfl))).trans h1) ((ev_of (e2 17 (by kernel_rfl))).trans h2)) (by kernel_rfl) rb (cWithout ⟨_, _, _, rfl, NB.below X⟩ ⟨_, _, _, rfl, NG.below X⟩ (by omega) (by omega) HG.out X.size) (fun _ _ _ h => h)
  ·refine rs_plain rfl rfl fun a wr S => ?_
   have X := undrew S.ext
   exact wp_qf1 (ev_of ((S.old 1 (by kernel_rfl)).trans rfl)) (done (by kernel_rfl) rbu_refl rfl)
  ·refine rs_plain rfl rfl fun a wr S => ?_
   have X := undrew S.ext
   obtain ⟨v4, e4, h4⟩ := S.got 4 (by kernel_rfl)
   exact wp_qD ((ev_of (e4 19 (by kernel_rfl))).trans h4) (PA.below X) (done (by kernel_rfl) rbu_refl rfl)
  ·refine rs_plain rfl rfl fun a wr S => ?_
   have X := undrew S.ext
   exact wp_mv (ev_of ((S.old 5 (by kernel_rfl)).trans rfl)) (done (by kernel_rfl) rbu_refl rfl)
  ·refine rs_plain rfl rfl fun a wr S => ?_
   have X := undrew S.ext
   obtain ⟨v5, e5, h5⟩ := S.got 5 (by kernel_rfl)
   obtain ⟨v6, e6, h6⟩ := S.got 6 (by kernel_rfl)
   exact st_call cf_rat_without (args2 ((ev_of (e5 20 (by kernel_rfl))).trans h5) ((ev_of (e6 21 (by kernel_rfl))).trans h6)) (by kernel_rfl) rb (cWithout ⟨_, _, _, rfl, NA.below X⟩ ⟨_, _, _, rfl, NG.below X⟩ (by omega) (by omega) HG.out X.size) (fun _ _ _ h => h)
  ·refine rs_plain rfl rfl fun a wr S => ?_
   have X := undrew S.ext
   obtain ⟨v3, e3, h3⟩ := S.got 3 (by kernel_rfl)
   exact wp_as (ev_of (e3 18 (by kernel_rfl))) (done (by kernel_rfl) rbu_refl h3)
  ·refine rs_plain rfl rfl fun a wr S => ?_
   have X := undrew S.ext
   obtain ⟨v7, e7, h7⟩ := S.got 7 (by kernel_rfl)
   exact wp_as (ev_of (e7 22 (by kernel_rfl))) (done (by kernel_rfl) rbu_refl h7)
 ·intro fa w2 hR hv
  replace hR := undrew hR
  have f0 : fa 0 = .pointer (some ⟨w.heap.size, 2, none⟩) := (hvc (hv 0 (by omega))).elim fun _ h => h
  have f1 : fa 1 = .slice B' m' d' := (hvc (hv 1 (by omega))).elim fun _ h => h
  have f2 : fa 2 = .slice G gn gc := (hvc (hv 2 (by omega))).elim fun _ h => h
  have f4 : fa 4 = .pointer (some ⟨ga, 2, none⟩) := (hvc (hv 4 (by omega))).elim fun _ h => h
  have f5 : fa 5 = .slice B m d := (hvc (hv 5 (by omega))).elim fun _ h => h
  have f6 : fa 6 = .slice G gn gc := (hvc (hv 6 (by omega))).elim fun _ h => h
  obtain ⟨Ax, nx, cx, f8, Ox, lx⟩ := (show IsD _ w2 _ (q.den / (p.den.gcd q.den)) j from (hvc (hv 8 (by omega))).elim fun _ h => h)
  obtain ⟨Ay, ny, cy, f9, Oy, ly⟩ := (show IsD _ w2 _ (p.den / (p.den.gcd q.den)) k from (hvc (hv 9 (by omega))).elim fun _ h => h)
  simp only [putFn, Act.put, List.setIfInBounds_toArray, List.set_cons_zero, List.set_cons_succ, f0, f1, f2, f4, f5, f6, f8, f9]
  have NX : Nm w2 Ax nx cx (ofA p q) j := ⟨⟨_, Ox.rd, M.val_lims _⟩, lx⟩
  have NY : Nm w2 Ay ny cy (ofB p q) k := ⟨⟨_, Oy.rd, M.val_lims _⟩, ly⟩
  have hs2 := hR.size
  replace PA := PA.below hR
  replace PB := PB.below hR
  replace PT := PT.below hR
  replace NA := NA.below hR
  replace NB := NB.below hR
  replace ZA := ZA.below hR
  replace ZB := ZB.below hR
  replace BB := bl_trans BB hR
  clear hR hv Ox lx Oy ly NG NB
  go_wp2_with fail
  refine wp_region_list (Ext := (BelX (w2).heap.size)) (Rel := (BelU (w2).heap.size)) [fun v _ _ => v = .pointer (some ⟨ga, 0, none⟩), fun v _ _ => v = .agg #[.bool b, .slice A n c], fun v _ _ => v = .slice Ax nx cx, fun v _ _ => v = .agg #[.bool false, .slice Ax nx cx], fun v _ w => IsR2 w v (p.num) k (((ofA p q : Nat) : Int)) j, fun v _ w => IsZ (w2).heap.size w v (p.num * (((ofA p q : Nat) : Int))) (k + j), fun v _ w => IsP (w2).heap.size v w, fun _ u w => HasZ (w2).heap.size u w (p.num * (((ofA p q : Nat) : Int))) (k + j)] (n := 8) (by kernel_rfl) rfl (by kernel_rfl) (by kernel_rfl) (by kernel_rfl) (by kernel_rfl) (by kernel_rfl) (rx_refl _) (rxu_trans _) ⟨sC, ⟨sC, ⟨sC, ⟨sC, ⟨xR2, ⟨xZ, ⟨xP, ⟨xHZ, trivial⟩⟩⟩⟩⟩⟩⟩⟩ ?_ ?_
  ·refine ⟨⟨⟨⟨⟨⟨⟨⟨trivial, ?_⟩, ?_⟩, ?_⟩, ?_⟩, ?_⟩, ?_⟩, ?_⟩, ?_⟩
   ·refine rs_plain rfl rfl fun a wr S => ?_
    have X := undrewX S.ext
    exact wp_qf0 (ev_of ((S.old 1 (by kernel_rfl)).trans rfl)) (done (by kernel_rfl) (rxu_refl _) rfl)
   ·refine rs_plain rfl rfl fun a wr S => ?_
    have X := undrewX S.ext
    obtain ⟨v0, e0, h0⟩ := S.got 0 (by kernel_rfl)
    exact wp_qN ((ev_of (e0 23 (by kernel_rfl))).trans h0) (PA.below X) (done (by kernel_rfl) (rxu_refl _) rfl)
   ·refine rs_plain rfl rfl fun a wr S => ?_
    have X := undrewX S.ext
    exact wp_mv (ev_of ((S.old 6 (by kernel_rfl)).trans rfl)) (done (by kernel_rfl) (rxu_refl _) rfl)
   ·refine rs_plain rfl rfl fun a wr S => ?_
    have X := undrewX S.ext
    obtain ⟨v2, e2, h2⟩ := S.got 2 (by kernel_rfl)
    exact st_call cf_rat_unsigned (args1 ((ev_of (e2 25 (by kernel_rfl))).trans h2)) (by kernel_rfl) (rxu _) (cUnsigned _ _ _) (fun _ _ _ h => h)
   ·refine rs_plain rfl rfl fun a wr S => ?_
    have X := undrewX S.ext
    obtain ⟨v1, e1, h1⟩ := S.got 1 (by kernel_rfl)
    obtain ⟨v3, e3, h3⟩ := S.got 3 (by kernel_rfl)
    obtain ⟨b0, A0, n0, c0, hv0, Z0⟩ := (show IsM wr _ _ _ from (ZA.below X))
    obtain ⟨b1, A1, n1, c1, hv1, Z1⟩ := (show IsM wr _ _ _ from (unsM (NX.below X)))
    exact wp_bs2 (((ev_of (e1 24 (by kernel_rfl))).trans h1).trans hv0) (((ev_of (e3 26 (by kernel_rfl))).trans h3).trans hv1) (done' (by kernel_rfl) ((rxu _) _ _ _ (bl_alloc _ _)) (IsR2.new Z0 Z1))
   ·refine rs_plain rfl rfl fun a wr S => ?_
    have X := undrewX S.ext
    obtain ⟨v4, e4, h4⟩ := S.got 4 (by kernel_rfl)
    exact st_call cf_big_Mul (args1 (ev_of (e4 27 (by kernel_rfl)))) (by kernel_rfl) (rxu _) (cMul2 (z := p.num) (u := (((ofA p q : Nat) : Int))) h4 (by omega) (by omega) (by omega) X.size) (fun _ _ _ h => h)
   ·refine rs_plain rfl rfl fun a wr S => ?_
    have X := undrewX S.ext
    refine st_alloc X.size (fun _ _ _ h => h) fun j vj u hj hs => ?_
    have hj' : j ∈ [6] := alloc_cases (by kernel_rfl) j hj
    simp only [List.mem_cons, List.not_mem_nil, or_false] at hj'
    subst hj'; exact hs
   ·refine rs_plain rfl rfl fun a wr S => ?_
    have X := undrewX S.ext
    obtain ⟨v6, e6, h6⟩ := S.got 6 (by kernel_rfl)
    obtain ⟨v5, e5, h5⟩ := S.got 5 (by kernel_rfl)
    exact st_storeZ (by kernel_rfl) (by kernel_rfl) (ev_of (e6 8 (by kernel_rfl))) h6 (ev_of (e5 28 (by kernel_rfl))) h5 (fun _ _ _ h => h)
  ·intro fb w3 hR hv
   replace hR := undrewX hR
   have f0 : fb 0 = .pointer (some ⟨ga, 0, none⟩) := (hvc (hv 0 (by omega))).elim fun _ h => h
   have f1 : fb 1 = .agg #[.bool b, .slice A n c] := (hvc (hv 1 (by omega))).elim fun _ h => h
   have f2 : fb 2 = .slice Ax nx cx := (hvc (hv 2 (by omega))).elim fun _ h => h
   have f3 : fb 3 = .agg #[.bool false, .slice Ax nx cx] := (hvc (hv 3 (by omega))).elim fun _ h => h
   obtain ⟨gn, bn, An, nn, cn, f6, hgn, Pn, Zn⟩ := (show HasZ _ (fb 6) w3 (p.num * (((ofA p q : Nat) : Int))) (k + j) from hvs (hv 7 (by omega)) (by kernel_rfl))
   simp only [putFn, Act.put, List.setIfInBounds_toArray, List.set_cons_zero, List.set_cons_succ, f0, f1, f2, f3, f6]
   have hs3 := hR.size
   replace PA := PA.below hR
   replace PB := PB.below hR
   replace PT := PT.below hR
   replace NA := NA.below hR
   replace ZA := ZA.below hR
   replace ZB := ZB.below hR
   replace NX := NX.below hR
   replace NY := NY.below hR
   replace BB := bl_trans BB hR
   have QN : IsM w3 (.agg #[.bool bn, .slice An nn cn]) (p.num * ((ofA p q : Nat) : Int)) (k + j) := ⟨_, _, _, _, rfl, Zn.zm⟩
   clear hR hv Zn hgn ZA
   go_wp2_with fail
   refine wp_region_list (Ext := (BelX (w3).heap.size)) (Rel := (BelU (w3).heap.size)) [fun v _ _ => v = .pointer (some ⟨w.heap.size, 0, none⟩), fun v _ _ => v = .agg #[.bool t, .slice A' n' c'], fun v _ _ => v = .slice Ay ny cy, fun v _ _ => v = .agg #[.bool false, .slice Ay ny cy], fun v _ w => IsR2 w v (q.num) j (((ofB p q : Nat) : Int)) k, fun v _ w => IsZ (w3).heap.size w v (q.num * (((ofB p q : Nat) : Int))) (j + k), fun v _ w => IsP (w3).heap.size v w, fun _ u w => HasZ (w3).heap.size u w (q.num * (((ofB p q : Nat) : Int))) (j + k)] (n := 8) (by kernel_rfl) rfl (by kernel_rfl) (by kernel_rfl) (by kernel_rfl) (by kernel_rfl) (by kernel_rfl) (rx_refl _) (rxu_trans _) ⟨sC, ⟨sC, ⟨sC, ⟨sC, ⟨xR2, ⟨xZ, ⟨xP, ⟨xHZ, trivial⟩⟩⟩⟩⟩⟩⟩⟩ ?_ ?_
   ·refine ⟨⟨⟨⟨⟨⟨⟨⟨trivial, ?_⟩, ?_⟩, ?_⟩, ?_⟩, ?_⟩, ?_⟩, ?_⟩, ?_⟩
    ·refine rs_plain rfl rfl fun a wr S => ?_
     have X := undrewX S.ext
     exact wp_qf0 (ev_of ((S.old 3 (by kernel_rfl)).trans rfl)) (done (by kernel_rfl) (rxu_refl _) rfl)
    ·refine rs_plain rfl rfl fun a wr S => ?_
     have X := undrewX S.ext
     obtain ⟨v0, e0, h0⟩ := S.got 0 (by kernel_rfl)
     exact wp_qN ((ev_of (e0 29 (by kernel_rfl))).trans h0) (PB.below X) (done (by kernel_rfl) (rxu_refl _) rfl)
    ·refine rs_plain rfl rfl fun a wr S => ?_
     have X := undrewX S.ext
     exact wp_mv (ev_of ((S.old 7 (by kernel_rfl)).trans rfl)) (done (by kernel_rfl) (rxu_refl _) rfl)
    ·refine rs_plain rfl rfl fun a wr S => ?_
     have X := undrewX S.ext
     obtain ⟨v2, e2, h2⟩ := S.got 2 (by kernel_rfl)
     exact st_call cf_rat_unsigned (args1 ((ev_of (e2 31 (by kernel_rfl))).trans h2)) (by kernel_rfl) (rxu _) (cUnsigned _ _ _) (fun _ _ _ h => h)
    ·refine rs_plain rfl rfl fun a wr S => ?_
     have X := undrewX S.ext
     obtain ⟨v1, e1, h1⟩ := S.got 1 (by kernel_rfl)
     obtain ⟨v3, e3, h3⟩ := S.got 3 (by kernel_rfl)
     obtain ⟨b0, A0, n0, c0, hv0, Z0⟩ := (show IsM wr _ _ _ from (ZB.below X))
     obtain ⟨b1, A1, n1, c1, hv1, Z1⟩ := (show IsM wr _ _ _ from (unsM (NY.below X)))
     exact wp_bs2 (((ev_of (e1 30 (by kernel_rfl))).trans h1).trans hv0) (((ev_of (e3 32 (by kernel_rfl))).trans h3).trans hv1) (done' (by kernel_rfl) ((rxu _) _ _ _ (bl_alloc _ _)) (IsR2.new Z0 Z1))
    ·refine rs_plain rfl rfl fun a wr S => ?_
     have X := undrewX S.ext
     obtain ⟨v4, e4, h4⟩ := S.got 4 (by kernel_rfl)
     exact st_call cf_big_Mul (args1 (ev_of (e4 33 (by kernel_rfl)))) (by kernel_rfl) (rxu _) (cMul2 (z := q.num) (u := (((ofB p q : Nat) : Int))) h4 (by omega) (by omega) (by omega) X.size) (fun _ _ _ h => h)
    ·refine rs_plain rfl rfl fun a wr S => ?_
     have X := undrewX S.ext
     refine st_alloc X.size (fun _ _ _ h => h) fun j vj u hj hs => ?_
     have hj' : j ∈ [6] := alloc_cases (by kernel_rfl) j hj
     simp only [List.mem_cons, List.not_mem_nil, or_false] at hj'
     subst hj'; exact hs
    ·refine rs_plain rfl rfl fun a wr S => ?_
     have X := undrewX S.ext
     obtain ⟨v6, e6, h6⟩ := S.got 6 (by kernel_rfl)
     obtain ⟨v5, e5, h5⟩ := S.got 5 (by kernel_rfl)
     exact st_storeZ (by kernel_rfl) (by kernel_rfl) (ev_of (e6 9 (by kernel_rfl))) h6 (ev_of (e5 34 (by kernel_rfl))) h5 (fun _ _ _ h => h)
   ·intro fc w4 hR hv
    replace hR := undrewX hR
    have f0 : fc 0 = .pointer (some ⟨w.heap.size, 0, none⟩) := (hvc (hv 0 (by omega))).elim fun _ h => h
    have f1 : fc 1 = .agg #[.bool t, .slice A' n' c'] := (hvc (hv 1 (by omega))).elim fun _ h => h
    have f2 : fc 2 = .slice Ay ny cy := (hvc (hv 2 (by omega))).elim fun _ h => h
    have f3 : fc 3 = .agg #[.bool false, .slice Ay ny cy] := (hvc (hv 3 (by omega))).elim fun _ h => h
    obtain ⟨gm, bm, Am, nm, cm, f6, hgm, Pm, Zm⟩ := (show HasZ _ (fc 6) w4 (q.num * (((ofB p q : Nat) : Int))) (j + k) from hvs (hv 7 (by omega)) (by kernel_rfl))
    simp only [putFn, Act.put, List.setIfInBounds_toArray, List.set_cons_zero, List.set_cons_succ, f0, f1, f2, f3, f6]
    have hs4 := hR.size
    replace PA := PA.below hR
    replace PB := PB.below hR
    replace PT := PT.below hR
    replace NA := NA.below hR
    replace ZB := ZB.below hR
    replace NX := NX.below hR
    replace NY := NY.below hR
    replace Pn := Pn.below hR
    replace QN := QN.below hR
    replace BB := bl_trans BB hR
    have QM : IsM w4 (.agg #[.bool bm, .slice Am nm cm]) (q.num * ((ofB p q : Nat) : Int)) (j + k) := ⟨_, _, _, _, rfl, Zm.zm⟩
    clear hR hv Zm hgm ZB NY PB
    go_wp2_with fail
    refine wp_cut (by kernel_rfl) 7 ?_
    simp only [List.take_succ_cons, List.take_zero, List.drop_succ_cons, List.drop_zero]
    refine wp_cut_list (Ext := RB) (Rel := RBu) [fun v _ _ => v = .func (Fn.func 70) #[] #[], fun v _ _ => v = .agg #[.bool bn, .slice An nn cn], fun v _ _ => v = .agg #[.bool bm, .slice Am nm cm], fun v _ _ => v = .pointer (some ⟨ga, 2, none⟩), fun v _ _ => v = .slice B m d, fun v _ _ => v = .slice Ax nx cx, fun v _ w => IsD (w4).heap.size w v (p.den * (ofA p q)) (k + j)] (n := 7) (by kernel_rfl) (by kernel_rfl) (by kernel_rfl) (by kernel_rfl) (by kernel_rfl) (by kernel_rfl) (by kernel_rfl) (by kernel_rfl) (by kernel_rfl) rb_refl rb_trans ⟨sC, ⟨sC, ⟨sC, ⟨sC, ⟨sC, ⟨sC, ⟨sD, trivial⟩⟩⟩⟩⟩⟩⟩ ?_ ?_
    ·refine ⟨⟨⟨⟨⟨⟨⟨trivial, ?_⟩, ?_⟩, ?_⟩, ?_⟩, ?_⟩, ?_⟩, ?_⟩
     ·refine rs_plain rfl rfl fun a wr S => ?_
      have X := undrew S.ext
      exact wp_floadI (ev_of ((S.old 2 (by kernel_rfl)).trans rfl)) (PT.below X) (done (by kernel_rfl) rbu_refl rfl)
     ·refine rs_plain rfl rfl fun a wr S => ?_
      have X := undrew S.ext
      exact wp_load (ev_of ((S.old 8 (by kernel_rfl)).trans rfl)) (Pn.below X) (done (by kernel_rfl) rbu_refl rfl)
     ·refine rs_plain rfl rfl fun a wr S => ?_
      have X := undrew S.ext
      exact wp_load (ev_of ((S.old 9 (by kernel_rfl)).trans rfl)) (Pm.below X) (done (by kernel_rfl) rbu_refl rfl)
     ·refine rs_plain rfl rfl fun a wr S => ?_
      have X := undrew S.ext
      exact wp_qf1 (ev_of ((S.old 1 (by kernel_rfl)).trans rfl)) (done (by kernel_rfl) rbu_refl rfl)
     ·refine rs_plain rfl rfl fun a wr S => ?_
      have X := undrew S.ext
      obtain ⟨v3, e3, h3⟩ := S.got 3 (by kernel_rfl)
      exact wp_qD ((ev_of (e3 38 (by kernel_rfl))).trans h3) (PA.below X) (done (by kernel_rfl) rbu_refl rfl)
     ·refine rs_plain rfl rfl fun a wr S => ?_
      have X := undrew S.ext
      exact wp_mv (ev_of ((S.old 6 (by kernel_rfl)).trans rfl)) (done (by kernel_rfl) rbu_refl rfl)
     ·refine rs_plain rfl rfl fun a wr S => ?_
      have X := undrew S.ext
      obtain ⟨v4, e4, h4⟩ := S.got 4 (by kernel_rfl)
      obtain ⟨v5, e5, h5⟩ := S.got 5 (by kernel_rfl)
      exact st_call cf_nat_Mul (args2 ((ev_of (e4 39 (by kernel_rfl))).trans h4) ((ev_of (e5 40 (by kernel_rfl))).trans h5)) (by kernel_rfl) rb (cMulD ⟨_, _, _, rfl, NA.below X⟩ ⟨_, _, _, rfl, NX.below X⟩ (by omega) (by omega) (by omega) X.size) (fun _ _ _ h => h)
    ·intro fd w5 hR hv hap
     clear hap
     replace hR := undrew hR
     have f0 : fd 0 = .func (Fn.func 70) #[] #[] := (hvc (hv 0 (by omega))).elim fun _ h => h
     have f1 : fd 1 = .agg #[.bool bn, .slice An nn cn] := (hvc (hv 1 (by omega))).elim fun _ h => h
     have f2 : fd 2 = .agg #[.bool bm, .slice Am nm cm] := (hvc (hv 2 (by omega))).elim fun _ h => h
     have f3 : fd 3 = .pointer (some ⟨ga, 2, none⟩) := (hvc (hv 3 (by omega))).elim fun _ h => h
     have f4 : fd 4 = .slice B m d := (hvc (hv 4 (by omega))).elim fun _ h => h
     have f5 : fd 5 = .slice Ax nx cx := (hvc (hv 5 (by omega))).elim fun _ h => h
     obtain ⟨Az, nz, cz, f6, Oz, lz⟩ := (show IsD _ w5 _ (p.den * (ofA p q)) (k + j) from (hvc (hv 6 (by omega))).elim fun _ h => h)
     simp only [putFn, Act.put, List.setIfInBounds_toArray, List.set_cons_zero, List.set_cons_succ, f0, f1, f2, f3, f4, f5, f6]
     have hs5 := hR.size
     replace QN := QN.below hR
     replace QM := QM.below hR
     replace BB := bl_trans BB hR
     have ND : IsN w5 (.slice Az nz cz) (p.den * ofA p q) (k + j) := ⟨_, _, _, rfl, ⟨⟨_, Oz.rd, M.val_lims _⟩, lz⟩⟩
     have hd0 : p.den * ofA p q ≠ 0 := Nat.mul_ne_zero p.den_nz (two_A_pos p q)
     clear hR hv Oz lz PA PT NA NX Pn Pm
     go_wp2_with fail
     refine (cCmp1c QN QM ND (by omega) (by omega) (by omega) (two_cmp p q)).mono ?_
     rintro e w6 ⟨_, rfl, hb6, rfl⟩
     replace BB := bl_trans BB hb6
     clear hb6 QN QM ND
     go_wp2_with fail
     go_ret
     exact ⟨_, rfl, BB, rfl⟩

set_option maxHeartbeats 4000000 in
theorem two2_Add {w : World} {v : Value} {p q : Rat} {k j N ga gt : Nat} {b : Bool} {A B : Option Addr} {n c m d : Nat} (hb : IsQ N w v q j) (PA : Bq w ga b A n c B m d) (QP : IsQt w (.agg #[.bool b, .slice A n c, .slice B m d]) p k) (PT : Bf w gt (.func (Fn.func 61) #[] #[]) 58) (hk : k ≤ 18) (hj : j ≤ 18) : Calls Tryz.prog 98 #[v, .pointer (some ⟨ga, 0, none⟩), .pointer (some ⟨gt, 0, none⟩)] w (Ans w fun w' v => IsQ w.heap.size w' v (p + q) (k + j + 1)) := by
 obtain ⟨t, A', n', c', B', m', d', rfl, Zb, Ob, lb⟩ := hb
 have h1 := QP.num_lt
 have h2 := QP.den_lt
 have h3 : q.num.natAbs < M.R ^ j := Zb.tm.nm.lt
 have h4 : q.den < M.R ^ j := by rw [← M.lims_length_le, Ob.len]; exact lb
 obtain ⟨_, _, _, _, _, _, _, ea, Ta, hsa, Da⟩ := QP
 cases ea
 have HG := Lib.hid (show p.den.gcd q.den ≠ 0 by have := two_g p q; omega)
 have PB := (Bq.new w t A' n' c' B' m' d').alloc (.cells #[.bool false, .slice none 0 0, .slice none 0 0] 26)
 have PR := Bq.new2 w (.cells #[.bool t, .slice A' n' c', .slice B' m' d'] 26) false none 0 0 none 0 0
 have BB := bl_trans (bl_alloc w (.cells #[.bool t, .slice A' n' c', .slice B' m' d'] 26)) (bl_alloc _ (.cells #[.bool false, .slice none 0 0, .slice none 0 0] 26))
 have hga := PA.lt
 have hgt := PT.lt
 replace PA := PA.below BB
 replace PT := PT.below BB
 have NA : Nm _ B m d p.den k := (Da.nm).below BB
 have NB : Nm _ B' m' d' q.den j := Nm.below ⟨⟨_, Ob.rd, M.val_lims _⟩, lb⟩ BB
 have ZA : IsM ((w.alloc (.cells #[.bool t, .slice A' n' c', .slice B' m' d'] 26)).alloc (.cells #[.bool false, .slice none 0 0, .slice none 0 0] 26)) (.agg #[.bool b, .slice A n c]) p.num k := by
  refine ⟨_, _, _, _, rfl, ⟨⟨_, Ta.nm.below BB, ?_⟩⟩⟩
  rw [hsa]
  by_cases h : p.num < 0
  ·rw [decide_eq_true h, zv_true]; omega
  ·rw [decide_eq_false h, zv_false]; omega
 have ZB : IsM ((w.alloc (.cells #[.bool t, .slice A' n' c', .slice B' m' d'] 26)).alloc (.cells #[.bool false, .slice none 0 0, .slice none 0 0] 26)) (.agg #[.bool t, .slice A' n' c']) q.num j := ⟨_, _, _, _, rfl, Zb.zm.below BB⟩
 have hs0 : ((w.alloc (.cells #[.bool t, .slice A' n' c', .slice B' m' d'] 26)).alloc (.cells #[.bool false, .slice none 0 0, .slice none 0 0] 26)).heap.size = w.heap.size + 2 := by simp
 clear Zb Ob lb Ta hsa Da
 have a2 := PA.c2
 have b2 := PB.c2
 go_enter Tryz.func98, Tryz.ntmps98
 go_wp2_with fail
 clear a2 b2
 generalize ((w.alloc (.cells #[.bool t, .slice A' n' c', .slice B' m' d'] 26)).alloc (.cells #[.bool false, .slice none 0 0, .slice none 0 0] 26)) = W0 at PA PB PT PR NA NB ZA ZB BB hs0 ⊢
 refine (cGcd (N := 0) ⟨_, _, _, rfl, NA⟩ ⟨_, _, _, rfl, NB⟩ (by omega) (by omega) (Nat.zero_le _)).mono ?_
 rintro e w1 ⟨_, rfl, hb1, G, gn, gc, rfl, og, lg⟩
 have NG : Nm w1 G gn gc (p.den.gcd q.den) (max k j) := ⟨⟨_, og.rd, M.val_lims _⟩, lg⟩
 have hs1 := hb1.size
 replace PA := PA.below hb1
 replace PB := PB.below hb1
 replace PT := PT.below hb1
 replace PR := PR.below hb1
 replace NA := NA.below hb1
 replace NB := NB.below hb1
 replace ZA := ZA.below hb1
 replace ZB := ZB.below hb1
 replace BB := bl_trans BB hb1
 clear hb1 og lg
 go_wp2_with fail
 refine wp_region_list (Ext := RB) (Rel := RBu) [fun v _ _ => v = .pointer (some ⟨w.heap.size, 2, none⟩), fun v _ _ => v = .slice B' m' d', fun v _ _ => v = .slice G gn gc, fun v _ w => IsD (w1).heap.size w v (q.den / (p.den.gcd q.den)) j, fun v _ _ => v = .pointer (some ⟨ga, 2, none⟩), fun v _ _ => v = .slice B m d, fun v _ _ => v = .slice G gn gc, fun v _ w => IsD (w1).heap.size w v (p.den / (p.den.gcd q.den)) k, fun v _ w => IsD (w1).heap.size w v (q.den / (p.den.gcd q.den)) j, fun v _ w => IsD (w1).heap.size w v (p.den / (p.den.gcd q.den)) k] (n := 10) (by kernel_rfl) rfl (by kernel_rfl) (by kernel_rfl) (by kernel_rfl) (by kernel_rfl) (by kernel_rfl) rb_refl rb_trans ⟨sC, ⟨sC, ⟨sC, ⟨sD, ⟨sC, ⟨sC, ⟨sC, ⟨sD, ⟨sD, ⟨sD, trivial⟩⟩⟩⟩⟩⟩⟩⟩⟩⟩ ?_ ?_
 ·refine ⟨⟨⟨⟨⟨⟨⟨⟨⟨⟨trivial, ?_⟩, ?_⟩, ?_⟩, ?_⟩, ?_⟩, ?_⟩, ?_⟩, ?_⟩, ?_⟩, ?_⟩
  ·refine rs_plain rfl rfl fun a wr S => ?_
   have X := undrew S.ext
   exact wp_qf1 (ev_of ((S.old 3 (by kernel_rfl)).trans rfl)) (done (by kernel_rfl) rbu_refl rfl)
  ·refine rs_plain rfl rfl fun a wr S => ?_
   have X := undrew S.ext
   obtain ⟨v0, e0, h0⟩ := S.got 0 (by kernel_rfl)
   exact wp_qD ((ev_of (e0 15 (by kernel_rfl))).trans h0) (PB.below X) (done (by kernel_rfl) rbu_refl rfl)
  ·refine rs_plain rfl rfl fun a wr S => ?_
   have X := undrew S.ext
   exact wp_mv (ev_of ((S.old 5 (by kernel_rfl)).trans rfl)) (done (by kernel_rfl) rbu_refl rfl)
  ·refine rs_plain rfl rfl fun a wr S => ?_
   have X := undrew S.ext
   obtain ⟨v1, e1, h1⟩ := S.got 1 (by kernel_rfl)
   obtain ⟨v2, e2, h2⟩ := S.got 2 (by kernel_rfl)
   exact st_call cf_rat_without (args2 ((ev_of (e1 16 (by kernel_rfl))).trans h1) ((ev_of (e2 17 (by kernel_rfl))).trans h2)) (by kernel_rfl) rb (cWithout ⟨_, _, _, rfl, NB.below X⟩ ⟨_, _, _, rfl, NG.below X⟩ (by omega) (by omega) HG.out X.size) (fun _ _ _ h => h)
  ·refine rs_plain rfl rfl fun a wr S => ?_
   have X := undrew S.ext
   exact wp_qf1 (ev_of ((S.old 1 (by kernel_rfl)).trans rfl)) (done (by kernel_rfl) rbu_refl rfl)
  ·refine rs_plain rfl rfl fun a wr S => ?_
   have X := undrew S.ext
   obtain ⟨v4, e4, h4⟩ := S.got 4 (by kernel_rfl)
   exact wp_qD ((ev_of (e4 19 (by kernel_rfl))).trans h4) (PA.below X) (done (by kernel_rfl) rbu_refl rfl)
  ·refine rs_plain rfl rfl fun a wr S => ?_
   have X := undrew S.ext
   exact wp_mv (ev_of ((S.old 5 (by kernel_rfl)).trans rfl)) (done (by kernel_rfl) rbu_refl rfl)
  ·refine rs_plain rfl rfl fun a wr S => ?_
   have X := undrew S.ext
   obtain ⟨v5, e5, h5⟩ := S.got 5 (by kernel_rfl)
   obtain ⟨v6, e6, h6⟩ := S.got 6 (by kernel_rfl)
   exact st_call cf_rat_without (args2 ((ev_of (e5 20 (by kernel_rfl))).trans h5) ((ev_of (e6 21 (by kernel_rfl))).trans h6)) (by kernel_rfl) rb (cWithout ⟨_, _, _, rfl, NA.below X⟩ ⟨_, _, _, rfl, NG.below X⟩ (by omega) (by omega) HG.out X.size) (fun _ _ _ h => h)
  ·refine rs_plain rfl rfl fun a wr S => ?_
   have X := undrew S.ext
   obtain ⟨v3, e3, h3⟩ := S.got 3 (by kernel_rfl)
   exact wp_as (ev_of (e3 18 (by kernel_rfl))) (done (by kernel_rfl) rbu_refl h3)
  ·refine rs_plain rfl rfl fun a wr S => ?_
   have X := undrew S.ext
   obtain ⟨v7, e7, h7⟩ := S.got 7 (by kernel_rfl)
   exact wp_as (ev_of (e7 22 (by kernel_rfl))) (done (by kernel_rfl) rbu_refl h7)
 ·intro fa w2 hR hv
  replace hR := undrew hR
  have f0 : fa 0 = .pointer (some ⟨w.heap.size, 2, none⟩) := (hvc (hv 0 (by omega))).elim fun _ h => h
  have f1 : fa 1 = .slice B' m' d' := (hvc (hv 1 (by omega))).elim fun _ h => h
  have f2 : fa 2 = .slice G gn gc := (hvc (hv 2 (by omega))).elim fun _ h => h
  have f4 : fa 4 = .pointer (some ⟨ga, 2, none⟩) := (hvc (hv 4 (by omega))).elim fun _ h => h
  have f5 : fa 5 = .slice B m d := (hvc (hv 5 (by omega))).elim fun _ h => h
  have f6 : fa 6 = .slice G gn gc := (hvc (hv 6 (by omega))).elim fun _ h => h
  obtain ⟨Ax, nx, cx, f8, Ox, lx⟩ := (show IsD _ w2 _ (q.den / (p.den.gcd q.den)) j from (hvc (hv 8 (by omega))).elim fun _ h => h)
  obtain ⟨Ay, ny, cy, f9, Oy, ly⟩ := (show IsD _ w2 _ (p.den / (p.den.gcd q.den)) k from (hvc (hv 9 (by omega))).elim fun _ h => h)
  simp only [putFn, Act.put, List.setIfInBounds_toArray, List.set_cons_zero, List.set_cons_succ, f0, f1, f2, f4, f5, f6, f8, f9]
  have NX : Nm w2 Ax nx cx (ofA p q) j := ⟨⟨_, Ox.rd, M.val_lims _⟩, lx⟩
  have NY : Nm w2 Ay ny cy (ofB p q) k := ⟨⟨_, Oy.rd, M.val_lims _⟩, ly⟩
  have hs2 := hR.size
  replace PA := PA.below hR
  replace PB := PB.below hR
  replace PT := PT.below hR
  replace PR := PR.below hR
  replace NA := NA.below hR
  replace NB := NB.below hR
  replace ZA := ZA.below hR
  replace ZB := ZB.below hR
  replace BB := bl_trans BB hR
  clear hR hv Ox lx Oy ly NG NB
  go_wp2_with fail
  refine wp_region_list (Ext := (BelX (w2).heap.size)) (Rel := (BelU (w2).heap.size)) [fun v _ _ => v = .pointer (some ⟨ga, 0, none⟩), fun v _ _ => v = .agg #[.bool b, .slice A n c], fun v _ _ => v = .slice Ax nx cx, fun v _ _ => v = .agg #[.bool false, .slice Ax nx cx], fun v _ w => IsR2 w v (p.num) k (((ofA p q : Nat) : Int)) j, fun v _ w => IsZ (w2).heap.size w v (p.num * (((ofA p q : Nat) : Int))) (k + j), fun v _ w => IsP (w2).heap.size v w, fun _ u w => HasZ (w2).heap.size u w (p.num * (((ofA p q : Nat) : Int))) (k + j)] (n := 8) (by kernel_rfl) rfl (by kernel_rfl) (by kernel_rfl) (by kernel_rfl) (by kernel_rfl) (by kernel_rfl) (rx_refl _) (rxu_trans _) ⟨sC, ⟨sC, ⟨sC, ⟨sC, ⟨xR2, ⟨xZ, ⟨xP, ⟨xHZ, trivial⟩⟩⟩⟩⟩⟩⟩⟩ ?_ ?_
  ·refine ⟨⟨⟨⟨⟨⟨⟨⟨trivial, ?_⟩, ?_⟩, ?_⟩, ?_⟩, ?_⟩, ?_⟩, ?_⟩, ?_⟩
   ·refine rs_plain rfl rfl fun a wr S => ?_
    have X := undrewX S.ext
    exact wp_qf0 (ev_of ((S.old 1 (by kernel_rfl)).trans rfl)) (done (by kernel_rfl) (rxu_refl _) rfl)
   ·refine rs_plain rfl rfl fun a wr S => ?_
    have X := undrewX S.ext
    obtain ⟨v0, e0, h0⟩ := S.got 0 (by kernel_rfl)
    exact wp_qN ((ev_of (e0 23 (by kernel_rfl))).trans h0) (PA.below X) (done (by kernel_rfl) (rxu_refl _) rfl)
   ·refine rs_plain rfl rfl fun a wr S => ?_
    have X := undrewX S.ext
    exact wp_mv (ev_of ((S.old 6 (by kernel_rfl)).trans rfl)) (done (by kernel_rfl) (rxu_refl _) rfl)
   ·refine rs_plain rfl rfl fun a wr S => ?_
    have X := undrewX S.ext
    obtain ⟨v2, e2, h2⟩ := S.got 2 (by kernel_rfl)
    exact st_call cf_rat_unsigned (args1 ((ev_of (e2 25 (by kernel_rfl))).trans h2)) (by kernel_rfl) (rxu _) (cUnsigned _ _ _) (fun _ _ _ h => h)
   ·refine rs_plain rfl rfl fun a wr S => ?_
    have X := undrewX S.ext
    obtain ⟨v1, e1, h1⟩ := S.got 1 (by kernel_rfl)
    obtain ⟨v3, e3, h3⟩ := S.got 3 (by kernel_rfl)
    obtain ⟨b0, A0, n0, c0, hv0, Z0⟩ := (show IsM wr _ _ _ from (ZA.below X))
    obtain ⟨b1, A1, n1, c1, hv1, Z1⟩ := (show IsM wr _ _ _ from (unsM (NX.below X)))
    exact wp_bs2 (((ev_of (e1 24 (by kernel_rfl))).trans h1).trans hv0) (((ev_of (e3 26 (by kernel_rfl))).trans h3).trans hv1) (done' (by kernel_rfl) ((rxu _) _ _ _ (bl_alloc _ _)) (IsR2.new Z0 Z1))
   ·refine rs_plain rfl rfl fun a wr S => ?_
    have X := undrewX S.ext
    obtain ⟨v4, e4, h4⟩ := S.got 4 (by kernel_rfl)
    exact st_call cf_big_Mul (args1 (ev_of (e4 27 (by kernel_rfl)))) (by kernel_rfl) (rxu _) (cMul2 (z := p.num) (u := (((ofA p q : Nat) : Int))) h4 (by omega) (by omega) (by omega) X.size) (fun _ _ _ h => h)
   ·refine rs_plain rfl rfl fun a wr S => ?_
    have X := undrewX S.ext
    refine st_alloc X.size (fun _ _ _ h => h) fun j vj u hj hs => ?_
    have hj' : j ∈ [6] := alloc_cases (by kernel_rfl) j hj
    simp only [List.mem_cons, List.not_mem_nil, or_false] at hj'
    subst hj'; exact hs
   ·refine rs_plain rfl rfl fun a wr S => ?_
    have X := undrewX S.ext
    obtain ⟨v6, e6, h6⟩ := S.got 6 (by kernel_rfl)
    obtain ⟨v5, e5, h5⟩ := S.got 5 (by kernel_rfl)
    exact st_storeZ (by kernel_rfl) (by kernel_rfl) (ev_of (e6 8 (by kernel_rfl))) h6 (ev_of (e5 28 (by kernel_rfl))) h5 (fun _ _ _ h => h)
  ·intro fb w3 hR hv
   replace hR := undrewX hR
   have f0 : fb 0 = .pointer (some ⟨ga, 0, none⟩) := (hvc (hv 0 (by omega))).elim fun _ h => h
   have f1 : fb 1 = .agg #[.bool b, .slice A n c] := (hvc (hv 1 (by omega))).elim fun _ h => h
   have f2 : fb 2 = .slice Ax nx cx := (hvc (hv 2 (by omega))).elim fun _ h => h
   have f3 : fb 3 = .agg #[.bool false, .slice Ax nx cx] := (hvc (hv 3 (by omega))).elim fun _ h => h
   obtain ⟨gn, bn, An, nn, cn, f6, hgn, Pn, Zn⟩ := (show HasZ _ (fb 6) w3 (p.num * (((ofA p q : Nat) : Int))) (k + j) from hvs (hv 7 (by omega)) (by kernel_rfl))
   simp only [putFn, Act.put, List.setIfInBounds_toArray, List.set_cons_zero, List.set_cons_succ, f0, f1, f2, f3, f6]
   have hs3 := hR.size
   replace PA := PA.below hR
   replace PB := PB.below hR
   replace PT := PT.below hR
   replace PR := PR.below hR
   replace NA := NA.below hR
   replace ZA := ZA.below hR
   replace ZB := ZB.below hR
   replace NX := NX.below hR
   replace NY := NY.below hR
   replace BB := bl_trans BB hR
   have QN : IsM w3 (.agg #[.bool bn, .slice An nn cn]) (p.num * ((ofA p q : Nat) : Int)) (k + j) := ⟨_, _, _, _, rfl, Zn.zm⟩
   clear hR hv Zn hgn ZA
   go_wp2_with fail
   refine wp_region_list (Ext := (BelX (w3).heap.size)) (Rel := (BelU (w3).heap.size)) [fun v _ _ => v = .pointer (some ⟨w.heap.size, 0, none⟩), fun v _ _ => v = .agg #[.bool t, .slice A' n' c'], fun v _ _ => v = .slice Ay ny cy, fun v _ _ => v = .agg #[.bool false, .slice Ay ny cy], fun v _ w => IsR2 w v (q.num) j (((ofB p q : Nat) : Int)) k, fun v _ w => IsZ (w3).heap.size w v (q.num * (((ofB p q : Nat) : Int))) (j + k), fun v _ w => IsP (w3).heap.size v w, fun _ u w => HasZ (w3).heap.size u w (q.num * (((ofB p q : Nat) : Int))) (j + k)] (n := 8) (by kernel_rfl) rfl (by kernel_rfl) (by kernel_rfl) (by kernel_rfl) (by kernel_rfl) (by kernel_rfl) (rx_refl _) (rxu_trans _) ⟨sC, ⟨sC, ⟨sC, ⟨sC, ⟨xR2, ⟨xZ, ⟨xP, ⟨xHZ, trivial⟩⟩⟩⟩⟩⟩⟩⟩ ?_ ?_
   ·refine ⟨⟨⟨⟨⟨⟨⟨⟨trivial, ?_⟩, ?_⟩, ?_⟩, ?_⟩, ?_⟩, ?_⟩, ?_⟩, ?_⟩
    ·refine rs_plain rfl rfl fun a wr S => ?_
     have X := undrewX S.ext
     exact wp_qf0 (ev_of ((S.old 3 (by kernel_rfl)).trans rfl)) (done (by kernel_rfl) (rxu_refl _) rfl)
    ·refine rs_plain rfl rfl fun a wr S => ?_
     have X := undrewX S.ext
     obtain ⟨v0, e0, h0⟩ := S.got 0 (by kernel_rfl)
     exact wp_qN ((ev_of (e0 29 (by kernel_rfl))).trans h0) (PB.below X) (done (by kernel_rfl) (rxu_refl _) rfl)
    ·refine rs_plain rfl rfl fun a wr S => ?_
     have X := undrewX S.ext
     exact wp_mv (ev_of ((S.old 7 (by kernel_rfl)).trans rfl)) (done (by kernel_rfl) (rxu_refl _) rfl)
    ·refine rs_plain rfl rfl fun a wr S => ?_
     have X := undrewX S.ext
     obtain ⟨v2, e2, h2⟩ := S.got 2 (by kernel_rfl)
     exact st_call cf_rat_unsigned (args1 ((ev_of (e2 31 (by kernel_rfl))).trans h2)) (by kernel_rfl) (rxu _) (cUnsigned _ _ _) (fun _ _ _ h => h)
    ·refine rs_plain rfl rfl fun a wr S => ?_
     have X := undrewX S.ext
     obtain ⟨v1, e1, h1⟩ := S.got 1 (by kernel_rfl)
     obtain ⟨v3, e3, h3⟩ := S.got 3 (by kernel_rfl)
     obtain ⟨b0, A0, n0, c0, hv0, Z0⟩ := (show IsM wr _ _ _ from (ZB.below X))
     obtain ⟨b1, A1, n1, c1, hv1, Z1⟩ := (show IsM wr _ _ _ from (unsM (NY.below X)))
     exact wp_bs2 (((ev_of (e1 30 (by kernel_rfl))).trans h1).trans hv0) (((ev_of (e3 32 (by kernel_rfl))).trans h3).trans hv1) (done' (by kernel_rfl) ((rxu _) _ _ _ (bl_alloc _ _)) (IsR2.new Z0 Z1))
    ·refine rs_plain rfl rfl fun a wr S => ?_
     have X := undrewX S.ext
     obtain ⟨v4, e4, h4⟩ := S.got 4 (by kernel_rfl)
     exact st_call cf_big_Mul (args1 (ev_of (e4 33 (by kernel_rfl)))) (by kernel_rfl) (rxu _) (cMul2 (z := q.num) (u := (((ofB p q : Nat) : Int))) h4 (by omega) (by omega) (by omega) X.size) (fun _ _ _ h => h)
    ·refine rs_plain rfl rfl fun a wr S => ?_
     have X := undrewX S.ext
     refine st_alloc X.size (fun _ _ _ h => h) fun j vj u hj hs => ?_
     have hj' : j ∈ [6] := alloc_cases (by kernel_rfl) j hj
     simp only [List.mem_cons, List.not_mem_nil, or_false] at hj'
     subst hj'; exact hs
    ·refine rs_plain rfl rfl fun a wr S => ?_
     have X := undrewX S.ext
     obtain ⟨v6, e6, h6⟩ := S.got 6 (by kernel_rfl)
     obtain ⟨v5, e5, h5⟩ := S.got 5 (by kernel_rfl)
     exact st_storeZ (by kernel_rfl) (by kernel_rfl) (ev_of (e6 9 (by kernel_rfl))) h6 (ev_of (e5 34 (by kernel_rfl))) h5 (fun _ _ _ h => h)
   ·intro fc w4 hR hv
    replace hR := undrewX hR
    have f0 : fc 0 = .pointer (some ⟨w.heap.size, 0, none⟩) := (hvc (hv 0 (by omega))).elim fun _ h => h
    have f1 : fc 1 = .agg #[.bool t, .slice A' n' c'] := (hvc (hv 1 (by omega))).elim fun _ h => h
    have f2 : fc 2 = .slice Ay ny cy := (hvc (hv 2 (by omega))).elim fun _ h => h
    have f3 : fc 3 = .agg #[.bool false, .slice Ay ny cy] := (hvc (hv 3 (by omega))).elim fun _ h => h
    obtain ⟨gm, bm, Am, nm, cm, f6, hgm, Pm, Zm⟩ := (show HasZ _ (fc 6) w4 (q.num * (((ofB p q : Nat) : Int))) (j + k) from hvs (hv 7 (by omega)) (by kernel_rfl))
    simp only [putFn, Act.put, List.setIfInBounds_toArray, List.set_cons_zero, List.set_cons_succ, f0, f1, f2, f3, f6]
    have hs4 := hR.size
    replace PA := PA.below hR
    replace PB := PB.below hR
    replace PT := PT.below hR
    replace PR := PR.below hR
    replace NA := NA.below hR
    replace ZB := ZB.below hR
    replace NX := NX.below hR
    replace NY := NY.below hR
    replace Pn := Pn.below hR
    replace QN := QN.below hR
    replace BB := bl_trans BB hR
    have QM : IsM w4 (.agg #[.bool bm, .slice Am nm cm]) (q.num * ((ofB p q : Nat) : Int)) (j + k) := ⟨_, _, _, _, rfl, Zm.zm⟩
    clear hR hv Zm hgm ZB NY PB
    go_wp2_with fail
    refine wp_cut (by kernel_rfl) 7 ?_
    simp only [List.take_succ_cons, List.take_zero, List.drop_succ_cons, List.drop_zero]
    refine wp_cut_list (Ext := RB) (Rel := RBu) [fun v _ _ => v = .func (Fn.func 61) #[] #[], fun v _ _ => v = .agg #[.bool bn, .slice An nn cn], fun v _ _ => v = .agg #[.bool bm, .slice Am nm cm], fun v _ _ => v = .pointer (some ⟨ga, 2, none⟩), fun v _ _ => v = .slice B m d, fun v _ _ => v = .slice Ax nx cx, fun v _ w => IsD (w4).heap.size w v (p.den * (ofA p q)) (k + j)] (n := 7) (by kernel_rfl) (by kernel_rfl) (by kernel_rfl) (by kernel_rfl) (by kernel_rfl) (by kernel_rfl) (by kernel_rfl) (by kernel_rfl) (by kernel_rfl) rb_refl rb_trans ⟨sC, ⟨sC, ⟨sC, ⟨sC, ⟨sC, ⟨sC, ⟨sD, trivial⟩⟩⟩⟩⟩⟩⟩ ?_ ?_
    ·refine ⟨⟨⟨⟨⟨⟨⟨trivial, ?_⟩, ?_⟩, ?_⟩, ?_⟩, ?_⟩, ?_⟩, ?_⟩
     ·refine rs_plain rfl rfl fun a wr S => ?_
      have X := undrew S.ext
      exact wp_floadR (ev_of ((S.old 2 (by kernel_rfl)).trans rfl)) (PT.below X) (done (by kernel_rfl) rbu_refl rfl)
     ·refine rs_plain rfl rfl fun a wr S => ?_
      have X := undrew S.ext
      exact wp_load (ev_of ((S.old 8 (by kernel_rfl)).trans rfl)) (Pn.below X) (done (by kernel_rfl) rbu_refl rfl)
     ·refine rs_plain rfl rfl fun a wr S => ?_
      have X := undrew S.ext
      exact wp_load (ev_of ((S.old 9 (by kernel_rfl)).trans rfl)) (Pm.below X) (done (by kernel_rfl) rbu_refl rfl)
     ·refine rs_plain rfl rfl fun a wr S => ?_
      have X := undrew S.ext
      exact wp_qf1 (ev_of ((S.old 1 (by kernel_rfl)).trans rfl)) (done (by kernel_rfl) rbu_refl rfl)
     ·refine rs_plain rfl rfl fun a wr S => ?_
      have X := undrew S.ext
      obtain ⟨v3, e3, h3⟩ := S.got 3 (by kernel_rfl)
      exact wp_qD ((ev_of (e3 38 (by kernel_rfl))).trans h3) (PA.below X) (done (by kernel_rfl) rbu_refl rfl)
     ·refine rs_plain rfl rfl fun a wr S => ?_
      have X := undrew S.ext
      exact wp_mv (ev_of ((S.old 6 (by kernel_rfl)).trans rfl)) (done (by kernel_rfl) rbu_refl rfl)
     ·refine rs_plain rfl rfl fun a wr S => ?_
      have X := undrew S.ext
      obtain ⟨v4, e4, h4⟩ := S.got 4 (by kernel_rfl)
      obtain ⟨v5, e5, h5⟩ := S.got 5 (by kernel_rfl)
      exact st_call cf_nat_Mul (args2 ((ev_of (e4 39 (by kernel_rfl))).trans h4) ((ev_of (e5 40 (by kernel_rfl))).trans h5)) (by kernel_rfl) rb (cMulD ⟨_, _, _, rfl, NA.below X⟩ ⟨_, _, _, rfl, NX.below X⟩ (by omega) (by omega) (by omega) X.size) (fun _ _ _ h => h)
    ·intro fd w5 hR hv hap
     clear hap
     replace hR := undrew hR
     have f0 : fd 0 = .func (Fn.func 61) #[] #[] := (hvc (hv 0 (by omega))).elim fun _ h => h
     have f1 : fd 1 = .agg #[.bool bn, .slice An nn cn] := (hvc (hv 1 (by omega))).elim fun _ h => h
     have f2 : fd 2 = .agg #[.bool bm, .slice Am nm cm] := (hvc (hv 2 (by omega))).elim fun _ h => h
     have f3 : fd 3 = .pointer (some ⟨ga, 2, none⟩) := (hvc (hv 3 (by omega))).elim fun _ h => h
     have f4 : fd 4 = .slice B m d := (hvc (hv 4 (by omega))).elim fun _ h => h
     have f5 : fd 5 = .slice Ax nx cx := (hvc (hv 5 (by omega))).elim fun _ h => h
     obtain ⟨Az, nz, cz, f6, Oz, lz⟩ := (show IsD _ w5 _ (p.den * (ofA p q)) (k + j) from (hvc (hv 6 (by omega))).elim fun _ h => h)
     simp only [putFn, Act.put, List.setIfInBounds_toArray, List.set_cons_zero, List.set_cons_succ, f0, f1, f2, f3, f4, f5, f6]
     have hs5 := hR.size
     replace QN := QN.below hR
     replace QM := QM.below hR
     replace PR := PR.below hR
     replace BB := bl_trans BB hR
     have ND : IsN w5 (.slice Az nz cz) (p.den * ofA p q) (k + j) := ⟨_, _, _, rfl, ⟨⟨_, Oz.rd, M.val_lims _⟩, lz⟩⟩
     have hd0 : p.den * ofA p q ≠ 0 := Nat.mul_ne_zero p.den_nz (two_A_pos p q)
     clear hR hv Oz lz PA PT NA NX Pn Pm
     go_wp2_with fail
     refine (cAdd1c QN QM ND (by omega) (by omega) (by omega) hd0).mono ?_
     rintro e w6 ⟨_, rfl, hb6, q6⟩
     rw [two_add] at q6
     replace q6 := q6.mono (show _ ≤ k + j + 1 by omega)
     obtain ⟨b6, A6, n6, c6, B6, m6, d6, rfl, _⟩ := id q6
     replace PR := PR.below hb6
     replace BB := bl_trans BB hb6
     have r0 := PR.c0
     have f0 := PR.f 0
     have r1 := PR.c1
     have f1 := PR.f 1
     have r2 := PR.c2
     have f2 := PR.f 2
     clear hb6 QN QM ND
     go_wp2_with fail
     exact bodyPost_ret (v := .agg #[.bool b6, .slice A6 n6 c6, .slice B6 m6 d6]) (by simp [results, Tryz.results98, go_sem, *]) rfl (fin_q q6 BB (by omega) (by omega) _ _ _)

set_option maxHeartbeats 4000000 in
theorem two2_Mul {w : World} {v : Value} {p q : Rat} {k j N ga gt : Nat} {b : Bool} {A B : Option Addr} {n c m d : Nat} (hb : IsQ N w v q j) (PA : Bq w ga b A n c B m d) (QP : IsQt w (.agg #[.bool b, .slice A n c, .slice B m d]) p k) (PT : Bf w gt (.func (Fn.func 65) #[] #[]) 58) (hk : k ≤ 18) (hj : j ≤ 18) : Calls Tryz.prog 98 #[v, .pointer (some ⟨ga, 0, none⟩), .pointer (some ⟨gt, 0, none⟩)] w (Ans w fun w' v => IsQ w.heap.size w' v (p * q) (k + j)) := by
 obtain ⟨t, A', n', c', B', m', d', rfl, Zb, Ob, lb⟩ := hb
 have h1 := QP.num_lt
 have h2 := QP.den_lt
 have h3 : q.num.natAbs < M.R ^ j := Zb.tm.nm.lt
 have h4 : q.den < M.R ^ j := by rw [← M.lims_length_le, Ob.len]; exact lb
 obtain ⟨_, _, _, _, _, _, _, ea, Ta, hsa, Da⟩ := QP
 cases ea
 have HG := Lib.hid (show p.den.gcd q.den ≠ 0 by have := two_g p q; omega)
 have PB := (Bq.new w t A' n' c' B' m' d').alloc (.cells #[.bool false, .slice none 0 0, .slice none 0 0] 26)
 have PR := Bq.new2 w (.cells #[.bool t, .slice A' n' c', .slice B' m' d'] 26) false none 0 0 none 0 0
 have BB := bl_trans (bl_alloc w (.cells #[.bool t, .slice A' n' c', .slice B' m' d'] 26)) (bl_alloc _ (.cells #[.bool false, .slice none 0 0, .slice none 0 0] 26))
 have hga := PA.lt
 have hgt := PT.lt
 replace PA := PA.below BB
 replace PT := PT.below BB
 have NA : Nm _ B m d p.den k := (Da.nm).below BB
 have NB : Nm _ B' m' d' q.den j := Nm.below ⟨⟨_, Ob.rd, M.val_lims _⟩, lb⟩ BB
 have ZA : IsM ((w.alloc (.cells #[.bool t, .slice A' n' c', .slice B' m' d'] 26)).alloc (.cells #[.bool false, .slice none 0 0, .slice none 0 0] 26)) (.agg #[.bool b, .slice A n c]) p.num k := by
  refine ⟨_, _, _, _, rfl, ⟨⟨_, Ta.nm.below BB, ?_⟩⟩⟩
  rw [hsa]
  by_cases h : p.num < 0
  ·rw [decide_eq_true h, zv_true]; omega
  ·rw [decide_eq_false h, zv_false]; omega
 have ZB : IsM ((w.alloc (.cells #[.bool t, .slice A' n' c', .slice B' m' d'] 26)).alloc (.cells #[.bool false, .slice none 0 0, .slice none 0 0] 26)) (.agg #[.bool t, .slice A' n' c']) q.num j := ⟨_, _, _, _, rfl, Zb.zm.below BB⟩
 have hs0 : ((w.alloc (.cells #[.bool t, .slice A' n' c', .slice B' m' d'] 26)).alloc (.cells #[.bool false, .slice none 0 0, .slice none 0 0] 26)).heap.size = w.heap.size + 2 := by simp
 clear Zb Ob lb Ta hsa Da
 have a2 := PA.c2
 have b2 := PB.c2
 go_enter Tryz.func98, Tryz.ntmps98
 go_wp2_with fail
 clear a2 b2
 generalize ((w.alloc (.cells #[.bool t, .slice A' n' c', .slice B' m' d'] 26)).alloc (.cells #[.bool false, .slice none 0 0, .slice none 0 0] 26)) = W0 at PA PB PT PR NA NB ZA ZB BB hs0 ⊢
 refine (cGcd (N := 0) ⟨_, _, _, rfl, NA⟩ ⟨_, _, _, rfl, NB⟩ (by omega) (by omega) (Nat.zero_le _)).mono ?_
 rintro e w1 ⟨_, rfl, hb1, G, gn, gc, rfl, og, lg⟩
 have NG : Nm w1 G gn gc (p.den.gcd q.den) (max k j) := ⟨⟨_, og.rd, M.val_lims _⟩, lg⟩
 have hs1 := hb1.size
 replace PA := PA.below hb1
 replace PB := PB.below hb1
 replace PT := PT.below hb1
 replace PR := PR.below hb1
 replace NA := NA.below hb1
 replace NB := NB.below hb1
 replace ZA := ZA.below hb1
 replace ZB := ZB.below hb1
 replace BB := bl_trans BB hb1
 clear hb1 og lg
 go_wp2_with fail
 refine wp_region_list (Ext := RB) (Rel := RBu) [fun v _ _ => v = .pointer (some ⟨w.heap.size, 2, none⟩), fun v _ _ => v = .slice B' m' d', fun v _ _ => v = .slice G gn gc, fun v _ w => IsD (w1).heap.size w v (q.den / (p.den.gcd q.den)) j, fun v _ _ => v = .pointer (some ⟨ga, 2, none⟩), fun v _ _ => v = .slice B m d, fun v _ _ => v = .slice G gn gc, fun v _ w => IsD (w1).heap.size w v (p.den / (p.den.gcd q.den)) k, fun v _ w => IsD (w1).heap.size w v (q.den / (p.den.gcd q.den)) j, fun v _ w => IsD (w1).heap.size w v (p.den / (p.den.gcd q.den)) k] (n := 10) (by kernel_rfl) rfl (by kernel_rfl) (by kernel_rfl) (by kernel_rfl) (by kernel_rfl) (by kernel_rfl) rb_refl rb_trans ⟨sC, ⟨sC, ⟨sC, ⟨sD, ⟨sC, ⟨sC, ⟨sC, ⟨sD, ⟨sD, ⟨sD, trivial⟩⟩⟩⟩⟩⟩⟩⟩⟩⟩ ?_ ?_
 ·refine ⟨⟨⟨⟨⟨⟨⟨⟨⟨⟨trivial, ?_⟩, ?_⟩, ?_⟩, ?_⟩, ?_⟩, ?_⟩, ?_⟩, ?_⟩, ?_⟩, ?_⟩
  ·refine rs_plain rfl rfl fun a wr S => ?_
   have X := undrew S.ext
   exact wp_qf1 (ev_of ((S.old 3 (by kernel_rfl)).trans rfl)) (done (by kernel_rfl) rbu_refl rfl)
  ·refine rs_plain rfl rfl fun a wr S => ?_
   have X := undrew S.ext
   obtain ⟨v0, e0, h0⟩ := S.got 0 (by kernel_rfl)
   exact wp_qD ((ev_of (e0 15 (by kernel_rfl))).trans h0) (PB.below X) (done (by kernel_rfl) rbu_refl rfl)
  ·refine rs_plain rfl rfl fun a wr S => ?_
   have X := undrew S.ext
   exact wp_mv (ev_of ((S.old 5 (by kernel_rfl)).trans rfl)) (done (by kernel_rfl) rbu_refl rfl)
  ·refine rs_plain rfl rfl fun a wr S => ?_
   have X := undrew S.ext
   obtain ⟨v1, e1, h1⟩ := S.got 1 (by kernel_rfl)
   obtain ⟨v2, e2, h2⟩ := S.got 2 (by kernel_rfl)
   exact st_call cf_rat_without (args2 ((ev_of (e1 16 (by kernel_rfl))).trans h1) ((ev_of (e2 17 (by kernel_rfl))).trans h2)) (by kernel_rfl) rb (cWithout ⟨_, _, _, rfl, NB.below X⟩ ⟨_, _, _, rfl, NG.below X⟩ (by omega) (by omega) HG.out X.size) (fun _ _ _ h => h)
  ·refine rs_plain rfl rfl fun a wr S => ?_
   have X := undrew S.ext
   exact wp_qf1 (ev_of ((S.old 1 (by kernel_rfl)).trans rfl)) (done (by kernel_rfl) rbu_refl rfl)
  ·refine rs_plain rfl rfl fun a wr S => ?_
   have X := undrew S.ext
   obtain ⟨v4, e4, h4⟩ := S.got 4 (by kernel_rfl)
   exact wp_qD ((ev_of (e4 19 (by kernel_rfl))).trans h4) (PA.below X) (done (by kernel_rfl) rbu_refl rfl)
  ·refine rs_plain rfl rfl fun a wr S => ?_
   have X := undrew S.ext
   exact wp_mv (ev_of ((S.old 5 (by kernel_rfl)).trans rfl)) (done (by kernel_rfl) rbu_refl rfl)
  ·refine rs_plain rfl rfl fun a wr S => ?_
   have X := undrew S.ext
   obtain ⟨v5, e5, h5⟩ := S.got 5 (by kernel_rfl)
   obtain ⟨v6, e6, h6⟩ := S.got 6 (by kernel_rfl)
   exact st_call cf_rat_without (args2 ((ev_of (e5 20 (by kernel_rfl))).trans h5) ((ev_of (e6 21 (by kernel_rfl))).trans h6)) (by kernel_rfl) rb (cWithout ⟨_, _, _, rfl, NA.below X⟩ ⟨_, _, _, rfl, NG.below X⟩ (by omega) (by omega) HG.out X.size) (fun _ _ _ h => h)
  ·refine rs_plain rfl rfl fun a wr S => ?_
   have X := undrew S.ext
   obtain ⟨v3, e3, h3⟩ := S.got 3 (by kernel_rfl)
   exact wp_as (ev_of (e3 18 (by kernel_rfl))) (done (by kernel_rfl) rbu_refl h3)
  ·refine rs_plain rfl rfl fun a wr S => ?_
   have X := undrew S.ext
   obtain ⟨v7, e7, h7⟩ := S.got 7 (by kernel_rfl)
   exact wp_as (ev_of (e7 22 (by kernel_rfl))) (done (by kernel_rfl) rbu_refl h7)
 ·intro fa w2 hR hv
  replace hR := undrew hR
  have f0 : fa 0 = .pointer (some ⟨w.heap.size, 2, none⟩) := (hvc (hv 0 (by omega))).elim fun _ h => h
  have f1 : fa 1 = .slice B' m' d' := (hvc (hv 1 (by omega))).elim fun _ h => h
  have f2 : fa 2 = .slice G gn gc := (hvc (hv 2 (by omega))).elim fun _ h => h
  have f4 : fa 4 = .pointer (some ⟨ga, 2, none⟩) := (hvc (hv 4 (by omega))).elim fun _ h => h
  have f5 : fa 5 = .slice B m d := (hvc (hv 5 (by omega))).elim fun _ h => h
  have f6 : fa 6 = .slice G gn gc := (hvc (hv 6 (by omega))).elim fun _ h => h
  obtain ⟨Ax, nx, cx, f8, Ox, lx⟩ := (show IsD _ w2 _ (q.den / (p.den.gcd q.den)) j from (hvc (hv 8 (by omega))).elim fun _ h => h)
  obtain ⟨Ay, ny, cy, f9, Oy, ly⟩ := (show IsD _ w2 _ (p.den / (p.den.gcd q.den)) k from (hvc (hv 9 (by omega))).elim fun _ h => h)
  simp only [putFn, Act.put, List.setIfInBounds_toArray, List.set_cons_zero, List.set_cons_succ, f0, f1, f2, f4, f5, f6, f8, f9]
  have NX : Nm w2 Ax nx cx (ofA p q) j := ⟨⟨_, Ox.rd, M.val_lims _⟩, lx⟩
  have NY : Nm w2 Ay ny cy (ofB p q) k := ⟨⟨_, Oy.rd, M.val_lims _⟩, ly⟩
  have hs2 := hR.size
  replace PA := PA.below hR
  replace PB := PB.below hR
  replace PT := PT.below hR
  replace PR := PR.below hR
  replace NA := NA.below hR
  replace NB := NB.below hR
  replace ZA := ZA.below hR
  replace ZB := ZB.below hR
  replace BB := bl_trans BB hR
  clear hR hv Ox lx Oy ly NG NB
  go_wp2_with fail
  refine wp_region_list (Ext := (BelX (w2).heap.size)) (Rel := (BelU (w2).heap.size)) [fun v _ _ => v = .pointer (some ⟨ga, 0, none⟩), fun v _ _ => v = .agg #[.bool b, .slice A n c], fun v _ _ => v = .slice Ax nx cx, fun v _ _ => v = .agg #[.bool false, .slice Ax nx cx], fun v _ w => IsR2 w v (p.num) k (((ofA p q : Nat) : Int)) j, fun v _ w => IsZ (w2).heap.size w v (p.num * (((ofA p q : Nat) : Int))) (k + j), fun v _ w => IsP (w2).heap.size v w, fun _ u w => HasZ (w2).heap.size u w (p.num * (((ofA p q : Nat) : Int))) (k + j)] (n := 8) (by kernel_rfl) rfl (by kernel_rfl) (by kernel_rfl) (by kernel_rfl) (by kernel_rfl) (by kernel_rfl) (rx_refl _) (rxu_trans _) ⟨sC, ⟨sC, ⟨sC, ⟨sC, ⟨xR2, ⟨xZ, ⟨xP, ⟨xHZ, trivial⟩⟩⟩⟩⟩⟩⟩⟩ ?_ ?_
  ·refine ⟨⟨⟨⟨⟨⟨⟨⟨trivial, ?_⟩, ?_⟩, ?_⟩, ?_⟩, ?_⟩, ?_⟩, ?_⟩, ?_⟩
   ·refine rs_plain rfl rfl fun a wr S => ?_
    have X := undrewX S.ext
    exact wp_qf0 (ev_of ((S.old 1 (by kernel_rfl)).trans rfl)) (done (by kernel_rfl) (rxu_refl _) rfl)
   ·refine rs_plain rfl rfl fun a wr S => ?_
    have X := undrewX S.ext
    obtain ⟨v0, e0, h0⟩ := S.got 0 (by kernel_rfl)
    exact wp_qN ((ev_of (e0 23 (by kernel_rfl))).trans h0) (PA.below X) (done (by kernel_rfl) (rxu_refl _) rfl)
   ·refine rs_plain rfl rfl fun a wr S => ?_
    have X := undrewX S.ext
    exact wp_mv (ev_of ((S.old 6 (by kernel_rfl)).trans rfl)) (done (by kernel_rfl) (rxu_refl _) rfl)
   ·refine rs_plain rfl rfl fun a wr S => ?_
    have X := undrewX S.ext
    obtain ⟨v2, e2, h2⟩ := S.got 2 (by kernel_rfl)
    exact st_call cf_rat_unsigned (args1 ((ev_of (e2 25 (by kernel_rfl))).trans h2)) (by kernel_rfl) (rxu _) (cUnsigned _ _ _) (fun _ _ _ h => h)
   ·refine rs_plain rfl rfl fun a wr S => ?_
    have X := undrewX S.ext
    obtain ⟨v1, e1, h1⟩ := S.got 1 (by kernel_rfl)
    obtain ⟨v3, e3, h3⟩ := S.got 3 (by kernel_rfl)
    obtain ⟨b0, A0, n0, c0, hv0, Z0⟩ := (show IsM wr _ _ _ from (ZA.below X))
    obtain ⟨b1, A1, n1, c1, hv1, Z1⟩ := (show IsM wr _ _ _ from (unsM (NX.below X)))
    exact wp_bs2 (((ev_of (e1 24 (by kernel_rfl))).trans h1).trans hv0) (((ev_of (e3 26 (by kernel_rfl))).trans h3).trans hv1) (done' (by kernel_rfl) ((rxu _) _ _ _ (bl_alloc _ _)) (IsR2.new Z0 Z1))
   ·refine rs_plain rfl rfl fun a wr S => ?_
    have X := undrewX S.ext
    obtain ⟨v4, e4, h4⟩ := S.got 4 (by kernel_rfl)
    exact st_call cf_big_Mul (args1 (ev_of (e4 27 (by kernel_rfl)))) (by kernel_rfl) (rxu _) (cMul2 (z := p.num) (u := (((ofA p q : Nat) : Int))) h4 (by omega) (by omega) (by omega) X.size) (fun _ _ _ h => h)
   ·refine rs_plain rfl rfl fun a wr S => ?_
    have X := undrewX S.ext
    refine st_alloc X.size (fun _ _ _ h => h) fun j vj u hj hs => ?_
    have hj' : j ∈ [6] := alloc_cases (by kernel_rfl) j hj
    simp only [List.mem_cons, List.not_mem_nil, or_false] at hj'
    subst hj'; exact hs
   ·refine rs_plain rfl rfl fun a wr S => ?_
    have X := undrewX S.ext
    obtain ⟨v6, e6, h6⟩ := S.got 6 (by kernel_rfl)
    obtain ⟨v5, e5, h5⟩ := S.got 5 (by kernel_rfl)
    exact st_storeZ (by kernel_rfl) (by kernel_rfl) (ev_of (e6 8 (by kernel_rfl))) h6 (ev_of (e5 28 (by kernel_rfl))) h5 (fun _ _ _ h => h)
  ·intro fb w3 hR hv
   replace hR := undrewX hR
   have f0 : fb 0 = .pointer (some ⟨ga, 0, none⟩) := (hvc (hv 0 (by omega))).elim fun _ h => h
   have f1 : fb 1 = .agg #[.bool b, .slice A n c] := (hvc (hv 1 (by omega))).elim fun _ h => h
   have f2 : fb 2 = .slice Ax nx cx := (hvc (hv 2 (by omega))).elim fun _ h => h
   have f3 : fb 3 = .agg #[.bool false, .slice Ax nx cx] := (hvc (hv 3 (by omega))).elim fun _ h => h
   obtain ⟨gn, bn, An, nn, cn, f6, hgn, Pn, Zn⟩ := (show HasZ _ (fb 6) w3 (p.num * (((ofA p q : Nat) : Int))) (k + j) from hvs (hv 7 (by omega)) (by kernel_rfl))
   simp only [putFn, Act.put, List.setIfInBounds_toArray, List.set_cons_zero, List.set_cons_succ, f0, f1, f2, f3, f6]
   have hs3 := hR.size
   replace PA := PA.below hR
   replace PB := PB.below hR
   replace PT := PT.below hR
   replace PR := PR.below hR
   replace NA := NA.below hR
   replace ZA := ZA.below hR
   replace ZB := ZB.below hR
   replace NX := NX.below hR
   replace NY := NY.below hR
   replace BB := bl_trans BB hR
   have QN : IsM w3 (.agg #[.bool bn, .slice An nn cn]) (p.num * ((ofA p q : Nat) : Int)) (k + j) := ⟨_, _, _, _, rfl, Zn.zm⟩
   clear hR hv Zn hgn ZA
   go_wp2_with fail
   refine wp_region_list (Ext := (BelX (w3).heap.size)) (Rel := (BelU (w3).heap.size)) [fun v _ _ => v = .pointer (some ⟨w.heap.size, 0, none⟩), fun v _ _ => v = .agg #[.bool t, .slice A' n' c'], fun v _ _ => v = .slice Ay ny cy, fun v _ _ => v = .agg #[.bool false, .slice Ay ny cy], fun v _ w => IsR2 w v (q.num) j (((ofB p q : Nat) : Int)) k, fun v _ w => IsZ (w3).heap.size w v (q.num * (((ofB p q : Nat) : Int))) (j + k), fun v _ w => IsP (w3).heap.size v w, fun _ u w => HasZ (w3).heap.size u w (q.num * (((ofB p q : Nat) : Int))) (j + k)] (n := 8) (by kernel_rfl) rfl (by kernel_rfl) (by kernel_rfl) (by kernel_rfl) (by kernel_rfl) (by kernel_rfl) (rx_refl _) (rxu_trans _) ⟨sC, ⟨sC, ⟨sC, ⟨sC, ⟨xR2, ⟨xZ, ⟨xP, ⟨xHZ, trivial⟩⟩⟩⟩⟩⟩⟩⟩ ?_ ?_
   ·refine ⟨⟨⟨⟨⟨⟨⟨⟨trivial, ?_⟩, ?_⟩, ?_⟩, ?_⟩, ?_⟩, ?_⟩, ?_⟩, ?_⟩
    ·refine rs_plain rfl rfl fun a wr S => ?_
     have X := undrewX S.ext
     exact wp_qf0 (ev_of ((S.old 3 (by kernel_rfl)).trans rfl)) (done (by kernel_rfl) (rxu_refl _) rfl)
    ·refine rs_plain rfl rfl fun a wr S => ?_
     have X := undrewX S.ext
     obtain ⟨v0, e0, h0⟩ := S.got 0 (by kernel_rfl)
     exact wp_qN ((ev_of (e0 29 (by kernel_rfl))).trans h0) (PB.below X) (done (by kernel_rfl) (rxu_refl _) rfl)
    ·refine rs_plain rfl rfl fun a wr S => ?_
     have X := undrewX S.ext
     exact wp_mv (ev_of ((S.old 7 (by kernel_rfl)).trans rfl)) (done (by kernel_rfl) (rxu_refl _) rfl)
    ·refine rs_plain rfl rfl fun a wr S => ?_
     have X := undrewX S.ext
     obtain ⟨v2, e2, h2⟩ := S.got 2 (by kernel_rfl)
     exact st_call cf_rat_unsigned (args1 ((ev_of (e2 31 (by kernel_rfl))).trans h2)) (by kernel_rfl) (rxu _) (cUnsigned _ _ _) (fun _ _ _ h => h)
    ·refine rs_plain rfl rfl fun a wr S => ?_
     have X := undrewX S.ext
     obtain ⟨v1, e1, h1⟩ := S.got 1 (by kernel_rfl)
     obtain ⟨v3, e3, h3⟩ := S.got 3 (by kernel_rfl)
     obtain ⟨b0, A0, n0, c0, hv0, Z0⟩ := (show IsM wr _ _ _ from (ZB.below X))
     obtain ⟨b1, A1, n1, c1, hv1, Z1⟩ := (show IsM wr _ _ _ from (unsM (NY.below X)))
     exact wp_bs2 (((ev_of (e1 30 (by kernel_rfl))).trans h1).trans hv0) (((ev_of (e3 32 (by kernel_rfl))).trans h3).trans hv1) (done' (by kernel_rfl) ((rxu _) _ _ _ (bl_alloc _ _)) (IsR2.new Z0 Z1))
    ·refine rs_plain rfl rfl fun a wr S => ?_
     have X := undrewX S.ext
     obtain ⟨v4, e4, h4⟩ := S.got 4 (by kernel_rfl)
     exact st_call cf_big_Mul (args1 (ev_of (e4 33 (by kernel_rfl)))) (by kernel_rfl) (rxu _) (cMul2 (z := q.num) (u := (((ofB p q : Nat) : Int))) h4 (by omega) (by omega) (by omega) X.size) (fun _ _ _ h => h)
    ·refine rs_plain rfl rfl fun a wr S => ?_
     have X := undrewX S.ext
     refine st_alloc X.size (fun _ _ _ h => h) fun j vj u hj hs => ?_
     have hj' : j ∈ [6] := alloc_cases (by kernel_rfl) j hj
     simp only [List.mem_cons, List.not_mem_nil, or_false] at hj'
     subst hj'; exact hs
    ·refine rs_plain rfl rfl fun a wr S => ?_
     have X := undrewX S.ext
     obtain ⟨v6, e6, h6⟩ := S.got 6 (by kernel_rfl)
     obtain ⟨v5, e5, h5⟩ := S.got 5 (by kernel_rfl)
     exact st_storeZ (by kernel_rfl) (by kernel_rfl) (ev_of (e6 9 (by kernel_rfl))) h6 (ev_of (e5 34 (by kernel_rfl))) h5 (fun _ _ _ h => h)
   ·intro fc w4 hR hv
    replace hR := undrewX hR
    have f0 : fc 0 = .pointer (some ⟨w.heap.size, 0, none⟩) := (hvc (hv 0 (by omega))).elim fun _ h => h
    have f1 : fc 1 = .agg #[.bool t, .slice A' n' c'] := (hvc (hv 1 (by omega))).elim fun _ h => h
    have f2 : fc 2 = .slice Ay ny cy := (hvc (hv 2 (by omega))).elim fun _ h => h
    have f3 : fc 3 = .agg #[.bool false, .slice Ay ny cy] := (hvc (hv 3 (by omega))).elim fun _ h => h
    obtain ⟨gm, bm, Am, nm, cm, f6, hgm, Pm, Zm⟩ := (show HasZ _ (fc 6) w4 (q.num * (((ofB p q : Nat) : Int))) (j + k) from hvs (hv 7 (by omega)) (by kernel_rfl))
    simp only [putFn, Act.put, List.setIfInBounds_toArray, List.set_cons_zero, List.set_cons_succ, f0, f1, f2, f3, f6]
    have hs4 := hR.size
    replace PA := PA.below hR
    replace PB := PB.below hR
    replace PT := PT.below hR
    replace PR := PR.below hR
    replace NA := NA.below hR
    replace ZB := ZB.below hR
    replace NX := NX.below hR
    replace NY := NY.below hR
    replace Pn := Pn.below hR
    replace QN := QN.below hR
    replace BB := bl_trans BB hR
    have QM : IsM w4 (.agg #[.bool bm, .slice Am nm cm]) (q.num * ((ofB p q : Nat) : Int)) (j + k) := ⟨_, _, _, _, rfl, Zm.zm⟩
    clear hR hv Zm hgm ZB NY PB
    go_wp2_with fail
    refine wp_cut (by kernel_rfl) 7 ?_
    simp only [List.take_succ_cons, List.take_zero, List.drop_succ_cons, List.drop_zero]
    refine wp_cut_list (Ext := RB) (Rel := RBu) [fun v _ _ => v = .func (Fn.func 65) #[] #[], fun v _ _ => v = .agg #[.bool bn, .slice An nn cn], fun v _ _ => v = .agg #[.bool bm, .slice Am nm cm], fun v _ _ => v = .pointer (some ⟨ga, 2, none⟩), fun v _ _ => v = .slice B m d, fun v _ _ => v = .slice Ax nx cx, fun v _ w => IsD (w4).heap.size w v (p.den * (ofA p q)) (k + j)] (n := 7) (by kernel_rfl) (by kernel_rfl) (by kernel_rfl) (by kernel_rfl) (by kernel_rfl) (by kernel_rfl) (by kernel_rfl) (by kernel_rfl) (by kernel_rfl) rb_refl rb_trans ⟨sC, ⟨sC, ⟨sC, ⟨sC, ⟨sC, ⟨sC, ⟨sD, trivial⟩⟩⟩⟩⟩⟩⟩ ?_ ?_
    ·refine ⟨⟨⟨⟨⟨⟨⟨trivial, ?_⟩, ?_⟩, ?_⟩, ?_⟩, ?_⟩, ?_⟩, ?_⟩
     ·refine rs_plain rfl rfl fun a wr S => ?_
      have X := undrew S.ext
      exact wp_floadR (ev_of ((S.old 2 (by kernel_rfl)).trans rfl)) (PT.below X) (done (by kernel_rfl) rbu_refl rfl)
     ·refine rs_plain rfl rfl fun a wr S => ?_
      have X := undrew S.ext
      exact wp_load (ev_of ((S.old 8 (by kernel_rfl)).trans rfl)) (Pn.below X) (done (by kernel_rfl) rbu_refl rfl)
     ·refine rs_plain rfl rfl fun a wr S => ?_
      have X := undrew S.ext
      exact wp_load (ev_of ((S.old 9 (by kernel_rfl)).trans rfl)) (Pm.below X) (done (by kernel_rfl) rbu_refl rfl)
     ·refine rs_plain rfl rfl fun a wr S => ?_
      have X := undrew S.ext
      exact wp_qf1 (ev_of ((S.old 1 (by kernel_rfl)).trans rfl)) (done (by kernel_rfl) rbu_refl rfl)
     ·refine rs_plain rfl rfl fun a wr S => ?_
      have X := undrew S.ext
      obtain ⟨v3, e3, h3⟩ := S.got 3 (by kernel_rfl)
      exact wp_qD ((ev_of (e3 38 (by kernel_rfl))).trans h3) (PA.below X) (done (by kernel_rfl) rbu_refl rfl)
     ·refine rs_plain rfl rfl fun a wr S => ?_
      have X := undrew S.ext
      exact wp_mv (ev_of ((S.old 6 (by kernel_rfl)).trans rfl)) (done (by kernel_rfl) rbu_refl rfl)
     ·refine rs_plain rfl rfl fun a wr S => ?_
      have X := undrew S.ext
      obtain ⟨v4, e4, h4⟩ := S.got 4 (by kernel_rfl)
      obtain ⟨v5, e5, h5⟩ := S.got 5 (by kernel_rfl)
      exact st_call cf_nat_Mul (args2 ((ev_of (e4 39 (by kernel_rfl))).trans h4) ((ev_of (e5 40 (by kernel_rfl))).trans h5)) (by kernel_rfl) rb (cMulD ⟨_, _, _, rfl, NA.below X⟩ ⟨_, _, _, rfl, NX.below X⟩ (by omega) (by omega) (by omega) X.size) (fun _ _ _ h => h)
    ·intro fd w5 hR hv hap
     clear hap
     replace hR := undrew hR
     have f0 : fd 0 = .func (Fn.func 65) #[] #[] := (hvc (hv 0 (by omega))).elim fun _ h => h
     have f1 : fd 1 = .agg #[.bool bn, .slice An nn cn] := (hvc (hv 1 (by omega))).elim fun _ h => h
     have f2 : fd 2 = .agg #[.bool bm, .slice Am nm cm] := (hvc (hv 2 (by omega))).elim fun _ h => h
     have f3 : fd 3 = .pointer (some ⟨ga, 2, none⟩) := (hvc (hv 3 (by omega))).elim fun _ h => h
     have f4 : fd 4 = .slice B m d := (hvc (hv 4 (by omega))).elim fun _ h => h
     have f5 : fd 5 = .slice Ax nx cx := (hvc (hv 5 (by omega))).elim fun _ h => h
     obtain ⟨Az, nz, cz, f6, Oz, lz⟩ := (show IsD _ w5 _ (p.den * (ofA p q)) (k + j) from (hvc (hv 6 (by omega))).elim fun _ h => h)
     simp only [putFn, Act.put, List.setIfInBounds_toArray, List.set_cons_zero, List.set_cons_succ, f0, f1, f2, f3, f4, f5, f6]
     have hs5 := hR.size
     replace QN := QN.below hR
     replace QM := QM.below hR
     replace PR := PR.below hR
     replace BB := bl_trans BB hR
     have ND : IsN w5 (.slice Az nz cz) (p.den * ofA p q) (k + j) := ⟨_, _, _, rfl, ⟨⟨_, Oz.rd, M.val_lims _⟩, lz⟩⟩
     have hd0 : p.den * ofA p q ≠ 0 := Nat.mul_ne_zero p.den_nz (two_A_pos p q)
     clear hR hv Oz lz PA PT NA NX Pn Pm
     go_wp2_with fail
     refine (cMul1c QN QM ND (by omega) (by omega) (by omega) (by omega) hd0).mono ?_
     rintro e w6 ⟨_, rfl, hb6, q6⟩
     rw [two_mul] at q6
     have hf := mul_fits h1 h2 h3 h4
     replace q6 := q6.fit hf.1 hf.2
     clear hf
     obtain ⟨b6, A6, n6, c6, B6, m6, d6, rfl, _⟩ := id q6
     replace PR := PR.below hb6
     replace BB := bl_trans BB hb6
     have r0 := PR.c0
     have f0 := PR.f 0
     have r1 := PR.c1
     have f1 := PR.f 1
     have r2 := PR.c2
     have f2 := PR.f 2
     clear hb6 QN QM ND
     go_wp2_with fail
     exact bodyPost_ret (v := .agg #[.bool b6, .slice A6 n6 c6, .slice B6 m6 d6]) (by simp [results, Tryz.results98, go_sem, *]) rfl (fin_q q6 BB (by omega) (by omega) _ _ _)

end Go.Proofs.YtbhgbilhoonopaaGreat
namespace Go.Proofs.YtbhgbilhoonopaaGreat
open Go.RowKit
set_option linter.unusedVariables false
set_option maxRecDepth 100000

set_option maxHeartbeats 4000000 in
theorem two1_Cmp {w : World} {v : Value} {p q : Rat} {k j N gb gt : Nat} {b2 : Bool} {A2 B2 : Option Addr} {n2 c2 m2 d2 : Nat} (hp : IsQ N w v p k) (PB : Bq w gb b2 A2 n2 c2 B2 m2 d2) (QB : IsQm w (.agg #[.bool b2, .slice A2 n2 c2, .slice B2 m2 d2]) q j) (PT : Bf w gt (.func (Fn.func 70) #[] #[]) 71) (hk : k ≤ 18) (hj : j ≤ 18) (hj1 : 1 ≤ j) : Calls Tryz.prog 113 #[v, .pointer (some ⟨gb, 0, none⟩), .pointer (some ⟨gt, 0, none⟩)] w (Ans w fun _ v => v = .int .i64 (cmpQ p q)) := by
 have hpt := hp.t
 obtain ⟨b0, A0, n0, c0, B0, m0, d0, rfl, _⟩ := hp
 have PA := Bq.new w b0 A0 n0 c0 B0 m0 d0
 have BB := bl_alloc w (.cells #[.bool b0, .slice A0 n0 c0, .slice B0 m0 d0] 26)
 have HP := Lib.hid (hpt.below BB)
 have HA := Lib.hid PA
 replace PB := PB.below BB
 have HT := Lib.hid (PT.below BB)
 have HB := Lib.hid (QB.below BB)
 clear hpt QB PT PA
 have y0 := PB.c0
 have y1 := PB.c1
 have y2 := PB.c2
 go_enter Tryz.func113, Tryz.ntmps113
 go_wp2_with fail
 refine (madeI_ofTwoI2 (Post := fun v => v = .int .i64 (cmpQ p q)) HB.out (by omega) hj1 fun W u hW hsz hu => (two2_Cmp hu (HA.out.below hW) (HP.out.below hW) (HT.out.below hW) hk hj).mono fun e w' r => ?_).mono ?_
 ·exact r
 clear y0 y1 y2 PB HA HB HT HP
 rintro e w1 ⟨_, rfl, hb1, rfl⟩
 replace BB := bl_trans BB hb1
 clear hb1
 go_wp2_with fail
 go_ret
 exact ⟨_, rfl, BB, rfl⟩

set_option maxHeartbeats 4000000 in
theorem two0_Cmp {w : World} {v v' : Value} {p q : Rat} {k j : Nat} (ha : IsQm w v p k) (hb : IsQm w v' q j) (hk : k ≤ 18) (hj : j ≤ 18) (hk1 : 1 ≤ k) (hj1 : 1 ≤ j) : Calls Tryz.prog 69 #[v, v', .func (Fn.func 70) #[] #[]] w (Ans w fun _ v => v = .int .i64 (cmpQ p q)) := by
 obtain ⟨b2, A2, n2, c2, B2, m2, d2, rfl, _⟩ := id ha
 obtain ⟨b3, A3, n3, c3, B3, m3, d3, rfl, _⟩ := id hb
 have BB := (bl_trans (bl_trans (bl_alloc w (.cells #[.bool b2, .slice A2 n2 c2, .slice B2 m2 d2] 26)) (bl_alloc _ (.cells #[.bool b3, .slice A3 n3 c3, .slice B3 m3 d3] 26))) (bl_alloc _ (.cells #[.func (Fn.func 70) #[] #[]] 71)))
 have PA := ((Bq.new w b2 A2 n2 c2 B2 m2 d2).alloc (.cells #[.bool b3, .slice A3 n3 c3, .slice B3 m3 d3] 26)).alloc (.cells #[.func (Fn.func 70) #[] #[]] 71)
 have PB := (Bq.new2 w (.cells #[.bool b2, .slice A2 n2 c2, .slice B2 m2 d2] 26) b3 A3 n3 c3 B3 m3 d3).alloc (.cells #[.func (Fn.func 70) #[] #[]] 71)
 have PT := Bf.new3 w (.cells #[.bool b2, .slice A2 n2 c2, .slice B2 m2 d2] 26) (.cells #[.bool b3, .slice A3 n3 c3, .slice B3 m3 d3] 26) (.func (Fn.func 70) #[] #[]) 71
 have HA := Lib.hid (ha.below BB)
 have HB := Lib.hid (hb.below BB)
 have HPB := Lib.hid PB
 have HPT := Lib.hid PT
 clear ha hb PB PT
 have x0 := PA.c0
 have x1 := PA.c1
 have x2 := PA.c2
 go_enter Tryz.func69, Tryz.ntmps69
 go_wp2_with fail
 refine (madeI_ofTwoI1 (Post := fun v => v = .int .i64 (cmpQ p q)) HA.out (by omega) hk1 fun W u hW hsz hu => (two1_Cmp hu (HPB.out.below hW) (HB.out.below hW) (HPT.out.below hW) hk hj hj1).mono fun e w' r => ?_).mono ?_
 ·exact r
 clear x0 x1 x2 PA HA HB HPB HPT
 rintro e w1 ⟨_, rfl, hb1, rfl⟩
 replace BB := bl_trans BB hb1
 clear hb1
 go_wp2_with fail
 go_ret
 exact ⟨_, rfl, BB, rfl⟩

set_option maxHeartbeats 4000000 in
theorem cQCmp {w : World} {v v' : Value} {p q : Rat} {k j : Nat} (ha : IsQm w v p k) (hb : IsQm w v' q j) (hk : k ≤ 18) (hj : j ≤ 18) (hk1 : 1 ≤ k) (hj1 : 1 ≤ j) : Calls Tryz.prog 28 #[v, v'] w (Ans w fun _ v => v = .int .i64 (cmpQ p q)) := by
 obtain ⟨b2, A2, n2, c2, B2, m2, d2, rfl, _⟩ := id ha
 obtain ⟨b3, A3, n3, c3, B3, m3, d3, rfl, _⟩ := id hb
 have BB := (bl_trans (bl_alloc w (.cells #[.bool b2, .slice A2 n2 c2, .slice B2 m2 d2] 26)) (bl_alloc _ (.cells #[.bool b3, .slice A3 n3 c3, .slice B3 m3 d3] 26)))
 have PA := (Bq.new w b2 A2 n2 c2 B2 m2 d2).alloc (.cells #[.bool b3, .slice A3 n3 c3, .slice B3 m3 d3] 26)
 have PB := Bq.new2 w (.cells #[.bool b2, .slice A2 n2 c2, .slice B2 m2 d2] 26) b3 A3 n3 c3 B3 m3 d3
 have HA := Lib.hid (ha.below BB)
 have HB := Lib.hid (hb.below BB)
 clear ha hb
 have x0 := PA.c0
 have x1 := PA.c1
 have x2 := PA.c2
 have y0 := PB.c0
 have y1 := PB.c1
 have y2 := PB.c2
 go_enter Tryz.func28, Tryz.ntmps28
 go_wp2_with fail
 refine (two0_Cmp HA.out HB.out hk hj hk1 hj1).mono ?_
 clear x0 x1 x2 y0 y1 y2 PA PB HA HB
 rintro e w1 ⟨_, rfl, hb1, rfl⟩
 replace BB := bl_trans BB hb1
 clear hb1
 go_wp2_with fail
 go_ret
 exact ⟨_, rfl, BB, rfl⟩

set_option maxHeartbeats 4000000 in
theorem two1_Add {w : World} {v : Value} {p q : Rat} {k j N gb gt : Nat} {b2 : Bool} {A2 B2 : Option Addr} {n2 c2 m2 d2 : Nat} (hp : IsQ N w v p k) (PB : Bq w gb b2 A2 n2 c2 B2 m2 d2) (QB : IsQm w (.agg #[.bool b2, .slice A2 n2 c2, .slice B2 m2 d2]) q j) (PT : Bf w gt (.func (Fn.func 61) #[] #[]) 58) (hk : k ≤ 18) (hj : j ≤ 18) (hj1 : 1 ≤ j) : Calls Tryz.prog 97 #[v, .pointer (some ⟨gb, 0, none⟩), .pointer (some ⟨gt, 0, none⟩)] w (Ans w fun w' v => IsQ w.heap.size w' v (p + q) (k + j + 1)) := by
 have hpt := hp.t
 obtain ⟨b0, A0, n0, c0, B0, m0, d0, rfl, _⟩ := hp
 have PA := (Bq.new w b0 A0 n0 c0 B0 m0 d0).alloc (.cells #[.bool false, .slice none 0 0, .slice none 0 0] 26)
 have PR := Bq.new2 w (.cells #[.bool b0, .slice A0 n0 c0, .slice B0 m0 d0] 26) false none 0 0 none 0 0
 have BB := bl_trans (bl_alloc w (.cells #[.bool b0, .slice A0 n0 c0, .slice B0 m0 d0] 26)) (bl_alloc _ (.cells #[.bool false, .slice none 0 0, .slice none 0 0] 26))
 have HP := Lib.hid (hpt.below BB)
 have HA := Lib.hid PA
 replace PB := PB.below BB
 have HT := Lib.hid (PT.below BB)
 have HB := Lib.hid (QB.below BB)
 clear hpt QB PT PA
 have y0 := PB.c0
 have y1 := PB.c1
 have y2 := PB.c2
 go_enter Tryz.func97, Tryz.ntmps97
 go_wp2_with fail
 refine (madeR_ofTwoR2 (q' := (p + q)) (k' := (k + j + 1)) HB.out (by omega) hj1 fun W u hW hsz hu => (two2_Add hu (HA.out.below hW) (HP.out.below hW) (HT.out.below hW) hk hj).mono fun e w' r => ?_).mono ?_
 ·exact ansQ_base hsz e w' r
 clear y0 y1 y2 PB HA HB HT HP
 rintro e w1 ⟨_, rfl, hb1, q1⟩
 obtain ⟨b1, A1, n1, c1, B1, m1, d1, rfl, _⟩ := id q1
 replace PR := PR.below hb1
 replace BB := bl_trans BB hb1
 have r0 := PR.c0
 have f0 := PR.f 0
 have r1 := PR.c1
 have f1 := PR.f 1
 have r2 := PR.c2
 have f2 := PR.f 2
 clear hb1
 go_wp2_with fail
 exact bodyPost_ret (v := .agg #[.bool b1, .slice A1 n1 c1, .slice B1 m1 d1]) (by simp [results, Tryz.results97, go_sem, *]) rfl (fin_q (N := w.heap.size + 1 + 1) (q1.base (by simp)) BB (by omega) (by omega) _ _ _)

set_option maxHeartbeats 4000000 in
theorem two0_Add {w : World} {v v' : Value} {p q : Rat} {k j : Nat} (ha : IsQm w v p k) (hb : IsQm w v' q j) (hk : k ≤ 18) (hj : j ≤ 18) (hk1 : 1 ≤ k) (hj1 : 1 ≤ j) : Calls Tryz.prog 48 #[v, v', .func (Fn.func 61) #[] #[]] w (Ans w fun w' v => IsQ w.heap.size w' v (p + q) (k + j + 1)) := by
 obtain ⟨b2, A2, n2, c2, B2, m2, d2, rfl, _⟩ := id ha
 obtain ⟨b3, A3, n3, c3, B3, m3, d3, rfl, _⟩ := id hb
 have BB := (bl_trans (bl_trans (bl_trans (bl_alloc w (.cells #[.bool b2, .slice A2 n2 c2, .slice B2 m2 d2] 26)) (bl_alloc _ (.cells #[.bool b3, .slice A3 n3 c3, .slice B3 m3 d3] 26))) (bl_alloc _ (.cells #[.func (Fn.func 61) #[] #[]] 58))) (bl_alloc _ (.cells #[.bool false, .slice none 0 0, .slice none 0 0] 26)))
 have PA := ((Bq.new w b2 A2 n2 c2 B2 m2 d2).alloc (.cells #[.bool b3, .slice A3 n3 c3, .slice B3 m3 d3] 26)).alloc (.cells #[.func (Fn.func 61) #[] #[]] 58)
 have PB := (Bq.new2 w (.cells #[.bool b2, .slice A2 n2 c2, .slice B2 m2 d2] 26) b3 A3 n3 c3 B3 m3 d3).alloc (.cells #[.func (Fn.func 61) #[] #[]] 58)
 have PT := Bf.new3 w (.cells #[.bool b2, .slice A2 n2 c2, .slice B2 m2 d2] 26) (.cells #[.bool b3, .slice A3 n3 c3, .slice B3 m3 d3] 26) (.func (Fn.func 61) #[] #[]) 58
 replace PA := PA.alloc (.cells #[.bool false, .slice none 0 0, .slice none 0 0] 26)
 replace PB := PB.alloc (.cells #[.bool false, .slice none 0 0, .slice none 0 0] 26)
 replace PT := PT.below (bl_alloc _ (.cells #[.bool false, .slice none 0 0, .slice none 0 0] 26))
 have PR := Bq.new4 w (.cells #[.bool b2, .slice A2 n2 c2, .slice B2 m2 d2] 26) (.cells #[.bool b3, .slice A3 n3 c3, .slice B3 m3 d3] 26) (.cells #[.func (Fn.func 61) #[] #[]] 58) false none 0 0 none 0 0
 have HA := Lib.hid (ha.below BB)
 have HB := Lib.hid (hb.below BB)
 have HPB := Lib.hid PB
 have HPT := Lib.hid PT
 clear ha hb PB PT
 have x0 := PA.c0
 have x1 := PA.c1
 have x2 := PA.c2
 go_enter Tryz.func48, Tryz.ntmps48
 go_wp2_with fail
 refine (madeR_ofTwoR1 (q' := (p + q)) (k' := (k + j + 1)) HA.out (by omega) hk1 fun W u hW hsz hu => (two1_Add hu (HPB.out.below hW) (HB.out.below hW) (HPT.out.below hW) hk hj hj1).mono fun e w' r => ?_).mono ?_
 ·exact ansQ_base hsz e w' r
 clear x0 x1 x2 PA HA HB HPB HPT
 rintro e w1 ⟨_, rfl, hb1, q1⟩
 obtain ⟨b1, A1, n1, c1, B1, m1, d1, rfl, _⟩ := id q1
 replace PR := PR.below hb1
 replace BB := bl_trans BB hb1
 have r0 := PR.c0
 have f0 := PR.f 0
 have r1 := PR.c1
 have f1 := PR.f 1
 have r2 := PR.c2
 have f2 := PR.f 2
 clear hb1
 go_wp2_with fail
 exact bodyPost_ret (v := .agg #[.bool b1, .slice A1 n1 c1, .slice B1 m1 d1]) (by simp [results, Tryz.results48, go_sem, *]) rfl (fin_q (N := w.heap.size + 1 + 1 + 1 + 1) (q1.base (by simp)) BB (by omega) (by omega) _ _ _)

set_option maxHeartbeats 4000000 in
theorem cQAdd {w : World} {v v' : Value} {p q : Rat} {k j : Nat} (ha : IsQm w v p k) (hb : IsQm w v' q j) (hk : k ≤ 18) (hj : j ≤ 18) (hk1 : 1 ≤ k) (hj1 : 1 ≤ j) : Calls Tryz.prog 22 #[v, v'] w (Ans w fun w' v => IsQ w.heap.size w' v (p + q) (k + j + 1)) := by
 obtain ⟨b2, A2, n2, c2, B2, m2, d2, rfl, _⟩ := id ha
 obtain ⟨b3, A3, n3, c3, B3, m3, d3, rfl, _⟩ := id hb
 have BB := (bl_trans (bl_trans (bl_alloc w (.cells #[.bool b2, .slice A2 n2 c2, .slice B2 m2 d2] 26)) (bl_alloc _ (.cells #[.bool b3, .slice A3 n3 c3, .slice B3 m3 d3] 26))) (bl_alloc _ (.cells #[.bool false, .slice none 0 0, .slice none 0 0] 26)))
 have PA := (Bq.new w b2 A2 n2 c2 B2 m2 d2).alloc (.cells #[.bool b3, .slice A3 n3 c3, .slice B3 m3 d3] 26)
 have PB := Bq.new2 w (.cells #[.bool b2, .slice A2 n2 c2, .slice B2 m2 d2] 26) b3 A3 n3 c3 B3 m3 d3
 replace PA := PA.alloc (.cells #[.bool false, .slice none 0 0, .slice none 0 0] 26)
 replace PB := PB.alloc (.cells #[.bool false, .slice none 0 0, .slice none 0 0] 26)
 have PR := Bq.new3 w (.cells #[.bool b2, .slice A2 n2 c2, .slice B2 m2 d2] 26) (.cells #[.bool b3, .slice A3 n3 c3, .slice B3 m3 d3] 26) false none 0 0 none 0 0
 have HA := Lib.hid (ha.below BB)
 have HB := Lib.hid (hb.below BB)
 clear ha hb
 have x0 := PA.c0
 have x1 := PA.c1
 have x2 := PA.c2
 have y0 := PB.c0
 have y1 := PB.c1
 have y2 := PB.c2
 go_enter Tryz.func22, Tryz.ntmps22
 go_wp2_with fail
 refine (two0_Add HA.out HB.out hk hj hk1 hj1).mono ?_
 clear x0 x1 x2 y0 y1 y2 PA PB HA HB
 rintro e w1 ⟨_, rfl, hb1, q1⟩
 obtain ⟨b1, A1, n1, c1, B1, m1, d1, rfl, _⟩ := id q1
 replace PR := PR.below hb1
 replace BB := bl_trans BB hb1
 have r0 := PR.c0
 have f0 := PR.f 0
 have r1 := PR.c1
 have f1 := PR.f 1
 have r2 := PR.c2
 have f2 := PR.f 2
 clear hb1
 go_wp2_with fail
 exact bodyPost_ret (v := .agg #[.bool b1, .slice A1 n1 c1, .slice B1 m1 d1]) (by simp [results, Tryz.results22, go_sem, *]) rfl (fin_q (N := w.heap.size + 1 + 1 + 1) (q1.base (by simp)) BB (by omega) (by omega) _ _ _)

set_option maxHeartbeats 4000000 in
theorem two1_Mul {w : World} {v : Value} {p q : Rat} {k j N gb gt : Nat} {b2 : Bool} {A2 B2 : Option Addr} {n2 c2 m2 d2 : Nat} (hp : IsQ N w v p k) (PB : Bq w gb b2 A2 n2 c2 B2 m2 d2) (QB : IsQm w (.agg #[.bool b2, .slice A2 n2 c2, .slice B2 m2 d2]) q j) (PT : Bf w gt (.func (Fn.func 65) #[] #[]) 58) (hk : k ≤ 18) (hj : j ≤ 18) (hj1 : 1 ≤ j) : Calls Tryz.prog 97 #[v, .pointer (some ⟨gb, 0, none⟩), .pointer (some ⟨gt, 0, none⟩)] w (Ans w fun w' v => IsQ w.heap.size w' v (p * q) (k + j)) := by
 have hpt := hp.t
 obtain ⟨b0, A0, n0, c0, B0, m0, d0, rfl, _⟩ := hp
 have PA := (Bq.new w b0 A0 n0 c0 B0 m0 d0).alloc (.cells #[.bool false, .slice none 0 0, .slice none 0 0] 26)
 have PR := Bq.new2 w (.cells #[.bool b0, .slice A0 n0 c0, .slice B0 m0 d0] 26) false none 0 0 none 0 0
 have BB := bl_trans (bl_alloc w (.cells #[.bool b0, .slice A0 n0 c0, .slice B0 m0 d0] 26)) (bl_alloc _ (.cells #[.bool false, .slice none 0 0, .slice none 0 0] 26))
 have HP := Lib.hid (hpt.below BB)
 have HA := Lib.hid PA
 replace PB := PB.below BB
 have HT := Lib.hid (PT.below BB)
 have HB := Lib.hid (QB.below BB)
 clear hpt QB PT PA
 have y0 := PB.c0
 have y1 := PB.c1
 have y2 := PB.c2
 go_enter Tryz.func97, Tryz.ntmps97
 go_wp2_with fail
 refine (madeR_ofTwoR2 (q' := (p * q)) (k' := (k + j)) HB.out (by omega) hj1 fun W u hW hsz hu => (two2_Mul hu (HA.out.below hW) (HP.out.below hW) (HT.out.below hW) hk hj).mono fun e w' r => ?_).mono ?_
 ·exact ansQ_base hsz e w' r
 clear y0 y1 y2 PB HA HB HT HP
 rintro e w1 ⟨_, rfl, hb1, q1⟩
 obtain ⟨b1, A1, n1, c1, B1, m1, d1, rfl, _⟩ := id q1
 replace PR := PR.below hb1
 replace BB := bl_trans BB hb1
 have r0 := PR.c0
 have f0 := PR.f 0
 have r1 := PR.c1
 have f1 := PR.f 1
 have r2 := PR.c2
 have f2 := PR.f 2
 clear hb1
 go_wp2_with fail
 exact bodyPost_ret (v := .agg #[.bool b1, .slice A1 n1 c1, .slice B1 m1 d1]) (by simp [results, Tryz.results97, go_sem, *]) rfl (fin_q (N := w.heap.size + 1 + 1) (q1.base (by simp)) BB (by omega) (by omega) _ _ _)

set_option maxHeartbeats 4000000 in
theorem two0_Mul {w : World} {v v' : Value} {p q : Rat} {k j : Nat} (ha : IsQm w v p k) (hb : IsQm w v' q j) (hk : k ≤ 18) (hj : j ≤ 18) (hk1 : 1 ≤ k) (hj1 : 1 ≤ j) : Calls Tryz.prog 48 #[v, v', .func (Fn.func 65) #[] #[]] w (Ans w fun w' v => IsQ w.heap.size w' v (p * q) (k + j)) := by
 obtain ⟨b2, A2, n2, c2, B2, m2, d2, rfl, _⟩ := id ha
 obtain ⟨b3, A3, n3, c3, B3, m3, d3, rfl, _⟩ := id hb
 have BB := (bl_trans (bl_trans (bl_trans (bl_alloc w (.cells #[.bool b2, .slice A2 n2 c2, .slice B2 m2 d2] 26)) (bl_alloc _ (.cells #[.bool b3, .slice A3 n3 c3, .slice B3 m3 d3] 26))) (bl_alloc _ (.cells #[.func (Fn.func 65) #[] #[]] 58))) (bl_alloc _ (.cells #[.bool false, .slice none 0 0, .slice none 0 0] 26)))
 have PA := ((Bq.new w b2 A2 n2 c2 B2 m2 d2).alloc (.cells #[.bool b3, .slice A3 n3 c3, .slice B3 m3 d3] 26)).alloc (.cells #[.func (Fn.func 65) #[] #[]] 58)
 have PB := (Bq.new2 w (.cells #[.bool b2, .slice A2 n2 c2, .slice B2 m2 d2] 26) b3 A3 n3 c3 B3 m3 d3).alloc (.cells #[.func (Fn.func 65) #[] #[]] 58)
 have PT := Bf.new3 w (.cells #[.bool b2, .slice A2 n2 c2, .slice B2 m2 d2] 26) (.cells #[.bool b3, .slice A3 n3 c3, .slice B3 m3 d3] 26) (.func (Fn.func 65) #[] #[]) 58
 replace PA := PA.alloc (.cells #[.bool false, .slice none 0 0, .slice none 0 0] 26)
 replace PB := PB.alloc (.cells #[.bool false, .slice none 0 0, .slice none 0 0] 26)
 replace PT := PT.below (bl_alloc _ (.cells #[.bool false, .slice none 0 0, .slice none 0 0] 26))
 have PR := Bq.new4 w (.cells #[.bool b2, .slice A2 n2 c2, .slice B2 m2 d2] 26) (.cells #[.bool b3, .slice A3 n3 c3, .slice B3 m3 d3] 26) (.cells #[.func (Fn.func 65) #[] #[]] 58) false none 0 0 none 0 0
 have HA := Lib.hid (ha.below BB)
 have HB := Lib.hid (hb.below BB)
 have HPB := Lib.hid PB
 have HPT := Lib.hid PT
 clear ha hb PB PT
 have x0 := PA.c0
 have x1 := PA.c1
 have x2 := PA.c2
 go_enter Tryz.func48, Tryz.ntmps48
 go_wp2_with fail
 refine (madeR_ofTwoR1 (q' := (p * q)) (k' := (k + j)) HA.out (by omega) hk1 fun W u hW hsz hu => (two1_Mul hu (HPB.out.below hW) (HB.out.below hW) (HPT.out.below hW) hk hj hj1).mono fun e w' r => ?_).mono ?_
 ·exact ansQ_base hsz e w' r
 clear x0 x1 x2 PA HA HB HPB HPT
 rintro e w1 ⟨_, rfl, hb1, q1⟩
 obtain ⟨b1, A1, n1, c1, B1, m1, d1, rfl, _⟩ := id q1
 replace PR := PR.below hb1
 replace BB := bl_trans BB hb1
 have r0 := PR.c0
 have f0 := PR.f 0
 have r1 := PR.c1
 have f1 := PR.f 1
 have r2 := PR.c2
 have f2 := PR.f 2
 clear hb1
 go_wp2_with fail
 exact bodyPost_ret (v := .agg #[.bool b1, .slice A1 n1 c1, .slice B1 m1 d1]) (by simp [results, Tryz.results48, go_sem, *]) rfl (fin_q (N := w.heap.size + 1 + 1 + 1 + 1) (q1.base (by simp)) BB (by omega) (by omega) _ _ _)

set_option maxHeartbeats 4000000 in
theorem cQMul {w : World} {v v' : Value} {p q : Rat} {k j : Nat} (ha : IsQm w v p k) (hb : IsQm w v' q j) (hk : k ≤ 18) (hj : j ≤ 18) (hk1 : 1 ≤ k) (hj1 : 1 ≤ j) : Calls Tryz.prog 26 #[v, v'] w (Ans w fun w' v => IsQ w.heap.size w' v (p * q) (k + j)) := by
 obtain ⟨b2, A2, n2, c2, B2, m2, d2, rfl, _⟩ := id ha
 obtain ⟨b3, A3, n3, c3, B3, m3, d3, rfl, _⟩ := id hb
 have BB := (bl_trans (bl_trans (bl_alloc w (.cells #[.bool b2, .slice A2 n2 c2, .slice B2 m2 d2] 26)) (bl_alloc _ (.cells #[.bool b3, .slice A3 n3 c3, .slice B3 m3 d3] 26))) (bl_alloc _ (.cells #[.bool false, .slice none 0 0, .slice none 0 0] 26)))
 have PA := (Bq.new w b2 A2 n2 c2 B2 m2 d2).alloc (.cells #[.bool b3, .slice A3 n3 c3, .slice B3 m3 d3] 26)
 have PB := Bq.new2 w (.cells #[.bool b2, .slice A2 n2 c2, .slice B2 m2 d2] 26) b3 A3 n3 c3 B3 m3 d3
 replace PA := PA.alloc (.cells #[.bool false, .slice none 0 0, .slice none 0 0] 26)
 replace PB := PB.alloc (.cells #[.bool false, .slice none 0 0, .slice none 0 0] 26)
 have PR := Bq.new3 w (.cells #[.bool b2, .slice A2 n2 c2, .slice B2 m2 d2] 26) (.cells #[.bool b3, .slice A3 n3 c3, .slice B3 m3 d3] 26) false none 0 0 none 0 0
 have HA := Lib.hid (ha.below BB)
 have HB := Lib.hid (hb.below BB)
 clear ha hb
 have x0 := PA.c0
 have x1 := PA.c1
 have x2 := PA.c2
 have y0 := PB.c0
 have y1 := PB.c1
 have y2 := PB.c2
 go_enter Tryz.func26, Tryz.ntmps26
 go_wp2_with fail
 refine (two0_Mul HA.out HB.out hk hj hk1 hj1).mono ?_
 clear x0 x1 x2 y0 y1 y2 PA PB HA HB
 rintro e w1 ⟨_, rfl, hb1, q1⟩
 obtain ⟨b1, A1, n1, c1, B1, m1, d1, rfl, _⟩ := id q1
 replace PR := PR.below hb1
 replace BB := bl_trans BB hb1
 have r0 := PR.c0
 have f0 := PR.f 0
 have r1 := PR.c1
 have f1 := PR.f 1
 have r2 := PR.c2
 have f2 := PR.f 2
 clear hb1
 go_wp2_with fail
 exact bodyPost_ret (v := .agg #[.bool b1, .slice A1 n1 c1, .slice B1 m1 d1]) (by simp [results, Tryz.results26, go_sem, *]) rfl (fin_q (N := w.heap.size + 1 + 1 + 1) (q1.base (by simp)) BB (by omega) (by omega) _ _ _)

set_option maxHeartbeats 4000000 in
theorem cQNeg {w : World} {v : Value} {p : Rat} {k : Nat} (ha : IsQm w v p k) (hk : k ≤ 18) (hk1 : 1 ≤ k) : Calls Tryz.prog 20 #[v] w (Ans w fun w' v => IsQ w.heap.size w' v (-p) k) := by
 obtain ⟨b2, A2, n2, c2, B2, m2, d2, rfl, _⟩ := id ha
 have BB := bl_trans (bl_alloc w (.cells #[.bool b2, .slice A2 n2 c2, .slice B2 m2 d2] 26)) (bl_alloc _ (.cells #[.bool false, .slice none 0 0, .slice none 0 0] 26))
 have PA := (Bq.new w b2 A2 n2 c2 B2 m2 d2).alloc (.cells #[.bool false, .slice none 0 0, .slice none 0 0] 26)
 have PR := Bq.new2 w (.cells #[.bool b2, .slice A2 n2 c2, .slice B2 m2 d2] 26) false none 0 0 none 0 0
 have HA := Lib.hid (ha.below BB)
 clear ha
 have x0 := PA.c0
 have x1 := PA.c1
 have x2 := PA.c2
 go_enter Tryz.func20, Tryz.ntmps20
 go_wp2_with fail
 refine (madeR_rat_Neg__1 (q' := -p) (k' := k) HA.out (by omega) hk1 fun W u hW hsz hu => cNeg1c hu (by omega) hsz).mono ?_
 clear x0 x1 x2 PA HA
 rintro e w1 ⟨_, rfl, hb1, q1⟩
 obtain ⟨b1, A1, n1, c1, B1, m1, d1, rfl, _⟩ := id q1
 replace PR := PR.below hb1
 replace BB := bl_trans BB hb1
 have r0 := PR.c0
 have f0 := PR.f 0
 have r1 := PR.c1
 have f1 := PR.f 1
 have r2 := PR.c2
 have f2 := PR.f 2
 clear hb1
 go_wp2_with fail
 exact bodyPost_ret (v := .agg #[.bool b1, .slice A1 n1 c1, .slice B1 m1 d1]) (by simp [results, Tryz.results20, go_sem, *]) rfl (fin_q (N := w.heap.size + 1 + 1) (q1.base (by simp)) BB (by omega) (by omega) _ _ _)

end Go.Proofs.YtbhgbilhoonopaaGreat
namespace Go.Proofs.YtbhgbilhoonopaaGreat
open Go.RowKit
set_option linter.unusedVariables false
set_option maxRecDepth 100000

theorem floor_dq (p : Rat) : dq p.num ((p.den : Nat) : Int) = p.floor := by
 unfold dq
 rw [if_pos (by have := p.den_pos; omega), Rat.floor_def]
section
variable {w w' : World} {v v' : Value} {p q : Rat} {z u : Int} {k j N : Nat}
set_option maxHeartbeats 2000000

theorem cQFrom (x : Int) (h0 : -9223372036854775808 ≤ x) (h1 : x < 9223372036854775808) : Calls Tryz.prog 43 #[.int .i64 x] w (Ans w fun w' v => IsQ w.heap.size w' v ((x : Int) : Rat) 2) := by
 have PR := Bq.new w false none 0 0 none 0 0
 have BB := bl_alloc w (.cells #[.bool false, .slice none 0 0, .slice none 0 0] 26)
 go_enter Tryz.func43, Tryz.ntmps43
 go_wp2_with fail
 refine (cFrom (N := w.heap.size + 1) x h0 h1 (by simp)).mono ?_
 rintro e w1 ⟨_, rfl, hb1, b1, A1, n1, c1, rfl, Z1⟩
 have hs1 := hb1.size
 simp only [hs_alloc] at hs1
 replace PR := PR.below hb1
 replace BB := bl_trans BB hb1
 clear hb1
 go_wp2_with fail
 refine (cFromD (N := w.heap.size + 1) 1 (by omega) (by omega)).mono ?_
 rintro e w2 ⟨_, rfl, hb2, D, m, d, rfl, O2, l2⟩
 replace Z1 := Z1.below hb2
 replace PR := PR.below hb2
 replace BB := bl_trans BB hb2
 have q2 : IsQ (w.heap.size + 1) w2 (.agg #[.bool b1, .slice A1 n1 c1, .slice D m d]) ((x : Int) : Rat) 2 := isQ_mk (q := ((x : Int) : Rat)) Z1 O2 (by omega)
 have r0 := PR.c0
 have r1 := PR.c1
 have r2 := PR.c2
 have f0 := PR.f 0
 have f1 := PR.f 1
 have f2 := PR.f 2
 clear hb2 Z1 O2
 go_wp2_with fail
 exact bodyPost_ret (v := .agg #[.bool b1, .slice A1 n1 c1, .slice D m d]) (by simp [results, Tryz.results43, go_sem, *]) rfl (fin_q q2 BB (by omega) (by omega) _ _ _)

theorem cQInt (h : IsM w v z k) (hk : k ≤ 900) (hk1 : 1 ≤ k) : Calls Tryz.prog 42 #[v] w (Ans w fun w' v => IsQ w.heap.size w' v ((z : Int) : Rat) k) := by
 obtain ⟨b, A, n, c, rfl, h⟩ := h
 obtain ⟨x, hx, rfl⟩ := h.row
 have PA := (Bz.new w b A n c).alloc (.cells #[.bool false, .slice none 0 0, .slice none 0 0] 26)
 have PR := Bq.new2 w (.cells #[.bool b, .slice A n c] 24) false none 0 0 none 0 0
 have BB := bl_trans (bl_alloc w (.cells #[.bool b, .slice A n c] 24)) (bl_alloc _ (.cells #[.bool false, .slice none 0 0, .slice none 0 0] 26))
 have NX := hx.below BB
 have x0 := PA.c0
 have x1 := PA.c1
 clear h hx
 go_enter Tryz.func42, Tryz.ntmps42
 go_wp2_with fail
 refine (cOf (N := w.heap.size + 2) b NX (by omega) (by simp)).mono ?_
 rintro e w1 ⟨_, rfl, hb1, b1, A1, n1, c1, rfl, Z1⟩
 have hs1 := hb1.size
 simp only [hs_alloc] at hs1
 replace PR := PR.below hb1
 replace BB := bl_trans BB hb1
 clear hb1 x0 x1 NX PA
 go_wp2_with fail
 refine (cFromD (N := w.heap.size + 2) 1 (by omega) (by omega)).mono ?_
 rintro e w2 ⟨_, rfl, hb2, D, m, d, rfl, O2, l2⟩
 replace Z1 := Z1.below hb2
 replace PR := PR.below hb2
 replace BB := bl_trans BB hb2
 have q2 : IsQ (w.heap.size + 2) w2 (.agg #[.bool b1, .slice A1 n1 c1, .slice D m d]) ((zv b x : Int) : Rat) k := isQ_mk (q := ((zv b x : Int) : Rat)) Z1 O2 (by omega)
 have r0 := PR.c0
 have r1 := PR.c1
 have r2 := PR.c2
 have f0 := PR.f 0
 have f1 := PR.f 1
 have f2 := PR.f 2
 clear hb2 Z1 O2
 go_wp2_with fail
 exact bodyPost_ret (v := .agg #[.bool b1, .slice A1 n1 c1, .slice D m d]) (by simp [results, Tryz.results42, go_sem, *]) rfl (fin_q q2 BB (by omega) (by omega) _ _ _)

theorem cFloor1c (h : IsQ N w v p k) (hk : k ≤ 900) : Calls Tryz.prog 75 #[v] w (Ans w fun w' v => IsZ w.heap.size w' v p.floor (k + 1)) := by
 obtain ⟨b2, A2, n2, c2, B2, m2, d2, rfl, Z, O, l⟩ := h
 have PA := (Bq.new w b2 A2 n2 c2 B2 m2 d2).alloc (.cells #[.bool false, .slice none 0 0] 24)
 have PR := Bz.new2 w (.cells #[.bool b2, .slice A2 n2 c2, .slice B2 m2 d2] 26) false none 0 0
 have BB := bl_trans (bl_alloc w (.cells #[.bool b2, .slice A2 n2 c2, .slice B2 m2 d2] 26)) (bl_alloc _ (.cells #[.bool false, .slice none 0 0] 24))
 have ZA : IsM ((w.alloc (.cells #[.bool b2, .slice A2 n2 c2, .slice B2 m2 d2] 26)).alloc (.cells #[.bool false, .slice none 0 0] 24)) (.agg #[.bool b2, .slice A2 n2 c2]) p.num k := ⟨_, _, _, _, rfl, Z.zm.below BB⟩
 have ND : Nm ((w.alloc (.cells #[.bool b2, .slice A2 n2 c2, .slice B2 m2 d2] 26)).alloc (.cells #[.bool false, .slice none 0 0] 24)) B2 m2 d2 p.den k := Nm.below ⟨⟨_, O.rd, M.val_lims _⟩, l⟩ BB
 have HD := Lib.hid (show ((p.den : Nat) : Int) ≠ 0 by have := p.den_pos; omega)
 have HF := Lib.hid (floor_dq p)
 have hs0 : ((w.alloc (.cells #[.bool b2, .slice A2 n2 c2, .slice B2 m2 d2] 26)).alloc (.cells #[.bool false, .slice none 0 0] 24)).heap.size = w.heap.size + 1 + 1 := by simp
 clear Z O l
 go_enter Tryz.func75, Tryz.ntmps75
 go_wp2_with fail
 generalize ((w.alloc (.cells #[.bool b2, .slice A2 n2 c2, .slice B2 m2 d2] 26)).alloc (.cells #[.bool false, .slice none 0 0] 24)) = W0 at PA PR BB ZA ND hs0 ⊢
 refine wp_region_list (Ext := (BelX (W0).heap.size)) (Rel := (BelU (W0).heap.size)) [fun v _ _ => v = .pointer (some ⟨w.heap.size, 0, none⟩), fun v _ _ => v = .agg #[.bool b2, .slice A2 n2 c2], fun v _ _ => v = .pointer (some ⟨w.heap.size, 2, none⟩), fun v _ _ => v = .slice B2 m2 d2, fun v _ _ => v = .agg #[.bool false, .slice B2 m2 d2], fun v _ w => IsZE (W0).heap.size w v (dq p.num ((p.den : Nat) : Int)) (k + 1) 0, fun v _ w => IsZE (W0).heap.size w v (dq p.num ((p.den : Nat) : Int)) (k + 1) 0, fun v _ w => IsZ (W0).heap.size w v (dq p.num ((p.den : Nat) : Int)) (k + 1), fun v _ _ => v = .int .i64 0, fun v _ w => IsP (W0).heap.size v w, fun _ u w => HasZ (W0).heap.size u w (dq p.num ((p.den : Nat) : Int)) (k + 1), fun v _ _ => v = .int .i64 0] (n := 12) (by kernel_rfl) rfl (by kernel_rfl) (by kernel_rfl) (by kernel_rfl) (by kernel_rfl) (by kernel_rfl) (rx_refl _) (rxu_trans _) ⟨sC, ⟨sC, ⟨sC, ⟨sC, ⟨sC, ⟨xZE, ⟨xZE, ⟨xZ, ⟨sC, ⟨xP, ⟨xHZ, ⟨sC, trivial⟩⟩⟩⟩⟩⟩⟩⟩⟩⟩⟩⟩ ?_ ?_
 ·refine ⟨⟨⟨⟨⟨⟨⟨⟨⟨⟨⟨⟨trivial, ?_⟩, ?_⟩, ?_⟩, ?_⟩, ?_⟩, ?_⟩, ?_⟩, ?_⟩, ?_⟩, ?_⟩, ?_⟩, ?_⟩
  ·refine rs_plain rfl rfl fun a wr S => ?_
   have X := undrewX S.ext
   exact wp_qf0 (ev_of ((S.old 1 (by kernel_rfl)).trans rfl)) (done (by kernel_rfl) (rxu_refl _) rfl)
  ·refine rs_plain rfl rfl fun a wr S => ?_
   have X := undrewX S.ext
   obtain ⟨v0, e0, h0⟩ := S.got 0 (by kernel_rfl)
   exact wp_qN ((ev_of (e0 6 (by kernel_rfl))).trans h0) (PA.below X) (done (by kernel_rfl) (rxu_refl _) rfl)
  ·refine rs_plain rfl rfl fun a wr S => ?_
   have X := undrewX S.ext
   exact wp_qf1 (ev_of ((S.old 1 (by kernel_rfl)).trans rfl)) (done (by kernel_rfl) (rxu_refl _) rfl)
  ·refine rs_plain rfl rfl fun a wr S => ?_
   have X := undrewX S.ext
   obtain ⟨v2, e2, h2⟩ := S.got 2 (by kernel_rfl)
   exact wp_qD ((ev_of (e2 8 (by kernel_rfl))).trans h2) (PA.below X) (done (by kernel_rfl) (rxu_refl _) rfl)
  ·refine rs_plain rfl rfl fun a wr S => ?_
   have X := undrewX S.ext
   obtain ⟨v3, e3, h3⟩ := S.got 3 (by kernel_rfl)
   exact st_call cf_rat_unsigned (args1 ((ev_of (e3 9 (by kernel_rfl))).trans h3)) (by kernel_rfl) (rxu _) (cUnsigned _ _ _) (fun _ _ _ h => h)
  ·refine rs_plain rfl rfl fun a wr S => ?_
   have X := undrewX S.ext
   obtain ⟨v1, e1, h1⟩ := S.got 1 (by kernel_rfl)
   obtain ⟨v4, e4, h4⟩ := S.got 4 (by kernel_rfl)
   exact st_call cf_big_Div (args2 ((ev_of (e1 7 (by kernel_rfl))).trans h1) ((ev_of (e4 10 (by kernel_rfl))).trans h4)) (by kernel_rfl) (rxu _) (cDiv (ZA.below X) (unsM (ND.below X)) (by omega) (by omega) HD.out X.size) (fun _ _ _ h => h)
  ·refine rs_plain rfl rfl fun a wr S => ?_
   have X := undrewX S.ext
   obtain ⟨v5, e5, h5⟩ := S.got 5 (by kernel_rfl)
   exact wp_mv (ev_of (e5 11 (by kernel_rfl))) (done (by kernel_rfl) (rxu_refl _) h5)
  ·refine rs_plain rfl rfl fun a wr S => ?_
   have X := undrewX S.ext
   obtain ⟨v6, e6, h6⟩ := S.got 6 (by kernel_rfl)
   obtain ⟨bb, AA, nn, cc, hvv, ZZ⟩ := (show IsZE _ wr _ (dq p.num ((p.den : Nat) : Int)) (k + 1) 0 from h6)
   exact wp_ext0 ((ev_of (e6 5 (by kernel_rfl))).trans hvv) (done (by kernel_rfl) (rxu_refl _) ⟨_, _, _, _, rfl, ZZ⟩)
  ·refine rs_plain rfl rfl fun a wr S => ?_
   have X := undrewX S.ext
   obtain ⟨v6, e6, h6⟩ := S.got 6 (by kernel_rfl)
   obtain ⟨bb, AA, nn, cc, hvv, ZZ⟩ := (show IsZE _ wr _ (dq p.num ((p.den : Nat) : Int)) (k + 1) 0 from h6)
   exact wp_ext1 ((ev_of (e6 5 (by kernel_rfl))).trans hvv) (done (by kernel_rfl) (rxu_refl _) rfl)
  ·refine rs_plain rfl rfl fun a wr S => ?_
   have X := undrewX S.ext
   refine st_alloc X.size (fun _ _ _ h => h) fun j vj u hj hs => ?_
   have hj' : j ∈ [9] := alloc_cases (by kernel_rfl) j hj
   simp only [List.mem_cons, List.not_mem_nil, or_false] at hj'
   subst hj'; exact hs
  ·refine rs_plain rfl rfl fun a wr S => ?_
   have X := undrewX S.ext
   obtain ⟨v9, e9, h9⟩ := S.got 9 (by kernel_rfl)
   obtain ⟨v7, e7, h7⟩ := S.got 7 (by kernel_rfl)
   exact st_storeZ (by kernel_rfl) (by kernel_rfl) (ev_of (e9 3 (by kernel_rfl))) h9 (ev_of (e7 12 (by kernel_rfl))) h7 (fun _ _ _ h => h)
  ·refine rs_plain rfl rfl fun a wr S => ?_
   have X := undrewX S.ext
   obtain ⟨v8, e8, h8⟩ := S.got 8 (by kernel_rfl)
   exact wp_as ((ev_of (e8 13 (by kernel_rfl))).trans h8) (done (by kernel_rfl) (rxu_refl _) rfl)
 ·intro fa w2 hR hv
  replace hR := undrewX hR
  have f0 : fa 0 = .pointer (some ⟨w.heap.size, 0, none⟩) := (hvc (hv 0 (by omega))).elim fun _ h => h
  have f1 : fa 1 = .agg #[.bool b2, .slice A2 n2 c2] := (hvc (hv 1 (by omega))).elim fun _ h => h
  have f2 : fa 2 = .pointer (some ⟨w.heap.size, 2, none⟩) := (hvc (hv 2 (by omega))).elim fun _ h => h
  have f3 : fa 3 = .slice B2 m2 d2 := (hvc (hv 3 (by omega))).elim fun _ h => h
  have f4 : fa 4 = .agg #[.bool false, .slice B2 m2 d2] := (hvc (hv 4 (by omega))).elim fun _ h => h
  have f8 : fa 8 = .int .i64 0 := (hvc (hv 8 (by omega))).elim fun _ h => h
  have f11 : fa 11 = .int .i64 0 := (hvc (hv 11 (by omega))).elim fun _ h => h
  obtain ⟨gr, br, Ar, nr, cr, f9, hgr, Pr, Zr⟩ := (show HasZ _ (fa 9) w2 (dq p.num ((p.den : Nat) : Int)) (k + 1) from hvs (hv 10 (by omega)) (by kernel_rfl))
  simp only [putFn, Act.put, List.setIfInBounds_toArray, List.set_cons_zero, List.set_cons_succ, f0, f1, f2, f3, f4, f8, f11, f9]
  have hs2 := hR.size
  replace PR := PR.below hR
  replace BB := bl_trans BB hR
  rw [HF.out] at Zr
  have q2 : IsZ (w.heap.size + 1 + 1) w2 (.agg #[.bool br, .slice Ar nr cr]) p.floor (k + 1) := ⟨_, _, _, _, rfl, Zr.mono (by omega)⟩
  have s0 := Pr.c0
  have s1 := Pr.c1
  have r0 := PR.c0
  have r1 := PR.c1
  have f0 := PR.f 0
  have f1 := PR.f 1
  clear hR hv Zr PA ZA ND Pr hgr
  go_wp2_with fail
  exact bodyPost_ret (v := .agg #[.bool br, .slice Ar nr cr]) (by simp [results, Tryz.results75, go_sem, *]) rfl (fin_zz q2 BB (by omega) (by omega) _ _)

theorem cQFloor (h : IsQm w v p k) (hk : k ≤ 900) (hk1 : 1 ≤ k) : Calls Tryz.prog 33 #[v] w (Ans w fun w' v => IsZ w.heap.size w' v p.floor (k + 1)) := by
 obtain ⟨b2, A2, n2, c2, B2, m2, d2, rfl, _⟩ := id h
 have PA := (Bq.new w b2 A2 n2 c2 B2 m2 d2).alloc (.cells #[.bool false, .slice none 0 0] 24)
 have PR := Bz.new2 w (.cells #[.bool b2, .slice A2 n2 c2, .slice B2 m2 d2] 26) false none 0 0
 have BB := bl_trans (bl_alloc w (.cells #[.bool b2, .slice A2 n2 c2, .slice B2 m2 d2] 26)) (bl_alloc _ (.cells #[.bool false, .slice none 0 0] 24))
 have HA := Lib.hid (h.below BB)
 have x0 := PA.c0
 have x1 := PA.c1
 have x2 := PA.c2
 clear h
 go_enter Tryz.func33, Tryz.ntmps33
 go_wp2_with fail
 refine (madeZ_rat_Floor__1 (z' := p.floor) (k' := k + 1) HA.out (by omega) hk1 fun W u hW hsz hu => (cFloor1c hu (by omega)).mono fun e w' r => ?_).mono ?_
 ·obtain ⟨v, rfl, hb, b, A, n, c, rfl, Z⟩ := r
  exact ⟨_, rfl, hb, b, A, n, c, rfl, Z.mono hsz⟩
 rintro e w1 ⟨_, rfl, hb1, q1⟩
 obtain ⟨b1, A1, n1, c1, rfl, _⟩ := id q1
 have hs1 := hb1.size
 simp only [hs_alloc] at hs1 q1
 replace PR := PR.below hb1
 replace BB := bl_trans BB hb1
 have r0 := PR.c0
 have r1 := PR.c1
 have f0 := PR.f 0
 have f1 := PR.f 1
 clear hb1 PA x0 x1 x2 HA
 go_wp2_with fail
 exact bodyPost_ret (v := .agg #[.bool b1, .slice A1 n1 c1]) (by simp [results, Tryz.results33, go_sem, *]) rfl (fin_zz q1 BB (by omega) (by omega) _ _)

theorem cQCeil (h : IsQm w v p k) (hk : k ≤ 18) (hk1 : 1 ≤ k) : Calls Tryz.prog 35 #[v] w (Ans w fun w' v => IsZ w.heap.size w' v p.ceil (k + 1)) := by
 obtain ⟨b2, A2, n2, c2, B2, m2, d2, rfl, _⟩ := id h
 have PA := (Bq.new w b2 A2 n2 c2 B2 m2 d2).alloc (.cells #[.bool false, .slice none 0 0] 24)
 have PR := Bz.new2 w (.cells #[.bool b2, .slice A2 n2 c2, .slice B2 m2 d2] 26) false none 0 0
 have BB := bl_trans (bl_alloc w (.cells #[.bool b2, .slice A2 n2 c2, .slice B2 m2 d2] 26)) (bl_alloc _ (.cells #[.bool false, .slice none 0 0] 24))
 have HA := Lib.hid (h.below BB)
 have x0 := PA.c0
 have x1 := PA.c1
 have x2 := PA.c2
 have HC := Lib.hid (Rat.ceil_eq_neg_floor_neg p)
 clear h
 go_enter Tryz.func35, Tryz.ntmps35
 go_wp2_with fail
 refine (cQNeg HA.out hk hk1).mono ?_
 rintro e w1 ⟨_, rfl, hb1, q1⟩
 obtain ⟨b1, A1, n1, c1, B1, m1, d1, rfl, _⟩ := id q1
 have hs1 := hb1.size
 simp only [hs_alloc] at hs1
 replace PR := PR.below hb1
 replace BB := bl_trans BB hb1
 clear hb1 PA x0 x1 x2 HA
 go_wp2_with fail
 refine (cQFloor q1.m (by omega) hk1).mono ?_
 rintro e w2 ⟨_, rfl, hb2, q2⟩
 obtain ⟨b2', A2', n2', c2', rfl, _⟩ := id q2
 have hs2 := hb2.size
 replace PR := PR.below hb2
 replace BB := bl_trans BB hb2
 clear hb2 q1
 go_wp2_with fail
 refine (cNeg (N := w.heap.size + 2) q2.m (by omega) (by omega)).mono ?_
 rw [← HC.out]
 rintro e w3 ⟨_, rfl, hb3, q3⟩
 obtain ⟨b3, A3, n3, c3, rfl, _⟩ := id q3
 replace PR := PR.below hb3
 replace BB := bl_trans BB hb3
 have r0 := PR.c0
 have r1 := PR.c1
 have f0 := PR.f 0
 have f1 := PR.f 1
 clear hb3 q2
 go_wp2_with fail
 exact bodyPost_ret (v := .agg #[.bool b3, .slice A3 n3 c3]) (by simp [results, Tryz.results35, go_sem, *]) rfl (fin_zz q3 BB (by omega) (by omega) _ _)
end

end Go.Proofs.YtbhgbilhoonopaaGreat
namespace Go.Proofs.YtbhgbilhoonopaaGreat
open Go.RowKit
set_option linter.unusedVariables false
set_option maxRecDepth 100000

section
variable {w w' : World} {v v' : Value} {p q : Rat} {z u : Int} {k j N : Nat}
set_option maxHeartbeats 2000000

theorem cQSame {r : Bool} (h : IsQt w v p k) (g : IsQt w v' q j) (hk : k ≤ 1000) (hj : j ≤ 1000) (hr : r = true ↔ p = q) : Calls Tryz.prog 51 #[v, v'] w (Ans w fun _ v => v = .bool r) := by
 obtain ⟨b2, A2, n2, c2, B2, m2, d2, rfl, Tn, hs, Td⟩ := h
 obtain ⟨b3, A3, n3, c3, B3, m3, d3, rfl, Sn, ht, Sd⟩ := g
 have l1 := Tn.le
 have l2 := Td.le
 have l3 := Sn.le
 have l4 := Sd.le
 have BB := bl_trans (bl_alloc w (.cells #[.bool b2, .slice A2 n2 c2, .slice B2 m2 d2] 26)) (bl_alloc _ (.cells #[.bool b3, .slice A3 n3 c3, .slice B3 m3 d3] 26))
 have HN := Lib.hid (Tn.below BB).rd
 have HD := Lib.hid (Td.below BB).rd
 have HN' := Lib.hid (Sn.below BB).rd
 have HD' := Lib.hid (Sd.below BB).rd
 clear Tn Td Sn Sd
 have PA := (Bq.new w b2 A2 n2 c2 B2 m2 d2).alloc (.cells #[.bool b3, .slice A3 n3 c3, .slice B3 m3 d3] 26)
 have PB := Bq.new2 w (.cells #[.bool b2, .slice A2 n2 c2, .slice B2 m2 d2] 26) b3 A3 n3 c3 B3 m3 d3
 by_cases hst : b2 = b3
 ·have hsg : (p.num < 0) ↔ (q.num < 0) := by
   rw [hs, ht] at hst
   simpa using hst
  have e1 := PA.c1
  have e2 := PA.c2
  have g1 := PB.c1
  have g2 := PB.c2
  have e0 := PA.c0
  have g0 := PB.c0
  by_cases hn : p.num = q.num
  ·have HE := Lib.hid (show decide (M.lims p.num.natAbs = M.lims q.num.natAbs) = true from decide_eq_true (by rw [hn]))
   have HF := Lib.hid (show decide (M.lims p.den = M.lims q.den) = r by
    rw [Bool.eq_iff_iff, decide_eq_true_eq, M.lims_inj, hr]
    exact ⟨fun h => Rat.ext hn h, fun h => by rw [h]⟩)
   clear hr
   subst hst
   clear hs ht hsg hn
   cases b2
   all_goals
    go_enter Tryz.func51, Tryz.ntmps51
    go_wp2_with fail
    refine (Same_any _ _ _ _ _ _ _ _ _ HN.out HN'.out (by omega) (by omega)).mono ?_
    rw [HE.out]
    rintro e w1 ⟨rfl, hb1⟩
    replace BB := bl_trans BB hb1
    replace HD := Lib.hid (HD.out.below hb1)
    replace HD' := Lib.hid (HD'.out.below hb1)
    replace PA := PA.below hb1
    replace PB := PB.below hb1
    clear e0 e1 e2 g0 g1 g2
    have e2 := PA.c2
    have g2 := PB.c2
    clear hb1 HN HN'
    go_wp2_with fail
    refine (Same_any _ _ _ _ _ _ _ _ _ HD.out HD'.out (by omega) (by omega)).mono ?_
    rw [HF.out]
    rintro e w2 ⟨rfl, hb2⟩
    replace BB := bl_trans BB hb2
    clear hb2 HD HD' PA PB e2 g2
    go_wp2_with fail
    go_ret
    exact ⟨_, rfl, BB, rfl⟩
  ·have HE := Lib.hid (show decide (M.lims p.num.natAbs = M.lims q.num.natAbs) = false from decide_eq_false (by rw [M.lims_inj]; omega))
   obtain rfl : r = false := Bool.eq_false_iff.2 fun h => hn (by rw [hr.1 h])
   subst hst
   clear hs ht hsg hn hr
   cases b2
   all_goals
    go_enter Tryz.func51, Tryz.ntmps51
    go_wp2_with fail
    refine (Same_any _ _ _ _ _ _ _ _ _ HN.out HN'.out (by omega) (by omega)).mono ?_
    rw [HE.out]
    rintro e w1 ⟨rfl, hb1⟩
    replace BB := bl_trans BB hb1
    clear hb1 HN HN' HD HD' e0 e1 e2 g0 g1 g2 PA PB
    go_wp2_with fail
    go_ret
    exact ⟨_, rfl, BB, rfl⟩
 ·obtain rfl : r = false := Bool.eq_false_iff.2 fun h => hst (by rw [hs, ht, hr.1 h])
  have e0 := PA.c0
  have g0 := PB.c0
  clear hs ht hr HN HN' HD HD'
  cases b2 <;> cases b3
  ·exact absurd rfl hst
  ·clear hst
   go_enter Tryz.func51, Tryz.ntmps51
   go_wp2_with fail
   go_ret
   exact ⟨_, rfl, BB, rfl⟩
  ·clear hst
   go_enter Tryz.func51, Tryz.ntmps51
   go_wp2_with fail
   go_ret
   exact ⟨_, rfl, BB, rfl⟩
  ·exact absurd rfl hst

theorem cSame3 (h : IsQt w v p k) (g : IsQt w v' q j) (hk : k ≤ 1000) (hj : j ≤ 1000) {r : Bool} (hr : r = true ↔ p = q) : Calls Tryz.prog 15 #[v, v'] w (Ans w fun _ v => v = .bool r) := by
 obtain ⟨b2, A2, n2, c2, B2, m2, d2, rfl, y1⟩ := id h
 obtain ⟨b3, A3, n3, c3, B3, m3, d3, rfl, y2⟩ := id g
 clear y1 y2
 have BB := bl_trans (bl_alloc w (.cells #[.bool b2, .slice A2 n2 c2, .slice B2 m2 d2] 26)) (bl_alloc _ (.cells #[.bool b3, .slice A3 n3 c3, .slice B3 m3 d3] 26))
 have PA := (Bq.new w b2 A2 n2 c2 B2 m2 d2).alloc (.cells #[.bool b3, .slice A3 n3 c3, .slice B3 m3 d3] 26)
 have PB := Bq.new2 w (.cells #[.bool b2, .slice A2 n2 c2, .slice B2 m2 d2] 26) b3 A3 n3 c3 B3 m3 d3
 have HA := Lib.hid (h.below BB)
 have HB := Lib.hid (g.below BB)
 have HR := Lib.hid hr
 have e0 := PA.c0
 have e1 := PA.c1
 have e2 := PA.c2
 have g0 := PB.c0
 have g1 := PB.c1
 have g2 := PB.c2
 clear h g hr
 go_enter Tryz.func15, Tryz.ntmps15
 go_wp2_with fail
 refine (cQSame HA.out HB.out hk hj HR.out).mono ?_
 rintro e w1 ⟨_, rfl, hb1, rfl⟩
 replace BB := bl_trans BB hb1
 clear hb1 HA HB PA PB e0 e1 e2 g0 g1 g2
 go_wp2_with fail
 go_ret
 exact ⟨_, rfl, BB, rfl⟩

theorem cSameInt (h : IsT w v z k) (g : IsT w v' u j) (hk : k ≤ 1000) (hj : j ≤ 1000) : Calls Tryz.prog 32 #[v, v'] w (Ans w fun _ v => v = .bool (decide (z = u))) := by
 obtain ⟨s, A, n, c, rfl, T, hb⟩ := h
 obtain ⟨t, B, m, d, rfl, T', hb'⟩ := g
 have hl := T.le
 have hl' := T'.le
 have BB := bl_trans (bl_alloc w (.cells #[.bool s, .slice A n c] 24)) (bl_alloc _ (.cells #[.bool t, .slice B m d] 24))
 by_cases hst : s = t
 ·subst hst
  have HX := Lib.hid (((T.alloc (.cells #[.bool s, .slice A n c] 24)).alloc (.cells #[.bool s, .slice B m d] 24)).rd)
  have HY := Lib.hid (((T'.alloc (.cells #[.bool s, .slice A n c] 24)).alloc (.cells #[.bool s, .slice B m d] 24)).rd)
  have HE := Lib.hid (show decide (M.lims z.natAbs = M.lims u.natAbs) = decide (z = u) by
   rw [decide_eq_decide, M.lims_inj]
   have h1 : (z < 0) ↔ (u < 0) := by
    rw [hb] at hb'
    simpa using hb'
   omega)
  clear T T' hb hb'
  cases s
  all_goals
   go_enter Tryz.func32, Tryz.ntmps32
   go_wp2_with fail
   refine (Same_any _ _ _ _ _ _ _ _ _ HX.out HY.out (by omega) (by omega)).mono ?_
   rw [HE.out]
   rintro e w1 ⟨rfl, hb1⟩
   replace BB := bl_trans BB hb1
   clear hb1 HX HY
   go_wp2_with fail
   go_ret
   exact ⟨_, rfl, BB, rfl⟩
 ·have HE := Lib.hid (show decide (z = u) = false by
   refine decide_eq_false fun e => hst ?_
   rw [hb, hb', e])
  rw [HE.out]
  clear T T' hb hb'
  cases s <;> cases t
  ·exact absurd rfl hst
  ·clear hst
   go_enter Tryz.func32, Tryz.ntmps32
   go_wp2_with fail
   go_ret
   exact ⟨_, rfl, BB, rfl⟩
  ·clear hst
   go_enter Tryz.func32, Tryz.ntmps32
   go_wp2_with fail
   go_ret
   exact ⟨_, rfl, BB, rfl⟩
  ·exact absurd rfl hst

end

end Go.Proofs.YtbhgbilhoonopaaGreat
namespace Go.Proofs.YtbhgbilhoonopaaGreat
open Go.RowKit
set_option linter.unusedVariables false
set_option maxRecDepth 100000

/-- A fraction's text. -/
def txtQ (p : Rat) : List Nat := if p.den = 1 then txtZ p.num else txtZ p.num ++ [47] ++ M.txt p.den
theorem bytes_app (s r : ByteArray) : M.bytes (s ++ r) = M.bytes s ++ M.bytes r := by
 unfold M.bytes
 obtain ⟨⟨a⟩⟩ := s
 obtain ⟨⟨b⟩⟩ := r
 simp
theorem txtZ_len {z : Int} {k : Nat} (hz : z.natAbs < M.R ^ k) : (txtZ z).length ≤ 10 * k + 2 := by
 have h1 := txt_len hz
 by_cases hn : z < 0
 ·rw [txtZ_neg hn, List.length_cons]; omega
 ·rw [txtZ_pos hn]; omega
section
variable {a : Act} {w : World} {K : Act → World → Prop} {Q : Exit → Act → World → Prop} {dst : Option Tmp} {ty : TypeId} {pos : String} {af : Array Edge} {gd : Option (Nat × Bool)} {x y : Operand} {v v' : Value} {l1 l2 : List Nat}
theorem wp_addSS (hx : a.eval x = v) (h1 : IsS v l1) (hy : a.eval y = v') (h2 : IsS v' l2) (n1 : l1.length ≤ 50000) (n2 : l2.length ≤ 50000) (h : ∀ r, IsS r (l1 ++ l2) → K (a.put dst r) w) {T' : TypeId} : Oper.wp Tryz.prog ⟨dst, .binOp .add 9 x y T', ty, pos, af, gd⟩ a w K Q := by
 obtain ⟨s1, rfl, e1⟩ := h1
 obtain ⟨s2, rfl, e2⟩ := h2
 have z1 : s1.size ≤ 50000 := by rw [← M.bytes_len, e1]; exact n1
 have z2 : s2.size ≤ 50000 := by rw [← M.bytes_len, e2]; exact n2
 unfold Oper.wp execOp
 simp only [hx, hy]
 go_simp
 rw [if_neg (by omega)]
 exact h _ ⟨_, rfl, by rw [bytes_app, e1, e2]⟩
end
section
variable {w : World} {v : Value} {p : Rat} {x k N : Nat}
set_option maxHeartbeats 2000000
theorem cTextN (h : IsN w v x k) (hk : k ≤ 1000) : Calls Tryz.prog 85 #[v] w (Ans w fun _ v => IsS v (M.txt x)) := by
 obtain ⟨A, n, c, rfl, h⟩ := h
 refine (textN h hk).mono ?_
 rintro e w' ⟨s, rfl, hs, hb⟩
 exact ⟨_, rfl, hb, s, rfl, hs⟩

theorem cText1c (h : IsQ N w v p k) (hk : k ≤ 900) : Calls Tryz.prog 82 #[v] w (Ans w fun _ v => IsS v (txtQ p)) := by
 have hn := h.t.num_lt
 have hd := h.t.den_lt
 have L1 := txtZ_len hn
 have L2 := txt_len hd
 obtain ⟨b2, A2, n2, c2, B2, m2, d2, rfl, Z, O, l⟩ := h
 have PA := Bq.new w b2 A2 n2 c2 B2 m2 d2
 have BB := bl_alloc w (.cells #[.bool b2, .slice A2 n2 c2, .slice B2 m2 d2] 26)
 have ZA : IsM (w.alloc (.cells #[.bool b2, .slice A2 n2 c2, .slice B2 m2 d2] 26)) (.agg #[.bool b2, .slice A2 n2 c2]) p.num k := ⟨_, _, _, _, rfl, Z.zm.below BB⟩
 have ND : Nm (w.alloc (.cells #[.bool b2, .slice A2 n2 c2, .slice B2 m2 d2] 26)) B2 m2 d2 p.den k := Nm.below ⟨⟨_, O.rd, M.val_lims _⟩, l⟩ BB
 have x0 := PA.c0
 have x1 := PA.c1
 have x2 := PA.c2
 clear Z O l hn hd
 by_cases h1 : p.den = 1
 ·have HX := Lib.hid (show txtQ p = txtZ p.num from if_pos h1)
  have H1 := Lib.hid (show decide (p.den = 1) = true from decide_eq_true h1)
  rw [HX.out]
  clear h1
  go_enter Tryz.func82, Tryz.ntmps82
  go_wp2_with fail
  refine (cIsOne ⟨_, _, _, rfl, ND⟩ (by omega)).mono ?_
  rw [H1.out]
  rintro e w1 ⟨_, rfl, hb1, rfl⟩
  replace BB := bl_trans BB hb1
  replace PA := PA.below hb1
  replace ZA := ZA.below hb1
  clear hb1 x0 x1 x2 ND
  have x0 := PA.c0
  have x1 := PA.c1
  go_wp2_with fail
  refine (cText ZA (by omega)).mono ?_
  rintro e w2 ⟨_, rfl, hb2, hs⟩
  replace BB := bl_trans BB hb2
  obtain ⟨s, rfl, hs⟩ := hs
  have HS := Lib.hid hs
  clear hb2 x0 x1 ZA PA hs
  go_wp2_with fail
  go_ret
  exact ⟨_, rfl, BB, s, rfl, HS.out⟩
 ·have HX := Lib.hid (show txtQ p = txtZ p.num ++ [47] ++ M.txt p.den from if_neg h1)
  have H1 := Lib.hid (show decide (p.den = 1) = false from decide_eq_false h1)
  rw [HX.out]
  clear h1
  go_enter Tryz.func82, Tryz.ntmps82
  go_wp2_with fail
  refine (cIsOne ⟨_, _, _, rfl, ND⟩ (by omega)).mono ?_
  rw [H1.out]
  rintro e w1 ⟨_, rfl, hb1, rfl⟩
  replace BB := bl_trans BB hb1
  replace PA := PA.below hb1
  replace ZA := ZA.below hb1
  replace ND := ND.below hb1
  clear hb1 x0 x1 x2
  go_wp2_with fail
  refine wp_region_list (Ext := RB) (Rel := RBu) [fun v _ _ => v = .pointer (some ⟨w.heap.size, 0, none⟩), fun v _ _ => v = .agg #[.bool b2, .slice A2 n2 c2], fun v _ _ => IsS v (txtZ p.num), fun v _ _ => IsS v (txtZ p.num ++ [47]), fun v _ _ => v = .pointer (some ⟨w.heap.size, 2, none⟩), fun v _ _ => v = .slice B2 m2 d2, fun v _ _ => IsS v (M.txt p.den), fun v _ _ => IsS v (txtZ p.num ++ [47] ++ M.txt p.den), fun v _ _ => IsS v (txtZ p.num ++ [47] ++ M.txt p.den)] (n := 9) (by kernel_rfl) rfl (by kernel_rfl) (by kernel_rfl) (by kernel_rfl) (by kernel_rfl) (by kernel_rfl) rb_refl rb_trans ⟨sC, ⟨sC, ⟨sS, ⟨sS, ⟨sC, ⟨sC, ⟨sS, ⟨sS, ⟨sS, trivial⟩⟩⟩⟩⟩⟩⟩⟩⟩ ?_ ?_
  ·refine ⟨⟨⟨⟨⟨⟨⟨⟨⟨trivial, ?_⟩, ?_⟩, ?_⟩, ?_⟩, ?_⟩, ?_⟩, ?_⟩, ?_⟩, ?_⟩
   ·refine rs_plain rfl rfl fun a wr S => ?_
    have X := undrew S.ext
    exact wp_qf0 (ev_of ((S.old 1 (by kernel_rfl)).trans rfl)) (done (by kernel_rfl) rbu_refl rfl)
   ·refine rs_plain rfl rfl fun a wr S => ?_
    have X := undrew S.ext
    obtain ⟨v0, e0, h0⟩ := S.got 0 (by kernel_rfl)
    exact wp_qN ((ev_of (e0 9 (by kernel_rfl))).trans h0) (PA.below X) (done (by kernel_rfl) rbu_refl rfl)
   ·refine rs_plain rfl rfl fun a wr S => ?_
    have X := undrew S.ext
    obtain ⟨v1, e1, h1⟩ := S.got 1 (by kernel_rfl)
    exact st_call cf_big_Text (args1 ((ev_of (e1 10 (by kernel_rfl))).trans h1)) (by kernel_rfl) rb (cText (ZA.below X) (by omega)) (fun _ _ _ h => h)
   ·refine rs_plain rfl rfl fun a wr S => ?_
    have X := undrew S.ext
    obtain ⟨v2, e2, h2⟩ := S.got 2 (by kernel_rfl)
    exact wp_addSS (ev_of (e2 11 (by kernel_rfl))) (show IsS _ _ from h2) rfl (show IsS _ [47] from ⟨_, rfl, rfl⟩) (by first | omega | (simp only [List.length_append, List.length_cons, List.length_nil]; omega)) (by first | omega | (simp only [List.length_cons, List.length_nil]; omega)) (fun r hr => done (by kernel_rfl) rbu_refl hr)
   ·refine rs_plain rfl rfl fun a wr S => ?_
    have X := undrew S.ext
    exact wp_qf1 (ev_of ((S.old 1 (by kernel_rfl)).trans rfl)) (done (by kernel_rfl) rbu_refl rfl)
   ·refine rs_plain rfl rfl fun a wr S => ?_
    have X := undrew S.ext
    obtain ⟨v4, e4, h4⟩ := S.got 4 (by kernel_rfl)
    exact wp_qD ((ev_of (e4 13 (by kernel_rfl))).trans h4) (PA.below X) (done (by kernel_rfl) rbu_refl rfl)
   ·refine rs_plain rfl rfl fun a wr S => ?_
    have X := undrew S.ext
    obtain ⟨v5, e5, h5⟩ := S.got 5 (by kernel_rfl)
    exact st_call cf_nat_Text (args1 ((ev_of (e5 14 (by kernel_rfl))).trans h5)) (by kernel_rfl) rb (cTextN ⟨_, _, _, rfl, ND.below X⟩ (by omega)) (fun _ _ _ h => h)
   ·refine rs_plain rfl rfl fun a wr S => ?_
    have X := undrew S.ext
    obtain ⟨v3, e3, h3⟩ := S.got 3 (by kernel_rfl)
    obtain ⟨v6, e6, h6⟩ := S.got 6 (by kernel_rfl)
    exact wp_addSS (ev_of (e3 12 (by kernel_rfl))) (show IsS _ _ from h3) (ev_of (e6 15 (by kernel_rfl))) (show IsS _ _ from h6) (by first | omega | (simp only [List.length_append, List.length_cons, List.length_nil]; omega)) (by first | omega | (simp only [List.length_cons, List.length_nil]; omega)) (fun r hr => done (by kernel_rfl) rbu_refl hr)
   ·refine rs_plain rfl rfl fun a wr S => ?_
    have X := undrew S.ext
    obtain ⟨v7, e7, h7⟩ := S.got 7 (by kernel_rfl)
    exact wp_as (ev_of (e7 16 (by kernel_rfl))) (done (by kernel_rfl) rbu_refl h7)
  ·intro fa w2 hR hv
   replace hR := undrew hR
   have f0 : fa 0 = .pointer (some ⟨w.heap.size, 0, none⟩) := (hvc (hv 0 (by omega))).elim fun _ h => h
   have f1 : fa 1 = .agg #[.bool b2, .slice A2 n2 c2] := (hvc (hv 1 (by omega))).elim fun _ h => h
   have f4 : fa 4 = .pointer (some ⟨w.heap.size, 2, none⟩) := (hvc (hv 4 (by omega))).elim fun _ h => h
   have f5 : fa 5 = .slice B2 m2 d2 := (hvc (hv 5 (by omega))).elim fun _ h => h
   obtain ⟨st, f8, hst⟩ := (show IsS _ _ from (hvc (hv 8 (by omega))).elim fun _ h => h)
   simp only [putFn, Act.put, List.setIfInBounds_toArray, List.set_cons_zero, List.set_cons_succ, f0, f1, f4, f5, f8]
   have HST := Lib.hid hst
   replace BB := bl_trans BB hR
   clear hR hv hst PA ZA ND
   go_wp2_with fail
   go_ret
   exact ⟨_, rfl, BB, st, rfl, HST.out⟩

theorem cQText (h : IsQm w v p k) (hk : k ≤ 900) (hk1 : 1 ≤ k) : Calls Tryz.prog 37 #[v] w (Ans w fun _ v => IsS v (txtQ p)) := by
 obtain ⟨b2, A2, n2, c2, B2, m2, d2, rfl, yy⟩ := id h
 clear yy
 have PA := Bq.new w b2 A2 n2 c2 B2 m2 d2
 have BB := bl_alloc w (.cells #[.bool b2, .slice A2 n2 c2, .slice B2 m2 d2] 26)
 have HA := Lib.hid (h.below BB)
 have x0 := PA.c0
 have x1 := PA.c1
 have x2 := PA.c2
 clear h
 go_enter Tryz.func37, Tryz.ntmps37
 go_wp2_with fail
 refine (madeS_rat_Text__1 (Post := fun v => IsS v (txtQ p)) HA.out (by omega) hk1 fun W u hW hsz hu => cText1c hu (by omega)).mono ?_
 rintro e w1 ⟨_, rfl, hb1, hs⟩
 obtain ⟨s, rfl, hs⟩ := hs
 have HS := Lib.hid hs
 replace BB := bl_trans BB hb1
 clear hb1 PA x0 x1 x2 HA hs
 go_wp2_with fail
 go_ret
 exact ⟨_, rfl, BB, s, rfl, HS.out⟩
end

end Go.Proofs.YtbhgbilhoonopaaGreat
namespace Go.Proofs.YtbhgbilhoonopaaGreat
open Go.RowKit
set_option linter.unusedVariables false
set_option maxRecDepth 100000

set_option maxHeartbeats 1000000 in
theorem equal_any (A : Option Addr) (n c : Nat) (xs : List Nat) (B : Option Addr) (m d : Nat) (ys : List Nat) (w : World) (h : Rd w A n c xs) (k : Rd w B m d ys) (hm : n ≤ 4194304) (hm' : m ≤ 4194304) :
  Calls Tryz.prog 56 #[.slice A n c, .slice B m d] w fun e w' => e = .returned (.bool (decide (xs = ys))) ∧ Below w.heap.size w w' := by
 have H := Lib.hid h
 have K := Lib.hid k
 clear h k
 by_cases hnm : n = m
 ·have hne : (((n : Nat) : Int) != (m : Int)) = false := by simp [hnm]
  subst hnm
  go_enter Tryz.func56, Tryz.ntmps56
  go_wp2
  go_loopw [13] (fun i wr => ∃ k : Nat, k ≤ n ∧ i = .int .i64 k ∧ xs.take k = ys.take k ∧ Below w.heap.size w wr) (fun i _ => n - (intOf i).toNat)
  case atStart => exact ⟨0, Nat.zero_le _, rfl, rfl, Below.refl _ _⟩
  case round =>
   obtain ⟨k, hk, rfl, ht, hb⟩ := hrel
   have HT := Lib.hid ht
   have HB := Lib.hid hb
   clear ht hb
   by_cases hkn : k < n
   ·obtain ⟨b, o, x, hA, hx, hxl, hcell⟩ := (H.out.below HB.out).at32 hkn
    obtain ⟨b', o', y, hA', hy, hyl, hcell'⟩ := (K.out.below HB.out).at32 hkn
    subst hA hA'
    have HX := Lib.hid hx
    have HY := Lib.hid hy
    clear hx hy
    by_cases hxy : x = y
    ·have hne2 : ((x : Int) != (y : Int)) = false := by simp [hxy]
     go_wp2
     go_quiet (fail)
     go_wp2
     go_roundw
     case rel => exact ⟨k + 1, by omega, by go_num, take_snoc_eq HT.out HX.out HY.out hxy, below_drewN HB.out _⟩
     case measure => simp [intOf]; omega
    ·have hne2 : ((x : Int) != (y : Int)) = true := by simp; omega
     go_wp2
     go_quiet (fail)
     go_wp2
     go_ret
     refine ⟨ret_bool ?_, below_drewN HB.out _⟩
     symm
     rw [decide_eq_false_iff_not]
     intro e
     rw [e, HY.out] at HX
     exact hxy (Option.some.inj HX.out).symm
   ·go_wp2
    go_ret
    refine ⟨ret_bool ?_, HB.out⟩
    symm
    rw [decide_eq_true_iff]
    have h1 := HT.out
    rw [List.take_of_length_le (by rw [H.out.len]; omega), List.take_of_length_le (by rw [K.out.len]; omega)] at h1
    exact h1
 ·have hne : (((n : Nat) : Int) != (m : Int)) = true := by simp; omega
  go_enter Tryz.func56, Tryz.ntmps56
  go_wp2
  go_ret
  refine ⟨ret_bool ?_, Below.refl _ _⟩
  symm
  rw [decide_eq_false_iff_not]
  intro e
  exact hnm (by rw [← H.out.len, ← K.out.len, e])

/-- Limbs and a sign that are those of a right fraction. -/
def RightQ (b : Bool) (xs ys : List Nat) (q : Rat) : Prop := b = decide (q.num < 0) ∧ xs = M.lims q.num.natAbs ∧ ys = M.lims q.den

section
variable {w w' : World} {v v' : Value} {p q : Rat} {z u : Int} {k j N : Nat}
set_option maxHeartbeats 2000000

theorem cRight1c {r : Bool} {ga : Nat} {b2 : Bool} {A2 B2 : Option Addr} {n2 c2 m2 d2 : Nat} {xs ys : List Nat} (h : IsQ N w v q k) (PA : Bq w ga b2 A2 n2 c2 B2 m2 d2) (hx : Rd w A2 n2 c2 xs) (hy : Rd w B2 m2 d2 ys) (hn : n2 ≤ 1000) (hm : m2 ≤ 1000) (hk : k ≤ 1000) (hr : r = true ↔ RightQ b2 xs ys q) : Calls Tryz.prog 55 #[v, .pointer (some ⟨ga, 0, none⟩)] w (Ans w fun _ v => v = .bool r) := by
 obtain ⟨b3, A3, n3, c3, B3, m3, d3, rfl, Z, O, l⟩ := h
 have l1 := Z.le
 have hs := Z.neg
 have BB := bl_alloc w (.cells #[.bool b3, .slice A3 n3 c3, .slice B3 m3 d3] 26)
 have HX := Lib.hid (hx.below BB)
 have HY := Lib.hid (hy.below BB)
 have HN := Lib.hid (Z.tm.below BB).rd
 have HD := Lib.hid (OwK.rd (O.below BB))
 replace PA := PA.below BB
 have PB := Bq.new w b3 A3 n3 c3 B3 m3 d3
 clear Z O hx hy
 unfold RightQ at hr
 by_cases hst : b2 = b3
 ·have e0 := PA.c0
  have e1 := PA.c1
  have e2 := PA.c2
  have g0 := PB.c0
  have g1 := PB.c1
  have g2 := PB.c2
  by_cases he : xs = M.lims q.num.natAbs
  ·have HE := Lib.hid (show decide (xs = M.lims q.num.natAbs) = true from decide_eq_true he)
   have HF := Lib.hid (show decide (ys = M.lims q.den) = r by
    rw [Bool.eq_iff_iff, decide_eq_true_eq, hr]
    exact ⟨fun h => ⟨by rw [hst, hs], he, h⟩, fun h => h.2.2⟩)
   subst hst
   clear hs he hr
   cases b2
   all_goals
    go_enter Tryz.func55, Tryz.ntmps55
    go_wp2_with fail
    refine (equal_any _ _ _ _ _ _ _ _ _ HX.out HN.out (by omega) (by omega)).mono ?_
    rw [HE.out]
    rintro e w1 ⟨rfl, hb1⟩
    replace BB := bl_trans BB hb1
    replace HY := Lib.hid (HY.out.below hb1)
    replace HD := Lib.hid (HD.out.below hb1)
    replace PA := PA.below hb1
    replace PB := PB.below hb1
    clear e0 e1 e2 g0 g1 g2
    have e2 := PA.c2
    have g2 := PB.c2
    clear hb1 HX HN
    go_wp2_with fail
    refine (equal_any _ _ _ _ _ _ _ _ _ HY.out HD.out (by omega) (by omega)).mono ?_
    rw [HF.out]
    rintro e w2 ⟨rfl, hb2⟩
    replace BB := bl_trans BB hb2
    clear hb2 HY HD PA PB e2 g2
    go_wp2_with fail
    go_ret
    exact ⟨_, rfl, BB, rfl⟩
  ·have HE := Lib.hid (show decide (xs = M.lims q.num.natAbs) = false from decide_eq_false he)
   obtain rfl : r = false := Bool.eq_false_iff.2 fun h => he (hr.1 h).2.1
   subst hst
   clear hs he hr
   cases b2
   all_goals
    go_enter Tryz.func55, Tryz.ntmps55
    go_wp2_with fail
    refine (equal_any _ _ _ _ _ _ _ _ _ HX.out HN.out (by omega) (by omega)).mono ?_
    rw [HE.out]
    rintro e w1 ⟨rfl, hb1⟩
    replace BB := bl_trans BB hb1
    clear hb1 HX HN HY HD e0 e1 e2 g0 g1 g2 PA PB
    go_wp2_with fail
    go_ret
    exact ⟨_, rfl, BB, rfl⟩
 ·obtain rfl : r = false := Bool.eq_false_iff.2 fun h => hst (by rw [(hr.1 h).1, hs])
  have e0 := PA.c0
  have g0 := PB.c0
  clear hs hr HX HN HY HD
  cases b2 <;> cases b3
  ·exact absurd rfl hst
  ·clear hst
   go_enter Tryz.func55, Tryz.ntmps55
   go_wp2_with fail
   go_ret
   exact ⟨_, rfl, BB, rfl⟩
  ·clear hst
   go_enter Tryz.func55, Tryz.ntmps55
   go_wp2_with fail
   go_ret
   exact ⟨_, rfl, BB, rfl⟩
  ·exact absurd rfl hst

theorem cQRightR {r : Bool} {b2 : Bool} {A2 B2 : Option Addr} {n2 c2 m2 d2 : Nat} {xs ys : List Nat} (hx : Rd w A2 n2 c2 xs) (hy : Rd w B2 m2 d2 ys) (hn : n2 ≤ 900) (hm : m2 ≤ 900) (hr : r = true ↔ RightQ b2 xs ys (mkRat (zv b2 (M.val xs)) (dOf (M.val ys)))) : Calls Tryz.prog 18 #[.agg #[.bool b2, .slice A2 n2 c2, .slice B2 m2 d2]] w (Ans w fun _ v => v = .bool r) := by
 have BB := bl_alloc w (.cells #[.bool b2, .slice A2 n2 c2, .slice B2 m2 d2] 26)
 have PA := Bq.new w b2 A2 n2 c2 B2 m2 d2
 have HX := Lib.hid (hx.below BB)
 have HY := Lib.hid (hy.below BB)
 have HP := Lib.hid PA
 have HR := Lib.hid hr
 have x0 := PA.c0
 have x1 := PA.c1
 have x2 := PA.c2
 clear hx hy PA hr
 go_enter Tryz.func18, Tryz.ntmps18
 go_wp2_with fail
 refine (madeB_rat_Right__1 (k := 900) (Post := fun v => v = .bool r) ⟨_, _, _, _, _, _, _, rfl, _, _, ⟨⟨_, ⟨⟨_, HX.out, rfl⟩, hn⟩, rfl⟩⟩, ⟨⟨_, HY.out, rfl⟩, hm⟩, rfl⟩ (by omega) (by omega) fun W u hW hsz hu => cRight1c hu (HP.out.below hW) (HX.out.below hW) (HY.out.below hW) (by omega) (by omega) (by omega) HR.out).mono ?_
 rintro e w1 ⟨_, rfl, hb1, rfl⟩
 replace BB := bl_trans BB hb1
 clear hb1 x0 x1 x2 HX HY HP HR
 go_wp2_with fail
 go_ret
 exact ⟨_, rfl, BB, rfl⟩
/-- A right one is right. -/
theorem cQRight (h : IsQt w v q k) (hk : k ≤ 900) : Calls Tryz.prog 18 #[v] w (Ans w fun _ v => v = .bool true) := by
 obtain ⟨b2, A2, n2, c2, B2, m2, d2, rfl, Tn, hs, Td⟩ := h
 have l1 := Tn.le
 have l2 := Td.le
 refine cQRightR Tn.rd Td.rd (by omega) (by omega) ⟨fun _ => ?_, fun _ => rfl⟩
 have e : mkRat (zv b2 (M.val (M.lims q.num.natAbs))) (dOf (M.val (M.lims q.den))) = q := by
  rw [M.val_lims, M.val_lims, dOf_of q.den_nz, hs]
  have : zv (decide (q.num < 0)) q.num.natAbs = q.num := by
   by_cases h : q.num < 0
   ·rw [decide_eq_true h, zv_true]; omega
   ·rw [decide_eq_false h, zv_false]; omega
  rw [this, Rat.mkRat_self]
 rw [e]
 exact ⟨hs, rfl, rfl⟩
end

end Go.Proofs.YtbhgbilhoonopaaGreat
namespace Go.Proofs.YtbhgbilhoonopaaGreat
open Go.RowKit
set_option linter.unusedVariables false
set_option maxRecDepth 100000

theorem ib_no : ∀ L : List UInt8, 47 ∉ L.map UInt8.toNat → Lib.indexByte L 47 = -1
 | [], _ => rfl
 | b :: L, h => by
  rw [List.map_cons, List.mem_cons, not_or] at h
  have hb : (b == 47) = false := by
   rw [beq_eq_false_iff_ne]
   intro e
   exact h.1 (by rw [e]; rfl)
  unfold Lib.indexByte
  rw [hb, ib_no L h.2]
  rfl
theorem ib_yes : ∀ (L : List UInt8) (l1 l2 : List Nat), L.map UInt8.toNat = l1 ++ 47 :: l2 → 47 ∉ l1 → Lib.indexByte L 47 = l1.length
 | [], l1, l2, h, _ => by simp at h
 | b :: L, [], l2, h, _ => by
  rw [List.map_cons, List.nil_append, List.cons.injEq] at h
  have hb : b = 47 := UInt8.toNat_inj.1 (by rw [h.1]; rfl)
  subst hb
  rfl
 | b :: L, x :: l1, l2, h, hn => by
  rw [List.map_cons, List.cons_append, List.cons.injEq] at h
  rw [List.mem_cons, not_or] at hn
  have hb : (b == 47) = false := by
   rw [beq_eq_false_iff_ne]
   intro e
   refine hn.1 ?_
   rw [← h.1, e]
   rfl
  have ih := ib_yes L l1 l2 h.2 hn.2
  unfold Lib.indexByte
  rw [hb, ih]
  have : ((l1.length : Int) == -1) = false := by
   rw [beq_eq_false_iff_ne]
   omega
  rw [this]
  simp
theorem bytes_map (s : ByteArray) : M.bytes s = s.data.toList.map UInt8.toNat := rfl

set_option maxHeartbeats 1000000 in
theorem indexByte_any (s : ByteArray) (w : World) : Calls Tryz.prog 159 #[.string s, .int .u8 47] w (Ans w fun _ v => v = .int .i64 (Lib.indexByte s.data.toList 47)) := by
 go_enter Tryz.func159, Tryz.ntmps159
 go_wp2
 rw [run_callFunc_extern Tryz.func167 (by kernel_rfl) (by kernel_rfl) (by kernel_rfl) (e := Extern.BytealgIndexByte.indexByte) (by kernel_rfl), Lib.run_indexByteString]
 simp only [Result.andThen]
 rw [Oper.upon_value]
 go_wp2
 go_ret
 exact ⟨_, rfl, Below.refl _ _, rfl⟩

set_option maxHeartbeats 2000000 in
theorem index_any (s : ByteArray) (hs : s.size ≤ 1048576) (w : World) {i : Int} (hi : Lib.indexByte s.data.toList 47 = i) : Calls Tryz.prog 150 #[.string s, .string ⟨#[47]⟩] w (Ans w fun _ v => v = .int .i64 i) := by
 by_cases h1 : s = ⟨#[47]⟩
 ·subst h1
  have h0 : i = 0 := by rw [← hi]; rfl
  subst h0
  clear hi
  go_enter Tryz.func150, Tryz.ntmps150
  go_wp2
  go_ret
  exact ⟨_, rfl, Below.refl _ _, rfl⟩
 ·have hne : (([47] : List UInt8) == s.toList) = false := by
   rw [beq_eq_false_iff_ne]
   intro e
   rw [Lib.toList_data] at e
   refine h1 (ByteArray.ext ?_)
   rw [← Array.toList_inj, ← e]
  have HI := Lib.hid hi
  clear hi h1
  go_enter Tryz.func150, Tryz.ntmps150
  go_wp2_with fail
  have hc : (({ data := #[47] } : ByteArray)[0].toNat : Int) = 47 := rfl
  rw [hc]
  refine (indexByte_any s w).mono ?_
  rw [HI.out]
  rintro e w1 ⟨_, rfl, hb1, rfl⟩
  go_wp2_with fail
  go_ret
  exact ⟨_, rfl, hb1, rfl⟩

theorem bytes_take (s : ByteArray) {l1 l2 : List Nat} (h : M.bytes s = l1 ++ 47 :: l2) : M.bytes (s.extract 0 l1.length) = l1 ∧ M.bytes (s.extract (l1.length + 1) s.size) = l2 := by
 constructor
 ·rw [M.bytes_extract, h, Nat.sub_zero, List.drop_zero, List.take_left]
 ·rw [M.bytes_tail, h, show l1 ++ 47 :: l2 = (l1 ++ [47]) ++ l2 by simp, List.drop_left' (by simp)]

set_option maxHeartbeats 2000000 in
theorem lcut_no (s : ByteArray) (hs : s.size ≤ 1048576) (w : World) (h : 47 ∉ M.bytes s) : Calls Tryz.prog 125 #[.string s, .string ⟨#[47]⟩] w (Ans w fun _ v => v = .tuple #[.string s, .string ⟨#[]⟩, .bool false]) := by
 have hi := ib_no s.data.toList h
 have HI := Lib.hid (index_any s hs w hi)
 clear hi h
 go_enter Tryz.func125, Tryz.ntmps125
 go_wp2_with fail
 refine HI.out.mono ?_
 rintro e w1 ⟨_, rfl, hb1, rfl⟩
 go_wp2_with fail
 go_ret3
 exact ⟨_, rfl, hb1, rfl⟩
set_option maxHeartbeats 2000000 in
theorem scut_no (s : ByteArray) (hs : s.size ≤ 1048576) (w : World) (h : 47 ∉ M.bytes s) : Calls Tryz.prog 92 #[.string s, .string ⟨#[47]⟩] w (Ans w fun _ v => v = .tuple #[.string s, .string ⟨#[]⟩, .bool false]) := by
 have HI := Lib.hid (lcut_no s hs w h)
 clear h
 go_enter Tryz.func92, Tryz.ntmps92
 go_wp2_with fail
 refine HI.out.mono ?_
 rintro e w1 ⟨_, rfl, hb1, rfl⟩
 go_wp2_with fail
 go_ret3
 exact ⟨_, rfl, hb1, rfl⟩
set_option maxHeartbeats 2000000 in
theorem lcut_yes (s : ByteArray) (hs : s.size ≤ 1048576) (w : World) {l1 l2 : List Nat} (h : M.bytes s = l1 ++ 47 :: l2) (hn : 47 ∉ l1) : Calls Tryz.prog 125 #[.string s, .string ⟨#[47]⟩] w (Ans w fun _ v => v = .tuple #[.string (s.extract 0 l1.length), .string (s.extract (l1.length + 1) s.size), .bool true]) := by
 have hi := ib_yes s.data.toList l1 l2 h hn
 have hl : l1.length + 1 ≤ s.size := by rw [← M.bytes_len, h]; simp
 have HI := Lib.hid (index_any s hs w hi)
 clear hi h
 generalize l1.length = i at HI hl ⊢
 go_enter Tryz.func125, Tryz.ntmps125
 go_wp2_with fail
 refine HI.out.mono ?_
 rintro e w1 ⟨_, rfl, hb1, rfl⟩
 have i1 : (i : Int) + 1 ≤ (s.size : Int) := by omega
 go_wp2
 go_quiet (fail)
 go_wp2
 go_ret3
 exact ⟨_, rfl, below_drewN hb1 _, rfl⟩
set_option maxHeartbeats 2000000 in
theorem scut_yes (s : ByteArray) (hs : s.size ≤ 1048576) (w : World) {l1 l2 : List Nat} (h : M.bytes s = l1 ++ 47 :: l2) (hn : 47 ∉ l1) : Calls Tryz.prog 92 #[.string s, .string ⟨#[47]⟩] w (Ans w fun _ v => v = .tuple #[.string (s.extract 0 l1.length), .string (s.extract (l1.length + 1) s.size), .bool true]) := by
 have HI := Lib.hid (lcut_yes s hs w h hn)
 clear h
 go_enter Tryz.func92, Tryz.ntmps92
 go_wp2_with fail
 refine HI.out.mono ?_
 rintro e w1 ⟨_, rfl, hb1, rfl⟩
 go_wp2_with fail
 go_ret3
 exact ⟨_, rfl, hb1, rfl⟩

end Go.Proofs.YtbhgbilhoonopaaGreat
namespace Go.Proofs.YtbhgbilhoonopaaGreat
open Go.RowKit
set_option linter.unusedVariables false
set_option maxRecDepth 100000

/-- All older blocks but one stay. -/
structure BlE (ge : Nat) (w w' : World) : Prop where
 os : w'.os = w.os
 tape : w'.tape = w.tape
 output : w'.output = w.output
 size : w.heap.size ≤ w'.heap.size
 block : ∀ i, i < w.heap.size → i ≠ ge → w'.heap[i]? = w.heap[i]?
def AnsE (ge : Nat) (w : World) (Post : World → Value → Prop) (e : Ending) (w' : World) : Prop := ∃ v, e = .returned v ∧ BlE ge w w' ∧ Post w' v
/-- The error's variable. -/
structure Be (w : World) (ge : Nat) (o : Int) : Prop where
 row : w.heap[ge]? = some (.cells #[.int .i64 o] 28 (0, 0))
section
variable {w w' w2 : World} {ge g : Nat} {o : Int} {b : Bool} {A B : Option Addr} {n c m d : Nat}
theorem BlE.of (h : Below w.heap.size w w') (k : BlE ge w' w2) : BlE ge w w2 :=
 ⟨k.os.trans h.os, k.tape.trans h.tape, k.output.trans h.output, Nat.le_trans h.size k.size, fun i hi hne => (k.block i (Nat.lt_of_lt_of_le hi h.size) hne).trans (h.block i hi)⟩
theorem BlE.bl (h : Below w.heap.size w w') : BlE ge w w' := ⟨h.os, h.tape, h.output, h.size, fun i hi _ => h.block i hi⟩
theorem BlE.setCell (h : BlE ge w w') {p : Addr} (hp : w.heap.size ≤ p.block ∨ p.block = ge) (v : Value) : BlE ge w (w'.setCell p v) := by
 refine ⟨h.os, h.tape, h.output, by simp [World.setCell]; exact h.size, fun i hi hne => ?_⟩
 rw [heap_setCell_other w' p i v (by rcases hp with hp | hp <;> omega)]
 exact h.block i hi hne
theorem BlE.below (h : BlE ge w w') (hg : w2.heap.size ≤ ge) (hb : Below w2.heap.size w2 w) : Below w2.heap.size w2 w' :=
 ⟨h.os.trans hb.os, h.tape.trans hb.tape, h.output.trans hb.output, Nat.le_trans hb.size h.size, fun i hi => (h.block i (Nat.lt_of_lt_of_le hi hb.size) (by omega)).trans (hb.block i hi)⟩
theorem Bq.blE (h : Bq w g b A n c B m d) (k : BlE ge w w') (hne : g ≠ ge) : Bq w' g b A n c B m d := ⟨(k.block g h.lt hne).trans h.row⟩
theorem Bq.set3 {b' : Bool} {A' B' : Option Addr} {n' c' m' d' : Nat} (h : Bq w g b A n c B m d) : Bq (((w.setCell ⟨g, 0, none⟩ (.bool b')).setCell ⟨g, 1, none⟩ (.slice A' n' c')).setCell ⟨g, 2, none⟩ (.slice B' m' d')) g b' A' n' c' B' m' d' := by
 have h1 := heap_setCell_same w g 0 #[.bool b, .slice A n c, .slice B m d] 26 (.bool b') h.row
 have h2 := heap_setCell_same _ g 1 _ 26 (.slice A' n' c') h1
 exact ⟨heap_setCell_same _ g 2 _ 26 (.slice B' m' d') h2⟩
theorem Be.lt (h : Be w ge o) : ge < w.heap.size := (Array.getElem?_eq_some_iff.1 h.row).1
theorem Be.below (h : Be w ge o) (hb : Below w.heap.size w w') : Be w' ge o := ⟨(hb.block ge h.lt).trans h.row⟩
theorem Be.new (w : World) (o : Int) : Be (w.alloc (.cells #[.int .i64 o] 28)) w.heap.size o := ⟨heap_alloc_new w _⟩
theorem Be.new4 (w : World) (o1 o2 o3 : Obj) (o : Int) : Be ((((w.alloc o1).alloc o2).alloc o3).alloc (.cells #[.int .i64 o] 28)) (w.heap.size + 1 + 1 + 1) o := by
 have := Be.new (((w.alloc o1).alloc o2).alloc o3) o
 simp only [hs_alloc] at this
 exact this
theorem Be.c0 (h : Be w ge o) : w.cell? ⟨ge, 0, none⟩ = some (.int .i64 o) := by
 rw [cell_of_row _ _ _ _ _ _ h.row]; rfl
theorem Be.f (h : Be w ge o) (i : Nat) : w.frozen? ⟨ge, i, none⟩ = false := frozen_of_row _ _ _ _ _ h.row
theorem Be.set (h : Be w ge o) (o' : Int) : Be (w.setCell ⟨ge, 0, none⟩ (.int .i64 o')) ge o' := ⟨heap_setCell_same w ge 0 #[.int .i64 o] 28 (.int .i64 o') h.row⟩
theorem Be.other (h : Be w ge o) {g' i : Nat} {v : Value} (hne : ge ≠ g') : Be (w.setCell ⟨g', i, none⟩ v) ge o := ⟨(heap_setCell_other _ ⟨g', i, none⟩ ge _ hne).trans h.row⟩
theorem fin_qE {v : Value} {q : Rat} {k N : Nat} (h : IsQ N w2 v q k) (he : Be w2 ge o) (hb : BlE ge w w2) (hge : ge < w.heap.size) (hg : w.heap.size ≤ g) (hgb : g < N) (x y z : Value) :
  AnsE ge w (fun w' v => IsQ w.heap.size w' v q k ∧ Be w' ge o) (.returned v) (((w2.setCell ⟨g, 0, none⟩ x).setCell ⟨g, 1, none⟩ y).setCell ⟨g, 2, none⟩ z) :=
 ⟨v, rfl, ((hb.setCell (p := ⟨g, 0, none⟩) (.inl hg) x).setCell (p := ⟨g, 1, none⟩) (.inl hg) y).setCell (p := ⟨g, 2, none⟩) (.inl hg) z, (((h.stored hgb 0 x).stored hgb 1 y).stored hgb 2 z).base (by omega), ((he.other (by omega)).other (by omega)).other (by omega)⟩
theorem ansE_base {q : Rat} {k N : Nat} (hN : N ≤ w.heap.size) (e : Ending) (w' : World) (h : AnsE ge w (fun w' v => IsQ w.heap.size w' v q k ∧ Be w' ge o) e w') : AnsE ge w (fun w' v => IsQ N w' v q k ∧ Be w' ge o) e w' := by
 obtain ⟨v, rfl, hb, h, he⟩ := h
 exact ⟨v, rfl, hb, h.base hN, he⟩
end
def IsQE (N : Nat) (w : World) (v : Value) (q : Rat) (k : Nat) (o : Int) : Prop := ∃ b A n c B m d, v = .tuple #[.agg #[.bool b, .slice A n c, .slice B m d], .int .i64 o] ∧ IsQ N w (.agg #[.bool b, .slice A n c, .slice B m d]) q k
theorem of_divInt (b t : Bool) (x : Nat) {y : Nat} (hy : y ≠ 0) : mkRat (zv (b != t) x) y = Rat.divInt (zv b x) (zv t y) := by
 cases b <;> cases t
 ·rw [show (false != false) = false from rfl, zv_false, zv_false, Rat.divInt_ofNat]
 ·rw [show (false != true) = true from rfl, zv_true, zv_false, zv_true, Rat.divInt_neg', Rat.divInt_ofNat]
 ·rw [show (true != false) = true from rfl, zv_true, zv_false, Rat.divInt_ofNat]
 ·rw [show (true != true) = false from rfl, zv_false, zv_true, zv_true, Rat.neg_divInt_neg, Rat.divInt_ofNat]
theorem two_div (a b : Rat) : Rat.divInt (a.num * (ofA a b : Int)) (b.num * (ofB a b : Int)) = a / b := by
 have hg : ((a.den.gcd b.den : Nat) : Int) ≠ 0 := by have := two_g a b; omega
 rw [← Rat.divInt_mul_right hg, Int.mul_assoc, Int.mul_assoc, ← Int.natCast_mul, ← Int.natCast_mul, two_A, two_B, Rat.div_def, Rat.inv_def]
 conv => rhs; lhs; rw [← Rat.num_divInt_den a]
 rw [Rat.divInt_mul_divInt, Int.mul_comm (a.den : Int) b.num]
section
variable {w w' : World} {v v' v'' : Value} {z u : Int} {y k j i N : Nat}
set_option maxHeartbeats 2000000
theorem cOfQ (h : IsM w v z k) (h' : IsM w v' u j) (hk : k ≤ 900) (hj : j ≤ 900) (hu : u ≠ 0) : Calls Tryz.prog 40 #[v, v'] w (Ans w fun w' v => IsQE w.heap.size w' v (Rat.divInt z u) (max k j) 0) := by
 obtain ⟨b, A, n, c, rfl, h⟩ := h
 obtain ⟨t, B, m, d, rfl, h'⟩ := h'
 obtain ⟨x, hx, rfl⟩ := h.row
 obtain ⟨y, hy, rfl⟩ := h'.row
 have hy0 : y ≠ 0 := by
  intro e
  subst e
  apply hu
  cases t <;> rfl
 have HE := Lib.hid (of_divInt b t x hy0)
 rw [← HE.out]
 have PA := ((Bz.new w b A n c).alloc (.cells #[.bool t, .slice B m d] 24)).alloc (.cells #[.bool false, .slice none 0 0, .slice none 0 0] 26)
 have PB := (Bz.new2 w (.cells #[.bool b, .slice A n c] 24) t B m d).alloc (.cells #[.bool false, .slice none 0 0, .slice none 0 0] 26)
 have PR := Bq.new3 w (.cells #[.bool b, .slice A n c] 24) (.cells #[.bool t, .slice B m d] 24) false none 0 0 none 0 0
 have BB := bl_trans (bl_trans (bl_alloc w (.cells #[.bool b, .slice A n c] 24)) (bl_alloc _ (.cells #[.bool t, .slice B m d] 24))) (bl_alloc _ (.cells #[.bool false, .slice none 0 0, .slice none 0 0] 26))
 have NX := hx.below BB
 have NY := hy.below BB
 have ZB := h'.below BB
 obtain ⟨sg, hsg, hs0⟩ : ∃ sg, sgn (zv t y) = sg ∧ sg ≠ 0 := ⟨_, rfl, by
  rcases Int.lt_trichotomy (zv t y) 0 with h | h | h
  ·rw [sgn_neg h]; omega
  ·exact absurd h hu
  ·rw [sgn_pos h]; omega⟩
 have HS := Lib.hid hsg
 have HY := Lib.hid hy0
 clear h h' hx hy hu hsg hy0 HE
 have b0 := PB.c0
 have b1 := PB.c1
 cases b <;> cases t
 all_goals
  go_enter Tryz.func40, Tryz.ntmps40
  go_wp2_with fail
  refine (cSign ⟨_, _, _, _, rfl, ZB⟩ (by omega) HS.out).mono ?_
  rintro e w1 ⟨_, rfl, hb1, rfl⟩
  have hs1 := hb1.size
  simp only [hs_alloc] at hs1
  replace PA := PA.below hb1
  replace PB := PB.below hb1
  replace PR := PR.below hb1
  replace NX := NX.below hb1
  replace NY := NY.below hb1
  replace BB := bl_trans BB hb1
  clear hb1 b0 b1 ZB
  have a0 := PA.c0
  have a1 := PA.c1
  have b0 := PB.c0
  have b1 := PB.c1
  go_wp2_with fail
  refine (cLowest ⟨_, _, _, _, rfl, ⟨⟨_, NX, rfl⟩⟩⟩ ⟨_, _, _, rfl, NY⟩ (by omega) (by omega) HY.out).mono ?_
  rintro e w2 ⟨_, rfl, hb2, q2⟩
  obtain ⟨b2, A2, n2, c2, B2, m2, d2, rfl, yy⟩ := id q2
  clear yy
  have hs2 := hb2.size
  replace PR := PR.below hb2
  replace BB := bl_trans BB hb2
  have r0 := PR.c0
  have r1 := PR.c1
  have r2 := PR.c2
  have f0 := PR.f 0
  have f1 := PR.f 1
  have f2 := PR.f 2
  clear hb2 a0 a1 b0 b1 PA PB NX NY
  go_wp2_with fail
  have fq := fin_q (g := w.heap.size + 1 + 1) q2 BB (by omega) (by omega) (.bool b2) (.slice A2 n2 c2) (.slice B2 m2 d2)
  obtain ⟨_, e1, fb, fq⟩ := fq
  cases e1
  exact bodyPost_ret (v := .tuple #[.agg #[.bool b2, .slice A2 n2 c2, .slice B2 m2 d2], .int .i64 0]) (by simp [results, Tryz.results40, go_sem, *]) rfl ⟨_, rfl, fb, _, _, _, _, _, _, _, rfl, fq⟩

theorem zero_cast : ((0 : Int) : Rat) = 0 := rfl
/-- The 0 that is answered beside an error. -/
theorem IsQ.zero1 (h : IsQ N w v ((0 : Int) : Rat) k) : IsQ N w v 0 1 := by
 rw [zero_cast] at h
 exact h.fit (by rw [Nat.pow_one, M.R_eq]; decide) (by rw [Nat.pow_one, M.R_eq]; decide)
theorem cOfQ0 (h : IsM w v z k) (h' : IsM w v' u j) (hj : j ≤ 900) (hu : u = 0) : Calls Tryz.prog 40 #[v, v'] w (Ans w fun w' v => IsQE w.heap.size w' v 0 1 3) := by
 obtain ⟨b, A, n, c, rfl, h⟩ := h
 obtain ⟨t, B, m, d, rfl, h'⟩ := h'
 have PB := (Bz.new2 w (.cells #[.bool b, .slice A n c] 24) t B m d).alloc (.cells #[.bool false, .slice none 0 0, .slice none 0 0] 26)
 have PR := Bq.new3 w (.cells #[.bool b, .slice A n c] 24) (.cells #[.bool t, .slice B m d] 24) false none 0 0 none 0 0
 have BB := bl_trans (bl_trans (bl_alloc w (.cells #[.bool b, .slice A n c] 24)) (bl_alloc _ (.cells #[.bool t, .slice B m d] 24))) (bl_alloc _ (.cells #[.bool false, .slice none 0 0, .slice none 0 0] 26))
 have ZB := h'.below BB
 have HS := Lib.hid (show sgn u = 0 by rw [hu]; rfl)
 clear h h' hu
 have b0 := PB.c0
 have b1 := PB.c1
 go_enter Tryz.func40, Tryz.ntmps40
 go_wp2_with fail
 refine (cSign ⟨_, _, _, _, rfl, ZB⟩ (by omega) HS.out).mono ?_
 rintro e w1 ⟨_, rfl, hb1, rfl⟩
 have hs1 := hb1.size
 simp only [hs_alloc] at hs1
 replace PR := PR.below hb1
 replace BB := bl_trans BB hb1
 clear hb1 b0 b1 ZB PB
 go_wp2_with fail
 refine (cQFrom 0 (by omega) (by omega)).mono ?_
 rintro e w2 ⟨_, rfl, hb2, q2⟩
 replace q2 := q2.zero1
 obtain ⟨b2, A2, n2, c2, B2, m2, d2, rfl, yy⟩ := id q2
 clear yy
 have hs2 := hb2.size
 replace PR := PR.below hb2
 replace BB := bl_trans BB hb2
 have r0 := PR.c0
 have r1 := PR.c1
 have r2 := PR.c2
 have f0 := PR.f 0
 have f1 := PR.f 1
 have f2 := PR.f 2
 clear hb2
 go_wp2_with fail
 have fq := fin_q (g := w.heap.size + 1 + 1) q2 BB (by omega) (by omega) (.bool b2) (.slice A2 n2 c2) (.slice B2 m2 d2)
 obtain ⟨_, e1, fb, fq⟩ := fq
 cases e1
 exact bodyPost_ret (v := .tuple #[.agg #[.bool b2, .slice A2 n2 c2, .slice B2 m2 d2], .int .i64 3]) (by simp [results, Tryz.results40, go_sem, *]) rfl ⟨_, rfl, fb, _, _, _, _, _, _, _, rfl, fq⟩
/-- The error beside a quotient. -/
def eO (u : Int) : Int := if u = 0 then 3 else 0
def eQ (q : Rat) : Int := if q = 0 then 3 else 0
theorem cOfQA (h : IsM w v z k) (h' : IsM w v' u j) (hk : k ≤ 900) (hj : j ≤ 900) (hk1 : 1 ≤ k) : Calls Tryz.prog 40 #[v, v'] w (Ans w fun w' v => IsQE w.heap.size w' v (Rat.divInt z u) (max k j) (eO u)) := by
 by_cases hu : u = 0
 ·refine (cOfQ0 h h' hj hu).mono ?_
  rintro e w1 ⟨_, rfl, hb1, b, A, n, c, B, m, d, rfl, q⟩
  unfold eO
  rw [if_pos hu, hu, Rat.divInt_zero]
  exact ⟨_, rfl, hb1, b, A, n, c, B, m, d, rfl, q.mono (by omega)⟩
 ·unfold eO
  rw [if_neg hu]
  exact cOfQ h h' hk hj hu

theorem cDiv1e {ge : Nat} {o : Int} (h : IsM w v z k) (h' : IsM w v' u j) (PE : Be w ge o) (hk : k ≤ 900) (hj : j ≤ 900) (hk1 : 1 ≤ k) : Calls Tryz.prog 49 #[v, v', v'', .pointer (some ⟨ge, 0, none⟩)] w (AnsE ge w fun w' v => IsQ w.heap.size w' v (Rat.divInt z u) (max k j) ∧ Be w' ge (eO u)) := by
 obtain ⟨b, A, n, c, rfl, h⟩ := h
 obtain ⟨t, B, m, d, rfl, h'⟩ := h'
 have hge := PE.lt
 have PA := ((Bz.new w b A n c).alloc (.cells #[.bool t, .slice B m d] 24)).alloc (.cells #[.bool false, .slice none 0 0, .slice none 0 0] 26)
 have PB := (Bz.new2 w (.cells #[.bool b, .slice A n c] 24) t B m d).alloc (.cells #[.bool false, .slice none 0 0, .slice none 0 0] 26)
 have PR := Bq.new3 w (.cells #[.bool b, .slice A n c] 24) (.cells #[.bool t, .slice B m d] 24) false none 0 0 none 0 0
 have BB := bl_trans (bl_trans (bl_alloc w (.cells #[.bool b, .slice A n c] 24)) (bl_alloc _ (.cells #[.bool t, .slice B m d] 24))) (bl_alloc _ (.cells #[.bool false, .slice none 0 0, .slice none 0 0] 26))
 have ZA := h.below BB
 have ZB := h'.below BB
 replace PE := PE.below BB
 have a0 := PA.c0
 have a1 := PA.c1
 have b0 := PB.c0
 have b1 := PB.c1
 have H0 := Lib.hid (cOfQA (w := ((w.alloc (.cells #[.bool b, .slice A n c] 24)).alloc (.cells #[.bool t, .slice B m d] 24)).alloc (.cells #[.bool false, .slice none 0 0, .slice none 0 0] 26)) ⟨_, _, _, _, rfl, ZA⟩ ⟨_, _, _, _, rfl, ZB⟩ hk hj hk1)
 generalize eO u = o' at H0 ⊢
 clear h h'
 go_enter Tryz.func49, Tryz.ntmps49
 go_wp2_with fail
 refine H0.out.mono ?_
 rintro e w2 ⟨_, rfl, hb2, b2, A2, n2, c2, B2, m2, d2, rfl, q2⟩
 have hs2 := hb2.size
 simp only [hs_alloc] at hs2 q2
 replace PR := PR.below hb2
 replace BB := bl_trans BB hb2
 replace PE := PE.below hb2
 have r0 := PR.c0
 have r1 := PR.c1
 have r2 := PR.c2
 have f0 := PR.f 0
 have f1 := PR.f 1
 have f2 := PR.f 2
 have e0 := PE.c0
 have fe := PE.f 0
 clear hb2 PA PB ZA ZB a0 a1 b0 b1 H0
 obtain ⟨g, hg⟩ : ∃ g, g = w.heap.size + 1 + 1 := ⟨_, rfl⟩
 have X1 := (((((((BlE.bl (ge := ge) BB).setCell (p := ⟨g, 0, none⟩) (.inl (by show _ ≤ g; omega)) (.bool b2)).setCell (p := ⟨g, 1, none⟩) (.inl (by show _ ≤ g; omega)) (.slice A2 n2 c2)).setCell (p := ⟨g, 2, none⟩) (.inl (by show _ ≤ g; omega)) (.slice B2 m2 d2)).setCell (p := ⟨ge, 0, none⟩) (.inr rfl) (.int .i64 o')).setCell (p := ⟨g, 0, none⟩) (.inl (by show _ ≤ g; omega)) (.bool b2)).setCell (p := ⟨g, 1, none⟩) (.inl (by show _ ≤ g; omega)) (.slice A2 n2 c2)).setCell (p := ⟨g, 2, none⟩) (.inl (by show _ ≤ g; omega)) (.slice B2 m2 d2)
 have X2 := ((((((((q2.stored (g := g) (by omega) 0 (.bool b2)).stored (g := g) (by omega) 1 (.slice A2 n2 c2)).stored (g := g) (by omega) 2 (.slice B2 m2 d2)).stored (g := ge) (by omega) 0 (.int .i64 o')).stored (g := g) (by omega) 0 (.bool b2)).stored (g := g) (by omega) 1 (.slice A2 n2 c2)).stored (g := g) (by omega) 2 (.slice B2 m2 d2))).base (N' := w.heap.size) (by omega)
 have X3 := (((((((PE.other (g' := g) (i := 0) (v := .bool b2) (by omega)).other (g' := g) (i := 1) (v := .slice A2 n2 c2) (by omega)).other (g' := g) (i := 2) (v := .slice B2 m2 d2) (by omega)).set o').other (g' := g) (i := 0) (v := .bool b2) (by omega)).other (g' := g) (i := 1) (v := .slice A2 n2 c2) (by omega)).other (g' := g) (i := 2) (v := .slice B2 m2 d2) (by omega))
 have X4 : Bq _ (w.heap.size + 1 + 1) b2 A2 n2 c2 B2 m2 d2 := ((PR.set3 (b' := b2) (A' := A2) (n' := n2) (c' := c2) (B' := B2) (m' := m2) (d' := d2)).other (g' := ge) (i := 0) (v := .int .i64 o') (by omega)).set3 (b' := b2) (A' := A2) (n' := n2) (c' := c2) (B' := B2) (m' := m2) (d' := d2)
 rw [hg] at X1 X2 X3
 have H4 := Lib.hid X4
 have H1 := Lib.hid X1
 have H2 := Lib.hid X2
 have H3 := Lib.hid X3
 have hne : ge ≠ w.heap.size + 1 + 1 := by omega
 have hne' : w.heap.size + 1 + 1 ≠ ge := by omega
 clear X1 X2 X3 X4 hg q2 PR PE BB
 go_wp2_with fail
 clear r0 r1 r2 f0 f1 f2 e0 fe hne hne'
 generalize (((((((w2.setCell ⟨w.heap.size + 1 + 1, 0, none⟩ (.bool b2)).setCell ⟨w.heap.size + 1 + 1, 1, none⟩ (.slice A2 n2 c2)).setCell ⟨w.heap.size + 1 + 1, 2, none⟩ (.slice B2 m2 d2)).setCell ⟨ge, 0, none⟩ (.int .i64 o')).setCell ⟨w.heap.size + 1 + 1, 0, none⟩ (.bool b2)).setCell ⟨w.heap.size + 1 + 1, 1, none⟩ (.slice A2 n2 c2)).setCell ⟨w.heap.size + 1 + 1, 2, none⟩ (.slice B2 m2 d2)) = W9 at H1 H2 H3 H4 ⊢
 have q0 := H4.out.c0
 have q1 := H4.out.c1
 have q2 := H4.out.c2
 exact bodyPost_ret (v := .agg #[.bool b2, .slice A2 n2 c2, .slice B2 m2 d2]) (by simp [results, Tryz.results49, go_sem, q0, q1, q2]) rfl ⟨_, rfl, H1.out, H2.out, H3.out⟩
end

end Go.Proofs.YtbhgbilhoonopaaGreat
