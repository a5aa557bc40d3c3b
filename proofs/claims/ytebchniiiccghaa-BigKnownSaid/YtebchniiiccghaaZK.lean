/- What BigKnown asks besides: rows of three numbers; Right of limbs that are not trimmed; tests of 64 bits. -/
import Derived.Test.YtebchniiiccghaaZX
import Derived.Test.YtebchniiiccghaaZFoldT
namespace Go.Proofs.Ytebchniiiccghaa
open Go.RowKit
set_option linter.unusedVariables false
set_option maxRecDepth 100000

/-- A row of three numbers whose product is p. -/
def IsP3 (w : World) (v : Value) (p : Int) : Prop := ∃ g ls, v = .slice (some ⟨g, 0, none⟩) 3 3 ∧ Zs w g 0 ls 10 ∧ ls.length = 3 ∧ prodZ ls = p
theorem sP3 {p : Int} : Stab RBu fun v _ w => IsP3 w v p := fun _ _ _ _ _ r _ h => by
  obtain ⟨g, ls, rfl, h1, h2, h3⟩ := h
  exact ⟨g, ls, rfl, h1.below r, h2, h3⟩
theorem cMul3 {w : World} {v : Value} {p : Int} {N : Nat} (h : IsP3 w v p) (hN : N ≤ w.heap.size) : Calls Try.prog 25 #[v] w (Ans w fun w' v => IsZ N w' v p 32) := by
  obtain ⟨g, ls, rfl, hs, hl, rfl⟩ := h
  refine (mul_of_fold (z := prodZ ls) (k := 32) fun W b0 A0 n0 c0 hW hsz hZ => ?_).mono fun e w' r => givZ_ans hN r
  refine (rfold_times3 hZ.zm (hs.below hW) hl 3 (by omega)).mono ?_
  rintro e w' ⟨b, A, n, c, rfl, Z, hb⟩
  exact ⟨b, A, n, c, rfl, Z.mono hsz, hb⟩
section
variable {a : Act} {w : World} {K : Act → World → Prop} {Q : Exit → Act → World → Prop} {dst : Option Tmp} {ty : TypeId} {pos : String} {af : Array Edge} {gd : Option (Nat × Bool)} {x y x' : Operand} {p q : Int} {b : Bool} {A : Option Addr} {n c : Nat}
theorem wp_bs3 (hx : a.eval x = .agg #[.bool b, .slice A n c]) (hy : a.eval y = .agg #[.bool b, .slice A n c]) (hz : a.eval x' = .agg #[.bool b, .slice A n c]) (h : K (a.put dst (.slice (some ⟨w.heap.size, 0, none⟩) 3 3)) (w.alloc (.cells #[.bool b, .slice A n c, .bool b, .slice A n c, .bool b, .slice A n c] 32))) : Oper.wp Try.prog ⟨dst, .buildSlice 60 3 #[(0, x), (1, y), (2, x')], ty, pos, af, gd⟩ a w K Q := by
  unfold Oper.wp execOp
  simp only [List.map_toArray, List.map_cons, List.map_nil, hx, hy, hz]
  go_simp
  exact h
theorem IsP3.new {z : Int} (h : Zm w b A n c z 10) : IsP3 (w.alloc (.cells #[.bool b, .slice A n c, .bool b, .slice A n c, .bool b, .slice A n c] 32)) (.slice (some ⟨w.heap.size, 0, none⟩) 3 3) (z * (z * (z * 1))) := by
  refine ⟨_, [⟨b, A, n, c, z⟩, ⟨b, A, n, c, z⟩, ⟨b, A, n, c, z⟩], rfl, ⟨fun i e hi => ?_, fun e he => ?_⟩, rfl, rfl⟩
  · have h0 := heap_alloc_new w (.cells #[.bool b, .slice A n c, .bool b, .slice A n c, .bool b, .slice A n c] 32)
    match i, hi with
    | 0, hi => cases hi; exact ⟨by rw [cell_of_row _ _ _ _ _ _ h0]; rfl, by rw [cell_of_row _ _ _ _ _ _ h0]; rfl⟩
    | 1, hi => cases hi; exact ⟨by rw [cell_of_row _ _ _ _ _ _ h0]; rfl, by rw [cell_of_row _ _ _ _ _ _ h0]; rfl⟩
    | 2, hi => cases hi; exact ⟨by rw [cell_of_row _ _ _ _ _ _ h0]; rfl, by rw [cell_of_row _ _ _ _ _ _ h0]; rfl⟩
  · simp only [List.mem_cons, List.not_mem_nil, or_false, or_self] at he
    subst he
    exact h.alloc _
theorem wp_eqL (hx : a.eval x = .int .i64 p) (hy : a.eval y = .int .i64 q) (h : K (a.put dst (.bool (p == q))) w) {T' : TypeId} : Oper.wp Try.prog ⟨dst, .binOp .eql 2 x y T', ty, pos, af, gd⟩ a w K Q := by
  unfold Oper.wp execOp
  simp only [hx, hy]
  go_simp
  exact h
theorem cRight_no {xs : List Nat} (h : Rd w A n c xs) (hn : 0 < n) (hm : n ≤ 1000) (hl : xs[n - 1]? = some 0) : Calls Try.prog 31 #[.agg #[.bool b, .slice A n c]] w (Ans w fun _ v => v = .bool false) := by
  refine (right_last b h hn (by omega) hl).mono fun e w' r => ⟨_, r.1, r.2, rfl⟩
end
theorem cSmallY {w : World} {v : Value} {z : Int} {k : Nat} (h : IsM w v z k) (hk : k ≤ 1000) (h0 : -9223372036854775808 ≤ z) (h1 : z < 9223372036854775808) : Calls Try.prog 29 #[v] w (Ans w fun _ v => v = .tuple #[.int .i64 z, .bool true]) := by
  have := cSmall h hk
  rw [smI_yes h0 h1, smB_yes h0 h1] at this
  exact this
theorem cSmallN {w : World} {v : Value} {z : Int} {k : Nat} (h : IsM w v z k) (hk : k ≤ 1000) (h0 : z < -9223372036854775808 ∨ 9223372036854775808 ≤ z) : Calls Try.prog 29 #[v] w (Ans w fun _ v => v = .tuple #[.int .i64 0, .bool false]) := by
  have := cSmall h hk
  rw [smI_no h0, smB_no h0] at this
  exact this

end Go.Proofs.Ytebchniiiccghaa
