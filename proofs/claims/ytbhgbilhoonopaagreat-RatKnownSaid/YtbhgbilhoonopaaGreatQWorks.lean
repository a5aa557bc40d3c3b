/- litmuslaw03.works: the chapter's examples. -/
import Derived.Test.YtbhgbilhoonopaaGreatQParse
import Derived.Test.YtbhgbilhoonopaaGreatQOrd
namespace Go.Proofs.YtbhgbilhoonopaaGreat
open Go.RowKit
set_option linter.unusedVariables false
set_option maxRecDepth 100000

theorem ans_intW {w : World} {x y : Int} (h : x = y) (e : Ending) (w' : World) (r : Ans w (fun _ v => v = .int .i64 x) e w') : Ans w (fun _ v => v = .int .i64 y) e w' := by
  rw [← h]
  exact r
/-- A row of just these limbs. -/
def IsX (w : World) (v : Value) (xs : List Nat) : Prop := ∃ A n c, v = .slice A n c ∧ Rd w A n c xs ∧ n ≤ 4
theorem IsX.below {w w' : World} {v : Value} {xs : List Nat} (h : IsX w v xs) (hb : Below w.heap.size w w') : IsX w' v xs := by
  obtain ⟨A, n, c, rfl, h, l⟩ := h
  exact ⟨A, n, c, rfl, h.below hb, l⟩
theorem sX {xs : List Nat} : Stab RBu fun v _ w => IsX w v xs := fun _ _ _ _ _ r _ h => h.below r
theorem wp_bsL1 {a : Act} {w : World} {K : Act → World → Prop} {Q : Exit → Act → World → Prop} {dst : Option Tmp} {ty : TypeId} {pos : String} {af : Array Edge} {gd : Option (Nat × Bool)} {x : Int} (h : K (a.put dst (.slice (some ⟨w.heap.size, 0, none⟩) 1 1)) (w.alloc (.cells #[.int .u32 x] 44))) : Oper.wp Tryz.prog ⟨dst, .buildSlice 22 1 #[(0, .const (.int .u32 x))], ty, pos, af, gd⟩ a w K Q := by
  unfold Oper.wp execOp
  simp only [List.map_toArray, List.map_cons, List.map_nil]
  go_simp
  exact h
theorem wp_bZ {a : Act} {w : World} {K : Act → World → Prop} {Q : Exit → Act → World → Prop} {dst : Option Tmp} {ty : TypeId} {pos : String} {af : Array Edge} {gd : Option (Nat × Bool)} {x y : Operand} {b : Bool} {A : Option Addr} {n c : Nat} (hx : a.eval x = .bool b) (hy : a.eval y = .slice A n c) (h : K (a.put dst (.agg #[.bool b, .slice A n c])) w) : Oper.wp Tryz.prog ⟨dst, .build 24 #[(0, x), (1, y)], ty, pos, af, gd⟩ a w K Q := by
  unfold Oper.wp execOp
  simp only [List.map_toArray, List.map_cons, List.map_nil, hx, hy]
  go_simp
  exact h
theorem litX1 (w : World) (x : Nat) (hx : x < 4294967296) : IsX (w.alloc (.cells #[.int .u32 (x : Int)] 44)) (.slice (some ⟨w.heap.size, 0, none⟩) 1 1) [x] := ⟨_, _, _, rfl, RdK.one (K := kU32) w x hx, by omega⟩
theorem isT_lit {w : World} {b : Bool} {A : Option Addr} {n c : Nat} {xs : List Nat} {z : Int} (h : Rd w A n c xs) (hl : n ≤ 4) (h1 : M.lims z.natAbs = xs) (h2 : b = decide (z < 0)) : IsT w (.agg #[.bool b, .slice A n c]) z 4 := ⟨_, _, _, _, rfl, ⟨by rw [h1]; exact h, hl⟩, h2⟩
theorem ansZ_base {w : World} {z : Int} {k N : Nat} (hN : N ≤ w.heap.size) (e : Ending) (w' : World) (h : Ans w (fun w' v => IsZ w.heap.size w' v z k) e w') : Ans w (fun w' v => IsZ N w' v z k) e w' := by
  obtain ⟨v, rfl, hb, b, A, n, c, rfl, Z⟩ := h
  exact ⟨_, rfl, hb, b, A, n, c, rfl, Z.mono hN⟩
theorem ansB {w : World} {x y : Bool} (h : x = y) (e : Ending) (w' : World) (r : Ans w (fun _ v => v = .bool x) e w') : Ans w (fun _ v => v = .bool y) e w' := by
  rw [← h]
  exact r
theorem cf_law03_of : CallsF 87 := fun args w => by go_simp
theorem eqB {k l : ByteArray} {x y : List Nat} (hk : M.bytes k = x) (hl : M.bytes l = y) (h : x = y) : (k.toList == l.toList) = true := by
  have : k = l := M.bytes_inj (by rw [hk, hl, h])
  rw [this]
  simp
theorem txtQ_frac {q : Rat} {ds es : List Nat} (hn : txtZ q.num = ds) (hd : M.dec 0 es = q.den) (h2 : M.Digits es) (h3 : M.dec 0 es ≠ 1) : txtQ q = ds ++ [47] ++ es := by
  unfold txtQ
  rw [if_neg (by rw [← hd]; exact h3), hn, ← hd, txt_dec h2]
theorem txtQ_whole {q : Rat} {ds : List Nat} (hn : txtZ q.num = ds) (hd : q.den = 1) : txtQ q = ds := by
  unfold txtQ
  rw [if_pos hd, hn]
theorem txtZ_known {z : Int} {ds : List Nat} (h2 : M.Digits ds) (h3 : z = (M.dec 0 ds : Int)) : txtZ z = ds := by
  rw [txtZ_pos (by omega), show z.natAbs = M.dec 0 ds by omega, txt_dec h2]
theorem txtZ_knownN {z : Int} {ds : List Nat} (h2 : M.Digits ds) (h3 : z = -(M.dec 0 ds : Int)) (h4 : M.dec 0 ds ≠ 0) : txtZ z = 45 :: ds := by
  rw [txtZ_neg (by omega), show z.natAbs = M.dec 0 ds by omega, txt_dec h2]

theorem qa_num : (Rat.divInt 6 (-4)).num = -3 := by decide +kernel
theorem qa_den : (Rat.divInt 6 (-4)).den = 2 := by decide +kernel
theorem w_a : txtQ (Rat.divInt 6 (-4)) = [45, 51, 47, 50] := txtQ_frac (ds := [45, 51]) (es := [50]) (by rw [qa_num]; exact txtZ_knownN (ds := [51]) (by decide) (by decide) (by decide)) (by rw [qa_den]; decide) (by decide) (by decide)
theorem qs_num : (((1 : Int) : Rat) / ((2 : Int) : Rat) + ((1 : Int) : Rat) / ((3 : Int) : Rat)).num = 5 := by decide +kernel
theorem qs_den : (((1 : Int) : Rat) / ((2 : Int) : Rat) + ((1 : Int) : Rat) / ((3 : Int) : Rat)).den = 6 := by decide +kernel
theorem w_s : txtQ (((1 : Int) : Rat) / ((2 : Int) : Rat) + ((1 : Int) : Rat) / ((3 : Int) : Rat)) = [53, 47, 54] := txtQ_frac (ds := [53]) (es := [54]) (by rw [qs_num]; exact txtZ_known (by decide) (by decide)) (by rw [qs_den]; decide) (by decide) (by decide)
theorem qm_num : (Rat.divInt 6 (-4) * (((2 : Int) : Rat) / ((3 : Int) : Rat))).num = -1 := by decide +kernel
theorem qm_den : (Rat.divInt 6 (-4) * (((2 : Int) : Rat) / ((3 : Int) : Rat))).den = 1 := by decide +kernel
theorem w_m : txtQ (Rat.divInt 6 (-4) * (((2 : Int) : Rat) / ((3 : Int) : Rat))) = [45, 49] := txtQ_whole (by rw [qm_num]; exact txtZ_knownN (ds := [49]) (by decide) (by decide) (by decide)) qm_den
theorem w_fl : (Rat.divInt 6 (-4)).floor = -2 := by decide +kernel
theorem w_ce : (Rat.divInt 6 (-4)).ceil = -1 := by decide +kernel
theorem w_cm : cmpQ (((1 : Int) : Rat) / ((3 : Int) : Rat)) (mkRat 2 6) = 0 := by decide +kernel
theorem qc_num : (mkRat (-5) 3).num = -5 := by decide +kernel
theorem qc_den : (mkRat (-5) 3).den = 3 := by decide +kernel
theorem w_c : txtQ (mkRat (-5) 3) = [45, 53, 47, 51] := txtQ_frac (ds := [45, 53]) (es := [51]) (by rw [qc_num]; exact txtZ_knownN (ds := [53]) (by decide) (by decide) (by decide)) (by rw [qc_den]; decide) (by decide) (by decide)

set_option maxHeartbeats 8000000 in
theorem cWorks3 (w : World) : Calls Tryz.prog 39 #[] w (Ans w fun _ v => v = .bool true) := by
  have BB : Below w.heap.size w w := Below.refl _ _
  go_enter Tryz.func39, Tryz.ntmps39
  go_wp2_with fail
  refine (cQFrom 6 (by omega) (by omega)).mono ?_
  rintro e w1 ⟨_, rfl, hb1, q1⟩
  obtain ⟨b1, A1, n1, c1, B1, m1, d1, rfl, Z1, _, _⟩ := id q1
  replace BB := bl_trans BB hb1
  clear hb1 q1
  have ZA : IsM w1 (.agg #[.bool b1, .slice A1 n1 c1]) 6 2 := ⟨_, _, _, _, rfl, Z1.zm⟩
  clear Z1
  replace ZA := ZA.below (bl_alloc _ (.cells #[.bool b1, .slice A1 n1 c1, .slice B1 m1 d1] 26))
  replace BB := bl_trans BB (bl_alloc _ (.cells #[.bool b1, .slice A1 n1 c1, .slice B1 m1 d1] 26))
  have P1 := Bq.new w1 b1 A1 n1 c1 B1 m1 d1
  have x0 := P1.c0
  have x1 := P1.c1
  obtain ⟨G4, g4, h4, e4, R4, l4⟩ := litX1 (w1.alloc (.cells #[.bool b1, .slice A1 n1 c1, .slice B1 m1 d1] 26)) 4 (by omega)
  have ZB : IsM ((w1.alloc (.cells #[.bool b1, .slice A1 n1 c1, .slice B1 m1 d1] 26)).alloc (.cells #[.int .u32 4] 44)) (.agg #[.bool true, .slice G4 g4 h4]) (-4) 4 := ⟨_, _, _, _, rfl, ⟨⟨4, ⟨⟨_, R4, rfl⟩, l4⟩, rfl⟩⟩⟩
  cases e4
  clear R4 l4
  simp only [hs_alloc] at ZB
  go_wp2_with fail
  refine (cOfQ (ZA.below (bl_alloc _ (.cells #[.int .u32 4] 44))) ZB (by omega) (by omega) (by omega)).mono ?_
  rintro e w2 ⟨_, rfl, hb2, b2, A2, n2, c2, B2, m2, d2, rfl, q2⟩
  replace BB := bl_trans (bl_trans BB (bl_alloc _ (.cells #[.int .u32 4] 44))) hb2
  clear hb2 ZA ZB P1 x0 x1
  have Q2 := q2.t
  clear q2
  replace Q2 := Q2.below (bl_alloc _ (.cells #[.bool b2, .slice A2 n2 c2, .slice B2 m2 d2] 26))
  replace BB := bl_trans BB (bl_alloc _ (.cells #[.bool b2, .slice A2 n2 c2, .slice B2 m2 d2] 26))
  have P2 := Bq.new w2 b2 A2 n2 c2 B2 m2 d2
  replace Q2 := Q2.mono (show max 2 4 ≤ 4 by omega)
  have R2 : Rd ((w2.alloc (.cells #[.bool b2, .slice A2 n2 c2, .slice B2 m2 d2] 26)).alloc (.cells #[.int .u32 2, .int .u32 0] 44)) (some ⟨(w2.alloc (.cells #[.bool b2, .slice A2 n2 c2, .slice B2 m2 d2] 26)).heap.size, 0, none⟩) 2 2 [2, 0] := (Rd.two (w2.alloc (.cells #[.bool b2, .slice A2 n2 c2, .slice B2 m2 d2] 26)) 2 0 (by decide) (by decide)).rd
  obtain ⟨G6, g6, h6, e6, R6, l6⟩ := litX1 ((w2.alloc (.cells #[.bool b2, .slice A2 n2 c2, .slice B2 m2 d2] 26)).alloc (.cells #[.int .u32 2, .int .u32 0] 44)) 6 (by omega)
  cases e6
  replace R2 := (R2.below (bl_alloc _ (.cells #[.int .u32 6] 44))).below (bl_alloc _ (.cells #[.bool false, .slice (some ⟨w2.heap.size + 1, 0, none⟩) 2 2, .slice (some ⟨w2.heap.size + 1 + 1, 0, none⟩) 1 1] 26))
  replace R6 := R6.below (bl_alloc _ (.cells #[.bool false, .slice (some ⟨w2.heap.size + 1, 0, none⟩) 2 2, .slice (some ⟨w2.heap.size + 1 + 1, 0, none⟩) 1 1] 26))
  simp only [hs_alloc] at R2 R6
  have Q4 : IsQm ((((w2.alloc (.cells #[.bool b2, .slice A2 n2 c2, .slice B2 m2 d2] 26)).alloc (.cells #[.int .u32 2, .int .u32 0] 44)).alloc (.cells #[.int .u32 6] 44)).alloc (.cells #[.bool false, .slice (some ⟨w2.heap.size + 1, 0, none⟩) 2 2, .slice (some ⟨w2.heap.size + 1 + 1, 0, none⟩) 1 1] 26)) (.agg #[.bool false, .slice (some ⟨w2.heap.size + 1, 0, none⟩) 2 2, .slice (some ⟨w2.heap.size + 1 + 1, 0, none⟩) 1 1]) (mkRat 2 6) 4 := ⟨_, _, _, _, _, _, _, rfl, 2, 6, ⟨⟨2, ⟨⟨_, R2, rfl⟩, by omega⟩, rfl⟩⟩, ⟨⟨_, R6, rfl⟩, by omega⟩, by rw [dOf_of (by omega)]⟩
  have P4 : Bq ((((w2.alloc (.cells #[.bool b2, .slice A2 n2 c2, .slice B2 m2 d2] 26)).alloc (.cells #[.int .u32 2, .int .u32 0] 44)).alloc (.cells #[.int .u32 6] 44)).alloc (.cells #[.bool false, .slice (some ⟨w2.heap.size + 1, 0, none⟩) 2 2, .slice (some ⟨w2.heap.size + 1 + 1, 0, none⟩) 1 1] 26)) (w2.heap.size + 1 + 1 + 1) false (some ⟨w2.heap.size + 1, 0, none⟩) 2 2 (some ⟨w2.heap.size + 1 + 1, 0, none⟩) 1 1 := by
    have := Bq.new (((w2.alloc (.cells #[.bool b2, .slice A2 n2 c2, .slice B2 m2 d2] 26)).alloc (.cells #[.int .u32 2, .int .u32 0] 44)).alloc (.cells #[.int .u32 6] 44)) false (some ⟨w2.heap.size + 1, 0, none⟩) 2 2 (some ⟨w2.heap.size + 1 + 1, 0, none⟩) 1 1
    simp only [hs_alloc] at this
    exact this
  clear R2 R6 l6
  replace Q2 := Q2.below (bl_alloc _ (.cells #[.int .u32 2, .int .u32 0] 44))
  replace P2 := P2.below (bl_alloc _ (.cells #[.int .u32 2, .int .u32 0] 44))
  replace BB := bl_trans BB (bl_alloc _ (.cells #[.int .u32 2, .int .u32 0] 44))
  replace Q2 := Q2.below (bl_alloc _ (.cells #[.int .u32 6] 44))
  replace P2 := P2.below (bl_alloc _ (.cells #[.int .u32 6] 44))
  replace BB := bl_trans BB (bl_alloc _ (.cells #[.int .u32 6] 44))
  replace Q2 := Q2.below (bl_alloc _ (.cells #[.bool false, .slice (some ⟨w2.heap.size + 1, 0, none⟩) 2 2, .slice (some ⟨w2.heap.size + 1 + 1, 0, none⟩) 1 1] 26))
  replace P2 := P2.below (bl_alloc _ (.cells #[.bool false, .slice (some ⟨w2.heap.size + 1, 0, none⟩) 2 2, .slice (some ⟨w2.heap.size + 1 + 1, 0, none⟩) 1 1] 26))
  replace BB := bl_trans BB (bl_alloc _ (.cells #[.bool false, .slice (some ⟨w2.heap.size + 1, 0, none⟩) 2 2, .slice (some ⟨w2.heap.size + 1 + 1, 0, none⟩) 1 1] 26))
  go_wp2_with fail
  generalize ((((w2.alloc (.cells #[.bool b2, .slice A2 n2 c2, .slice B2 m2 d2] 26)).alloc (.cells #[.int .u32 2, .int .u32 0] 44)).alloc (.cells #[.int .u32 6] 44)).alloc (.cells #[.bool false, .slice (some ⟨w2.heap.size + 1, 0, none⟩) 2 2, .slice (some ⟨w2.heap.size + 1 + 1, 0, none⟩) 1 1] 26)) = W4 at Q2 P2 Q4 P4 BB ⊢
  refine (cQParseB (k := 1) (l1 := [50]) (l2 := [52]) _ (by decide) (by decide) (by decide) (by decide) (by decide) 2 4 (by decide) (by decide) (by omega) (by decide +kernel) (by decide +kernel) (by decide +kernel) (by omega) (by omega)).mono ?_
  rintro e w4 ⟨_, rfl, hb4, b5, A5, n5, c5, B5, m5, d5, rfl, _⟩
  replace Q2 := Q2.below hb4
  replace P2 := P2.below hb4
  replace Q4 := Q4.below hb4
  replace P4 := P4.below hb4
  replace BB := bl_trans BB hb4
  clear hb4
  replace Q2 := Q2.below (bl_alloc _ (.cells #[.bool b5, .slice A5 n5 c5, .slice B5 m5 d5] 26))
  replace P2 := P2.below (bl_alloc _ (.cells #[.bool b5, .slice A5 n5 c5, .slice B5 m5 d5] 26))
  replace Q4 := Q4.below (bl_alloc _ (.cells #[.bool b5, .slice A5 n5 c5, .slice B5 m5 d5] 26))
  replace P4 := P4.below (bl_alloc _ (.cells #[.bool b5, .slice A5 n5 c5, .slice B5 m5 d5] 26))
  replace BB := bl_trans BB (bl_alloc _ (.cells #[.bool b5, .slice A5 n5 c5, .slice B5 m5 d5] 26))
  go_wp2_with fail
  refine (cQParse2 (k := 1) (l1 := [45, 53]) (l2 := [51]) _ (by decide) (by decide) (by decide) (by decide) (by decide) (mkRat (-5) 3) (by rw [qc_num]; decide) (by rw [qc_den]; decide) (by rw [qc_den]; omega) (by rw [qc_num]; decide +kernel) (by rw [qc_den]; decide +kernel) (by omega) (by omega)).mono ?_
  rintro e w5 ⟨_, rfl, hb5, b7, A7, n7, c7, B7, m7, d7, rfl, q7⟩
  replace Q2 := Q2.below hb5
  replace P2 := P2.below hb5
  replace Q4 := Q4.below hb5
  replace P4 := P4.below hb5
  replace BB := bl_trans BB hb5
  clear hb5
  have Q7 := q7.t
  clear q7
  replace Q2 := Q2.below (bl_alloc _ (.cells #[.bool b7, .slice A7 n7 c7, .slice B7 m7 d7] 26))
  replace P2 := P2.below (bl_alloc _ (.cells #[.bool b7, .slice A7 n7 c7, .slice B7 m7 d7] 26))
  replace Q4 := Q4.below (bl_alloc _ (.cells #[.bool b7, .slice A7 n7 c7, .slice B7 m7 d7] 26))
  replace P4 := P4.below (bl_alloc _ (.cells #[.bool b7, .slice A7 n7 c7, .slice B7 m7 d7] 26))
  replace Q7 := Q7.below (bl_alloc _ (.cells #[.bool b7, .slice A7 n7 c7, .slice B7 m7 d7] 26))
  replace BB := bl_trans BB (bl_alloc _ (.cells #[.bool b7, .slice A7 n7 c7, .slice B7 m7 d7] 26))
  have P7 := Bq.new w5 b7 A7 n7 c7 B7 m7 d7
  go_wp2_with fail
  refine (cQParseA (k := 1) (l1 := [51]) (l2 := [49]) _ (by decide) (by decide) (by decide) (by decide) (by decide) 3 1 (by decide) (by decide) rfl (by decide +kernel) (by decide +kernel) (by omega) (by omega)).mono ?_
  rintro e w6 ⟨_, rfl, hb6, b9, A9, n9, c9, B9, m9, d9, rfl, _⟩
  replace Q2 := Q2.below hb6
  replace P2 := P2.below hb6
  replace Q4 := Q4.below hb6
  replace P4 := P4.below hb6
  replace Q7 := Q7.below hb6
  replace P7 := P7.below hb6
  replace BB := bl_trans BB hb6
  clear hb6
  replace Q2 := Q2.below (bl_alloc _ (.cells #[.bool b9, .slice A9 n9 c9, .slice B9 m9 d9] 26))
  replace P2 := P2.below (bl_alloc _ (.cells #[.bool b9, .slice A9 n9 c9, .slice B9 m9 d9] 26))
  replace Q4 := Q4.below (bl_alloc _ (.cells #[.bool b9, .slice A9 n9 c9, .slice B9 m9 d9] 26))
  replace P4 := P4.below (bl_alloc _ (.cells #[.bool b9, .slice A9 n9 c9, .slice B9 m9 d9] 26))
  replace Q7 := Q7.below (bl_alloc _ (.cells #[.bool b9, .slice A9 n9 c9, .slice B9 m9 d9] 26))
  replace P7 := P7.below (bl_alloc _ (.cells #[.bool b9, .slice A9 n9 c9, .slice B9 m9 d9] 26))
  replace BB := bl_trans BB (bl_alloc _ (.cells #[.bool b9, .slice A9 n9 c9, .slice B9 m9 d9] 26))
  go_wp2_with fail
  generalize (w6.alloc (.cells #[.bool b9, .slice A9 n9 c9, .slice B9 m9 d9] 26)) = W6 at Q2 P2 Q4 P4 Q7 P7 BB ⊢
  refine wp_region_list (Ext := RB) (Rel := RBu) [fun v _ _ => v = .agg #[.bool b2, .slice A2 n2 c2, .slice B2 m2 d2], fun v _ _ => IsS v (txtQ (Rat.divInt 6 (-4))), fun v _ _ => v = .bool true, fun v _ _ => v = .bool true, fun v _ _ => v = .int .i64 0, fun v _ _ => v = .bool true, fun v _ _ => v = .bool true, fun v _ _ => v = .bool true, fun v _ w => IsQ (W6).heap.size w v (((1 : Int) : Rat) / ((2 : Int) : Rat)) 4, fun v _ w => IsQ (W6).heap.size w v (((1 : Int) : Rat) / ((3 : Int) : Rat)) 4, fun v _ w => IsQ (W6).heap.size w v ((((1 : Int) : Rat) / ((2 : Int) : Rat)) + (((1 : Int) : Rat) / ((3 : Int) : Rat))) 9, fun v _ _ => IsS v (txtQ ((((1 : Int) : Rat) / ((2 : Int) : Rat)) + (((1 : Int) : Rat) / ((3 : Int) : Rat)))), fun v _ _ => v = .bool true, fun v _ _ => v = .bool true, fun v _ _ => v = .bool true, fun v _ _ => v = .agg #[.bool b2, .slice A2 n2 c2, .slice B2 m2 d2], fun v _ w => IsQ (W6).heap.size w v (((2 : Int) : Rat) / ((3 : Int) : Rat)) 4, fun v _ w => IsQ (W6).heap.size w v ((Rat.divInt 6 (-4)) * (((2 : Int) : Rat) / ((3 : Int) : Rat))) 8, fun v _ _ => IsS v (txtQ ((Rat.divInt 6 (-4)) * (((2 : Int) : Rat) / ((3 : Int) : Rat)))), fun v _ _ => v = .bool true, fun v _ _ => v = .bool true, fun v _ _ => v = .bool true, fun v _ _ => v = .agg #[.bool b2, .slice A2 n2 c2, .slice B2 m2 d2], fun v _ w => IsZ (W6).heap.size w v ((Rat.divInt 6 (-4)).floor) 5, fun v _ w => IsX w v [2], fun v _ w => IsT w v ((-2)) 4, fun v _ _ => v = .bool true, fun v _ _ => v = .bool true, fun v _ _ => v = .bool true, fun v _ _ => v = .agg #[.bool b2, .slice A2 n2 c2, .slice B2 m2 d2], fun v _ w => IsZ (W6).heap.size w v ((Rat.divInt 6 (-4)).ceil) 5, fun v _ w => IsX w v [1], fun v _ w => IsT w v ((-1)) 4, fun v _ _ => v = .bool true, fun v _ _ => v = .bool true, fun v _ _ => v = .bool true, fun v _ w => IsQ (W6).heap.size w v (((1 : Int) : Rat) / ((3 : Int) : Rat)) 4, fun v _ _ => v = .agg #[.bool false, .slice (some ⟨w2.heap.size + 1, 0, none⟩) 2 2, .slice (some ⟨w2.heap.size + 1 + 1, 0, none⟩) 1 1], fun v _ _ => v = .int .i64 0, fun v _ _ => v = .bool true, fun v _ _ => v = .bool true, fun v _ _ => v = .bool true, fun v _ _ => v = .bool false, fun v _ _ => v = .bool true, fun v _ _ => v = .bool true, fun v _ _ => v = .bool true, fun v _ _ => v = .bool true, fun v _ _ => v = .bool true, fun v _ _ => v = .bool true, fun v _ _ => v = .agg #[.bool b7, .slice A7 n7 c7, .slice B7 m7 d7], fun v _ _ => IsS v (txtQ (mkRat (-5) 3)), fun v _ _ => v = .bool true, fun v _ _ => v = .bool true, fun v _ _ => v = .bool true, fun v _ _ => v = .bool false, fun v _ _ => v = .bool true, fun v _ _ => v = .bool true, fun v _ _ => v = .bool true] (n := 58) (by kernel_rfl) rfl (by kernel_rfl) (by kernel_rfl) (by kernel_rfl) (by kernel_rfl) (by kernel_rfl) rb_refl rb_trans ⟨sC, ⟨sS, ⟨sC, ⟨sC, ⟨sC, ⟨sC, ⟨sC, ⟨sC, ⟨sQ, ⟨sQ, ⟨sQ, ⟨sS, ⟨sC, ⟨sC, ⟨sC, ⟨sC, ⟨sQ, ⟨sQ, ⟨sS, ⟨sC, ⟨sC, ⟨sC, ⟨sC, ⟨sZ, ⟨sX, ⟨sT, ⟨sC, ⟨sC, ⟨sC, ⟨sC, ⟨sZ, ⟨sX, ⟨sT, ⟨sC, ⟨sC, ⟨sC, ⟨sQ, ⟨sC, ⟨sC, ⟨sC, ⟨sC, ⟨sC, ⟨sC, ⟨sC, ⟨sC, ⟨sC, ⟨sC, ⟨sC, ⟨sC, ⟨sC, ⟨sS, ⟨sC, ⟨sC, ⟨sC, ⟨sC, ⟨sC, ⟨sC, ⟨sC, trivial⟩⟩⟩⟩⟩⟩⟩⟩⟩⟩⟩⟩⟩⟩⟩⟩⟩⟩⟩⟩⟩⟩⟩⟩⟩⟩⟩⟩⟩⟩⟩⟩⟩⟩⟩⟩⟩⟩⟩⟩⟩⟩⟩⟩⟩⟩⟩⟩⟩⟩⟩⟩⟩⟩⟩⟩⟩⟩ ?_ ?_
  · refine ⟨⟨⟨⟨⟨⟨⟨⟨⟨⟨⟨⟨⟨⟨⟨⟨⟨⟨⟨⟨⟨⟨⟨⟨⟨⟨⟨⟨⟨⟨⟨⟨⟨⟨⟨⟨⟨⟨⟨⟨⟨⟨⟨⟨⟨⟨⟨⟨⟨⟨⟨⟨⟨⟨⟨⟨⟨⟨trivial, ?_⟩, ?_⟩, ?_⟩, ?_⟩, ?_⟩, ?_⟩, ?_⟩, ?_⟩, ?_⟩, ?_⟩, ?_⟩, ?_⟩, ?_⟩, ?_⟩, ?_⟩, ?_⟩, ?_⟩, ?_⟩, ?_⟩, ?_⟩, ?_⟩, ?_⟩, ?_⟩, ?_⟩, ?_⟩, ?_⟩, ?_⟩, ?_⟩, ?_⟩, ?_⟩, ?_⟩, ?_⟩, ?_⟩, ?_⟩, ?_⟩, ?_⟩, ?_⟩, ?_⟩, ?_⟩, ?_⟩, ?_⟩, ?_⟩, ?_⟩, ?_⟩, ?_⟩, ?_⟩, ?_⟩, ?_⟩, ?_⟩, ?_⟩, ?_⟩, ?_⟩, ?_⟩, ?_⟩, ?_⟩, ?_⟩, ?_⟩, ?_⟩
    · refine rs_plain rfl rfl fun a wr S => ?_
      have X := undrew S.ext
      exact wp_qload (ev_of ((S.old 2 (by kernel_rfl)).trans rfl)) (P2.below X) (done (by kernel_rfl) rbu_refl rfl)
    · refine rs_plain rfl rfl fun a wr S => ?_
      have X := undrew S.ext
      obtain ⟨v0, e0, h0⟩ := S.got 0 (by kernel_rfl)
      exact st_call cf_rat_Text (args1 ((ev_of (e0 36 (by kernel_rfl))).trans h0)) (by kernel_rfl) rb (cQText (show IsQm _ _ _ _ from (Q2.below X).m) (by omega) (by omega)) (fun _ _ _ h => h)
    · refine rs_plain rfl rfl fun a wr S => ?_
      have X := undrew S.ext
      obtain ⟨v1, e1, h1⟩ := S.got 1 (by kernel_rfl)
      obtain ⟨sx, hsx, bsx⟩ := (show IsS _ _ from h1)
      exact wp_eqS ((ev_of (e1 37 (by kernel_rfl))).trans hsx) rfl (done (by kernel_rfl) rbu_refl (congrArg Value.bool (eqB bsx (by rfl) w_a)))
    · refine rs_plain rfl rfl fun a wr S => ?_
      have X := undrew S.ext
      obtain ⟨v2, e2, h2⟩ := S.got 2 (by kernel_rfl)
      exact wp_mv ((ev_of (e2 38 (by kernel_rfl))).trans h2) (done (by kernel_rfl) rbu_refl rfl)
    · refine rs_yes rfl rfl (by kernel_rfl) (by kernel_rfl : _ = some 39) (fun _ _ _ h => h) fun a wr S => ?_
      have X := undrew S.ext
      exact wp_mv (ev_of ((S.old 3 (by kernel_rfl)).trans rfl)) (done (by kernel_rfl) rbu_refl rfl)
    · refine rs_yes rfl rfl (by kernel_rfl) (by kernel_rfl : _ = some 39) (fun _ _ _ h => h) fun a wr S => ?_
      have X := undrew S.ext
      obtain ⟨v4, e4, h4⟩ := S.got 4 (by kernel_rfl)
      exact wp_eqI ((ev_of (e4 40 (by kernel_rfl))).trans h4) rfl (Or.inr rfl) (done (by kernel_rfl) rbu_refl (congrArg Value.bool (by decide)))
    · refine rs_plain rfl rfl fun a wr S => ?_
      have X := undrew S.ext
      obtain ⟨v3, e3, h3⟩ := S.got 3 (by kernel_rfl)
      obtain ⟨v5, e5, h5⟩ := S.got 5 (by kernel_rfl)
      exact wp_pickT ((ev_of (e3 39 (by kernel_rfl))).trans h3) ((ev_of (e5 41 (by kernel_rfl))).trans h5) (done (by kernel_rfl) rbu_refl rfl)
    · refine rs_plain rfl rfl fun a wr S => ?_
      have X := undrew S.ext
      obtain ⟨v6, e6, h6⟩ := S.got 6 (by kernel_rfl)
      exact wp_mv ((ev_of (e6 42 (by kernel_rfl))).trans h6) (done (by kernel_rfl) rbu_refl rfl)
    · refine rs_yes rfl rfl (by kernel_rfl) (by kernel_rfl : _ = some 43) (fun _ _ _ h => h) fun a wr S => ?_
      have X := undrew S.ext
      exact st_call cf_law03_of (args2 rfl rfl) (by kernel_rfl) rb ((cOf3 1 2 (by omega) (by omega) (by omega) (by omega)).mono (ansQ_base X.size)) (fun _ _ _ h => h)
    · refine rs_yes rfl rfl (by kernel_rfl) (by kernel_rfl : _ = some 43) (fun _ _ _ h => h) fun a wr S => ?_
      have X := undrew S.ext
      exact st_call cf_law03_of (args2 rfl rfl) (by kernel_rfl) rb ((cOf3 1 3 (by omega) (by omega) (by omega) (by omega)).mono (ansQ_base X.size)) (fun _ _ _ h => h)
    · refine rs_yes rfl rfl (by kernel_rfl) (by kernel_rfl : _ = some 43) (fun _ _ _ h => h) fun a wr S => ?_
      have X := undrew S.ext
      obtain ⟨v8, e8, h8⟩ := S.got 8 (by kernel_rfl)
      obtain ⟨v9, e9, h9⟩ := S.got 9 (by kernel_rfl)
      exact st_call cf_rat_Add (args2 (ev_of (e8 44 (by kernel_rfl))) (ev_of (e9 45 (by kernel_rfl)))) (by kernel_rfl) rb ((cQAdd (show IsQm _ _ _ _ from h8.m) (show IsQm _ _ _ _ from h9.m) (by omega) (by omega) (by omega) (by omega)).mono (ansQ_base X.size)) (fun _ _ _ h => h)
    · refine rs_yes rfl rfl (by kernel_rfl) (by kernel_rfl : _ = some 43) (fun _ _ _ h => h) fun a wr S => ?_
      have X := undrew S.ext
      obtain ⟨v10, e10, h10⟩ := S.got 10 (by kernel_rfl)
      exact st_call cf_rat_Text (args1 (ev_of (e10 46 (by kernel_rfl)))) (by kernel_rfl) rb (cQText (show IsQm _ _ _ _ from h10.m) (by omega) (by omega)) (fun _ _ _ h => h)
    · refine rs_yes rfl rfl (by kernel_rfl) (by kernel_rfl : _ = some 43) (fun _ _ _ h => h) fun a wr S => ?_
      have X := undrew S.ext
      obtain ⟨v11, e11, h11⟩ := S.got 11 (by kernel_rfl)
      obtain ⟨sx, hsx, bsx⟩ := (show IsS _ _ from h11)
      exact wp_eqS ((ev_of (e11 47 (by kernel_rfl))).trans hsx) rfl (done (by kernel_rfl) rbu_refl (congrArg Value.bool (eqB bsx (by rfl) w_s)))
    · refine rs_plain rfl rfl fun a wr S => ?_
      have X := undrew S.ext
      obtain ⟨v7, e7, h7⟩ := S.got 7 (by kernel_rfl)
      obtain ⟨v12, e12, h12⟩ := S.got 12 (by kernel_rfl)
      exact wp_pickT ((ev_of (e7 43 (by kernel_rfl))).trans h7) ((ev_of (e12 48 (by kernel_rfl))).trans h12) (done (by kernel_rfl) rbu_refl rfl)
    · refine rs_plain rfl rfl fun a wr S => ?_
      have X := undrew S.ext
      obtain ⟨v13, e13, h13⟩ := S.got 13 (by kernel_rfl)
      exact wp_mv ((ev_of (e13 49 (by kernel_rfl))).trans h13) (done (by kernel_rfl) rbu_refl rfl)
    · refine rs_yes rfl rfl (by kernel_rfl) (by kernel_rfl : _ = some 50) (fun _ _ _ h => h) fun a wr S => ?_
      have X := undrew S.ext
      exact wp_qload (ev_of ((S.old 2 (by kernel_rfl)).trans rfl)) (P2.below X) (done (by kernel_rfl) rbu_refl rfl)
    · refine rs_yes rfl rfl (by kernel_rfl) (by kernel_rfl : _ = some 50) (fun _ _ _ h => h) fun a wr S => ?_
      have X := undrew S.ext
      exact st_call cf_law03_of (args2 rfl rfl) (by kernel_rfl) rb ((cOf3 2 3 (by omega) (by omega) (by omega) (by omega)).mono (ansQ_base X.size)) (fun _ _ _ h => h)
    · refine rs_yes rfl rfl (by kernel_rfl) (by kernel_rfl : _ = some 50) (fun _ _ _ h => h) fun a wr S => ?_
      have X := undrew S.ext
      obtain ⟨v15, e15, h15⟩ := S.got 15 (by kernel_rfl)
      obtain ⟨v16, e16, h16⟩ := S.got 16 (by kernel_rfl)
      exact st_call cf_rat_Mul (args2 ((ev_of (e15 51 (by kernel_rfl))).trans h15) (ev_of (e16 52 (by kernel_rfl)))) (by kernel_rfl) rb ((cQMul (show IsQm _ _ _ _ from (Q2.below X).m) (show IsQm _ _ _ _ from h16.m) (by omega) (by omega) (by omega) (by omega)).mono (ansQ_base X.size)) (fun _ _ _ h => h)
    · refine rs_yes rfl rfl (by kernel_rfl) (by kernel_rfl : _ = some 50) (fun _ _ _ h => h) fun a wr S => ?_
      have X := undrew S.ext
      obtain ⟨v17, e17, h17⟩ := S.got 17 (by kernel_rfl)
      exact st_call cf_rat_Text (args1 (ev_of (e17 53 (by kernel_rfl)))) (by kernel_rfl) rb (cQText (show IsQm _ _ _ _ from h17.m) (by omega) (by omega)) (fun _ _ _ h => h)
    · refine rs_yes rfl rfl (by kernel_rfl) (by kernel_rfl : _ = some 50) (fun _ _ _ h => h) fun a wr S => ?_
      have X := undrew S.ext
      obtain ⟨v18, e18, h18⟩ := S.got 18 (by kernel_rfl)
      obtain ⟨sx, hsx, bsx⟩ := (show IsS _ _ from h18)
      exact wp_eqS ((ev_of (e18 54 (by kernel_rfl))).trans hsx) rfl (done (by kernel_rfl) rbu_refl (congrArg Value.bool (eqB bsx (by rfl) w_m)))
    · refine rs_plain rfl rfl fun a wr S => ?_
      have X := undrew S.ext
      obtain ⟨v14, e14, h14⟩ := S.got 14 (by kernel_rfl)
      obtain ⟨v19, e19, h19⟩ := S.got 19 (by kernel_rfl)
      exact wp_pickT ((ev_of (e14 50 (by kernel_rfl))).trans h14) ((ev_of (e19 55 (by kernel_rfl))).trans h19) (done (by kernel_rfl) rbu_refl rfl)
    · refine rs_plain rfl rfl fun a wr S => ?_
      have X := undrew S.ext
      obtain ⟨v20, e20, h20⟩ := S.got 20 (by kernel_rfl)
      exact wp_mv ((ev_of (e20 56 (by kernel_rfl))).trans h20) (done (by kernel_rfl) rbu_refl rfl)
    · refine rs_yes rfl rfl (by kernel_rfl) (by kernel_rfl : _ = some 57) (fun _ _ _ h => h) fun a wr S => ?_
      have X := undrew S.ext
      exact wp_qload (ev_of ((S.old 2 (by kernel_rfl)).trans rfl)) (P2.below X) (done (by kernel_rfl) rbu_refl rfl)
    · refine rs_yes rfl rfl (by kernel_rfl) (by kernel_rfl : _ = some 57) (fun _ _ _ h => h) fun a wr S => ?_
      have X := undrew S.ext
      obtain ⟨v22, e22, h22⟩ := S.got 22 (by kernel_rfl)
      exact st_call cf_rat_Floor (args1 ((ev_of (e22 58 (by kernel_rfl))).trans h22)) (by kernel_rfl) rb ((cQFloor (show IsQm _ _ _ _ from (Q2.below X).m) (by omega) (by omega)).mono (ansZ_base X.size)) (fun _ _ _ h => h)
    · refine rs_yes rfl rfl (by kernel_rfl) (by kernel_rfl : _ = some 57) (fun _ _ _ h => h) fun a wr S => ?_
      have X := undrew S.ext
      exact wp_bsL1 (done' (by kernel_rfl) (rb _ _ _ (bl_alloc _ _)) (litX1 wr 2 (by omega)))
    · refine rs_yes rfl rfl (by kernel_rfl) (by kernel_rfl : _ = some 57) (fun _ _ _ h => h) fun a wr S => ?_
      have X := undrew S.ext
      obtain ⟨v24, e24, h24⟩ := S.got 24 (by kernel_rfl)
      obtain ⟨AA, nn, cc, hvv, RR, ll⟩ := (show IsX wr _ [2] from h24)
      exact wp_bZ rfl ((ev_of (e24 60 (by kernel_rfl))).trans hvv) (done (by kernel_rfl) rbu_refl (isT_lit RR ll (by decide +kernel) (by decide)))
    · refine rs_yes rfl rfl (by kernel_rfl) (by kernel_rfl : _ = some 57) (fun _ _ _ h => h) fun a wr S => ?_
      have X := undrew S.ext
      obtain ⟨v23, e23, h23⟩ := S.got 23 (by kernel_rfl)
      obtain ⟨v25, e25, h25⟩ := S.got 25 (by kernel_rfl)
      exact st_call cf_ref03_SameInt (args2 (ev_of (e23 59 (by kernel_rfl))) (ev_of (e25 61 (by kernel_rfl)))) (by kernel_rfl) rb ((cSameInt h23.t h25 (by omega) (by omega)).mono (ansB (decide_eq_true w_fl))) (fun _ _ _ h => h)
    · refine rs_plain rfl rfl fun a wr S => ?_
      have X := undrew S.ext
      obtain ⟨v21, e21, h21⟩ := S.got 21 (by kernel_rfl)
      obtain ⟨v26, e26, h26⟩ := S.got 26 (by kernel_rfl)
      exact wp_pickT ((ev_of (e21 57 (by kernel_rfl))).trans h21) ((ev_of (e26 62 (by kernel_rfl))).trans h26) (done (by kernel_rfl) rbu_refl rfl)
    · refine rs_plain rfl rfl fun a wr S => ?_
      have X := undrew S.ext
      obtain ⟨v27, e27, h27⟩ := S.got 27 (by kernel_rfl)
      exact wp_mv ((ev_of (e27 63 (by kernel_rfl))).trans h27) (done (by kernel_rfl) rbu_refl rfl)
    · refine rs_yes rfl rfl (by kernel_rfl) (by kernel_rfl : _ = some 64) (fun _ _ _ h => h) fun a wr S => ?_
      have X := undrew S.ext
      exact wp_qload (ev_of ((S.old 2 (by kernel_rfl)).trans rfl)) (P2.below X) (done (by kernel_rfl) rbu_refl rfl)
    · refine rs_yes rfl rfl (by kernel_rfl) (by kernel_rfl : _ = some 64) (fun _ _ _ h => h) fun a wr S => ?_
      have X := undrew S.ext
      obtain ⟨v29, e29, h29⟩ := S.got 29 (by kernel_rfl)
      exact st_call cf_rat_Ceil (args1 ((ev_of (e29 65 (by kernel_rfl))).trans h29)) (by kernel_rfl) rb ((cQCeil (show IsQm _ _ _ _ from (Q2.below X).m) (by omega) (by omega)).mono (ansZ_base X.size)) (fun _ _ _ h => h)
    · refine rs_yes rfl rfl (by kernel_rfl) (by kernel_rfl : _ = some 64) (fun _ _ _ h => h) fun a wr S => ?_
      have X := undrew S.ext
      exact wp_bsL1 (done' (by kernel_rfl) (rb _ _ _ (bl_alloc _ _)) (litX1 wr 1 (by omega)))
    · refine rs_yes rfl rfl (by kernel_rfl) (by kernel_rfl : _ = some 64) (fun _ _ _ h => h) fun a wr S => ?_
      have X := undrew S.ext
      obtain ⟨v31, e31, h31⟩ := S.got 31 (by kernel_rfl)
      obtain ⟨AA, nn, cc, hvv, RR, ll⟩ := (show IsX wr _ [1] from h31)
      exact wp_bZ rfl ((ev_of (e31 67 (by kernel_rfl))).trans hvv) (done (by kernel_rfl) rbu_refl (isT_lit RR ll (by decide +kernel) (by decide)))
    · refine rs_yes rfl rfl (by kernel_rfl) (by kernel_rfl : _ = some 64) (fun _ _ _ h => h) fun a wr S => ?_
      have X := undrew S.ext
      obtain ⟨v30, e30, h30⟩ := S.got 30 (by kernel_rfl)
      obtain ⟨v32, e32, h32⟩ := S.got 32 (by kernel_rfl)
      exact st_call cf_ref03_SameInt (args2 (ev_of (e30 66 (by kernel_rfl))) (ev_of (e32 68 (by kernel_rfl)))) (by kernel_rfl) rb ((cSameInt h30.t h32 (by omega) (by omega)).mono (ansB (decide_eq_true w_ce))) (fun _ _ _ h => h)
    · refine rs_plain rfl rfl fun a wr S => ?_
      have X := undrew S.ext
      obtain ⟨v28, e28, h28⟩ := S.got 28 (by kernel_rfl)
      obtain ⟨v33, e33, h33⟩ := S.got 33 (by kernel_rfl)
      exact wp_pickT ((ev_of (e28 64 (by kernel_rfl))).trans h28) ((ev_of (e33 69 (by kernel_rfl))).trans h33) (done (by kernel_rfl) rbu_refl rfl)
    · refine rs_plain rfl rfl fun a wr S => ?_
      have X := undrew S.ext
      obtain ⟨v34, e34, h34⟩ := S.got 34 (by kernel_rfl)
      exact wp_mv ((ev_of (e34 70 (by kernel_rfl))).trans h34) (done (by kernel_rfl) rbu_refl rfl)
    · refine rs_yes rfl rfl (by kernel_rfl) (by kernel_rfl : _ = some 71) (fun _ _ _ h => h) fun a wr S => ?_
      have X := undrew S.ext
      exact st_call cf_law03_of (args2 rfl rfl) (by kernel_rfl) rb ((cOf3 1 3 (by omega) (by omega) (by omega) (by omega)).mono (ansQ_base X.size)) (fun _ _ _ h => h)
    · refine rs_yes rfl rfl (by kernel_rfl) (by kernel_rfl : _ = some 71) (fun _ _ _ h => h) fun a wr S => ?_
      have X := undrew S.ext
      exact wp_qload (ev_of ((S.old 4 (by kernel_rfl)).trans rfl)) (P4.below X) (done (by kernel_rfl) rbu_refl rfl)
    · refine rs_yes rfl rfl (by kernel_rfl) (by kernel_rfl : _ = some 71) (fun _ _ _ h => h) fun a wr S => ?_
      have X := undrew S.ext
      obtain ⟨v36, e36, h36⟩ := S.got 36 (by kernel_rfl)
      obtain ⟨v37, e37, h37⟩ := S.got 37 (by kernel_rfl)
      exact st_call cf_rat_Cmp (args2 (ev_of (e36 72 (by kernel_rfl))) ((ev_of (e37 73 (by kernel_rfl))).trans h37)) (by kernel_rfl) rb ((cQCmp (show IsQm _ _ _ _ from h36.m) (show IsQm _ _ _ _ from (Q4.below X)) (by omega) (by omega) (by omega) (by omega)).mono (ans_intW w_cm)) (fun _ _ _ h => h)
    · refine rs_yes rfl rfl (by kernel_rfl) (by kernel_rfl : _ = some 71) (fun _ _ _ h => h) fun a wr S => ?_
      have X := undrew S.ext
      obtain ⟨v38, e38, h38⟩ := S.got 38 (by kernel_rfl)
      exact wp_eqI ((ev_of (e38 74 (by kernel_rfl))).trans h38) rfl (Or.inl rfl) (done (by kernel_rfl) rbu_refl (congrArg Value.bool (by decide)))
    · refine rs_plain rfl rfl fun a wr S => ?_
      have X := undrew S.ext
      obtain ⟨v35, e35, h35⟩ := S.got 35 (by kernel_rfl)
      obtain ⟨v39, e39, h39⟩ := S.got 39 (by kernel_rfl)
      exact wp_pickT ((ev_of (e35 71 (by kernel_rfl))).trans h35) ((ev_of (e39 75 (by kernel_rfl))).trans h39) (done (by kernel_rfl) rbu_refl rfl)
    · refine rs_plain rfl rfl fun a wr S => ?_
      have X := undrew S.ext
      obtain ⟨v40, e40, h40⟩ := S.got 40 (by kernel_rfl)
      exact wp_mv ((ev_of (e40 76 (by kernel_rfl))).trans h40) (done (by kernel_rfl) rbu_refl rfl)
    · refine rs_yes rfl rfl (by kernel_rfl) (by kernel_rfl : _ = some 77) (fun _ _ _ h => h) fun a wr S => ?_
      have X := undrew S.ext
      exact wp_mv (ev_of ((S.old 6 (by kernel_rfl)).trans rfl)) (done (by kernel_rfl) rbu_refl rfl)
    · refine rs_yes rfl rfl (by kernel_rfl) (by kernel_rfl : _ = some 77) (fun _ _ _ h => h) fun a wr S => ?_
      have X := undrew S.ext
      obtain ⟨v42, e42, h42⟩ := S.got 42 (by kernel_rfl)
      exact wp_not ((ev_of (e42 78 (by kernel_rfl))).trans h42) (done (by kernel_rfl) rbu_refl rfl)
    · refine rs_plain rfl rfl fun a wr S => ?_
      have X := undrew S.ext
      obtain ⟨v41, e41, h41⟩ := S.got 41 (by kernel_rfl)
      obtain ⟨v43, e43, h43⟩ := S.got 43 (by kernel_rfl)
      exact wp_pickT ((ev_of (e41 77 (by kernel_rfl))).trans h41) ((ev_of (e43 79 (by kernel_rfl))).trans h43) (done (by kernel_rfl) rbu_refl rfl)
    · refine rs_plain rfl rfl fun a wr S => ?_
      have X := undrew S.ext
      obtain ⟨v44, e44, h44⟩ := S.got 44 (by kernel_rfl)
      exact wp_mv ((ev_of (e44 80 (by kernel_rfl))).trans h44) (done (by kernel_rfl) rbu_refl rfl)
    · refine rs_yes rfl rfl (by kernel_rfl) (by kernel_rfl : _ = some 81) (fun _ _ _ h => h) fun a wr S => ?_
      have X := undrew S.ext
      exact wp_mv (ev_of ((S.old 8 (by kernel_rfl)).trans rfl)) (done (by kernel_rfl) rbu_refl rfl)
    · refine rs_plain rfl rfl fun a wr S => ?_
      have X := undrew S.ext
      obtain ⟨v45, e45, h45⟩ := S.got 45 (by kernel_rfl)
      obtain ⟨v46, e46, h46⟩ := S.got 46 (by kernel_rfl)
      exact wp_pickT ((ev_of (e45 81 (by kernel_rfl))).trans h45) ((ev_of (e46 82 (by kernel_rfl))).trans h46) (done (by kernel_rfl) rbu_refl rfl)
    · refine rs_plain rfl rfl fun a wr S => ?_
      have X := undrew S.ext
      obtain ⟨v47, e47, h47⟩ := S.got 47 (by kernel_rfl)
      exact wp_mv ((ev_of (e47 83 (by kernel_rfl))).trans h47) (done (by kernel_rfl) rbu_refl rfl)
    · refine rs_yes rfl rfl (by kernel_rfl) (by kernel_rfl : _ = some 84) (fun _ _ _ h => h) fun a wr S => ?_
      have X := undrew S.ext
      exact wp_qload (ev_of ((S.old 7 (by kernel_rfl)).trans rfl)) (P7.below X) (done (by kernel_rfl) rbu_refl rfl)
    · refine rs_yes rfl rfl (by kernel_rfl) (by kernel_rfl : _ = some 84) (fun _ _ _ h => h) fun a wr S => ?_
      have X := undrew S.ext
      obtain ⟨v49, e49, h49⟩ := S.got 49 (by kernel_rfl)
      exact st_call cf_rat_Text (args1 ((ev_of (e49 85 (by kernel_rfl))).trans h49)) (by kernel_rfl) rb (cQText (show IsQm _ _ _ _ from (Q7.below X).m) (by omega) (by omega)) (fun _ _ _ h => h)
    · refine rs_yes rfl rfl (by kernel_rfl) (by kernel_rfl : _ = some 84) (fun _ _ _ h => h) fun a wr S => ?_
      have X := undrew S.ext
      obtain ⟨v50, e50, h50⟩ := S.got 50 (by kernel_rfl)
      obtain ⟨sx, hsx, bsx⟩ := (show IsS _ _ from h50)
      exact wp_eqS ((ev_of (e50 86 (by kernel_rfl))).trans hsx) rfl (done (by kernel_rfl) rbu_refl (congrArg Value.bool (eqB bsx (by rfl) w_c)))
    · refine rs_plain rfl rfl fun a wr S => ?_
      have X := undrew S.ext
      obtain ⟨v48, e48, h48⟩ := S.got 48 (by kernel_rfl)
      obtain ⟨v51, e51, h51⟩ := S.got 51 (by kernel_rfl)
      exact wp_pickT ((ev_of (e48 84 (by kernel_rfl))).trans h48) ((ev_of (e51 87 (by kernel_rfl))).trans h51) (done (by kernel_rfl) rbu_refl rfl)
    · refine rs_plain rfl rfl fun a wr S => ?_
      have X := undrew S.ext
      obtain ⟨v52, e52, h52⟩ := S.got 52 (by kernel_rfl)
      exact wp_mv ((ev_of (e52 88 (by kernel_rfl))).trans h52) (done (by kernel_rfl) rbu_refl rfl)
    · refine rs_yes rfl rfl (by kernel_rfl) (by kernel_rfl : _ = some 89) (fun _ _ _ h => h) fun a wr S => ?_
      have X := undrew S.ext
      exact wp_mv (ev_of ((S.old 10 (by kernel_rfl)).trans rfl)) (done (by kernel_rfl) rbu_refl rfl)
    · refine rs_yes rfl rfl (by kernel_rfl) (by kernel_rfl : _ = some 89) (fun _ _ _ h => h) fun a wr S => ?_
      have X := undrew S.ext
      obtain ⟨v54, e54, h54⟩ := S.got 54 (by kernel_rfl)
      exact wp_not ((ev_of (e54 90 (by kernel_rfl))).trans h54) (done (by kernel_rfl) rbu_refl rfl)
    · refine rs_plain rfl rfl fun a wr S => ?_
      have X := undrew S.ext
      obtain ⟨v53, e53, h53⟩ := S.got 53 (by kernel_rfl)
      obtain ⟨v55, e55, h55⟩ := S.got 55 (by kernel_rfl)
      exact wp_pickT ((ev_of (e53 89 (by kernel_rfl))).trans h53) ((ev_of (e55 91 (by kernel_rfl))).trans h55) (done (by kernel_rfl) rbu_refl rfl)
    · refine rs_plain rfl rfl fun a wr S => ?_
      have X := undrew S.ext
      obtain ⟨v56, e56, h56⟩ := S.got 56 (by kernel_rfl)
      exact wp_as ((ev_of (e56 92 (by kernel_rfl))).trans h56) (done (by kernel_rfl) rbu_refl rfl)
  · intro fa w7 hR hv
    replace hR := undrew hR
    have f0 : fa 0 = .agg #[.bool b2, .slice A2 n2 c2, .slice B2 m2 d2] := (hvc (hv 0 (by omega))).elim fun _ h => h
    have f2 : fa 2 = .bool true := (hvc (hv 2 (by omega))).elim fun _ h => h
    have f3 : fa 3 = .bool true := (hvc (hv 3 (by omega))).elim fun _ h => h
    have f4 : fa 4 = .int .i64 0 := (hvc (hv 4 (by omega))).elim fun _ h => h
    have f5 : fa 5 = .bool true := (hvc (hv 5 (by omega))).elim fun _ h => h
    have f6 : fa 6 = .bool true := (hvc (hv 6 (by omega))).elim fun _ h => h
    have f7 : fa 7 = .bool true := (hvc (hv 7 (by omega))).elim fun _ h => h
    have f12 : fa 12 = .bool true := (hvc (hv 12 (by omega))).elim fun _ h => h
    have f13 : fa 13 = .bool true := (hvc (hv 13 (by omega))).elim fun _ h => h
    have f14 : fa 14 = .bool true := (hvc (hv 14 (by omega))).elim fun _ h => h
    have f15 : fa 15 = .agg #[.bool b2, .slice A2 n2 c2, .slice B2 m2 d2] := (hvc (hv 15 (by omega))).elim fun _ h => h
    have f19 : fa 19 = .bool true := (hvc (hv 19 (by omega))).elim fun _ h => h
    have f20 : fa 20 = .bool true := (hvc (hv 20 (by omega))).elim fun _ h => h
    have f21 : fa 21 = .bool true := (hvc (hv 21 (by omega))).elim fun _ h => h
    have f22 : fa 22 = .agg #[.bool b2, .slice A2 n2 c2, .slice B2 m2 d2] := (hvc (hv 22 (by omega))).elim fun _ h => h
    have f26 : fa 26 = .bool true := (hvc (hv 26 (by omega))).elim fun _ h => h
    have f27 : fa 27 = .bool true := (hvc (hv 27 (by omega))).elim fun _ h => h
    have f28 : fa 28 = .bool true := (hvc (hv 28 (by omega))).elim fun _ h => h
    have f29 : fa 29 = .agg #[.bool b2, .slice A2 n2 c2, .slice B2 m2 d2] := (hvc (hv 29 (by omega))).elim fun _ h => h
    have f33 : fa 33 = .bool true := (hvc (hv 33 (by omega))).elim fun _ h => h
    have f34 : fa 34 = .bool true := (hvc (hv 34 (by omega))).elim fun _ h => h
    have f35 : fa 35 = .bool true := (hvc (hv 35 (by omega))).elim fun _ h => h
    have f37 : fa 37 = .agg #[.bool false, .slice (some ⟨w2.heap.size + 1, 0, none⟩) 2 2, .slice (some ⟨w2.heap.size + 1 + 1, 0, none⟩) 1 1] := (hvc (hv 37 (by omega))).elim fun _ h => h
    have f38 : fa 38 = .int .i64 0 := (hvc (hv 38 (by omega))).elim fun _ h => h
    have f39 : fa 39 = .bool true := (hvc (hv 39 (by omega))).elim fun _ h => h
    have f40 : fa 40 = .bool true := (hvc (hv 40 (by omega))).elim fun _ h => h
    have f41 : fa 41 = .bool true := (hvc (hv 41 (by omega))).elim fun _ h => h
    have f42 : fa 42 = .bool false := (hvc (hv 42 (by omega))).elim fun _ h => h
    have f43 : fa 43 = .bool true := (hvc (hv 43 (by omega))).elim fun _ h => h
    have f44 : fa 44 = .bool true := (hvc (hv 44 (by omega))).elim fun _ h => h
    have f45 : fa 45 = .bool true := (hvc (hv 45 (by omega))).elim fun _ h => h
    have f46 : fa 46 = .bool true := (hvc (hv 46 (by omega))).elim fun _ h => h
    have f47 : fa 47 = .bool true := (hvc (hv 47 (by omega))).elim fun _ h => h
    have f48 : fa 48 = .bool true := (hvc (hv 48 (by omega))).elim fun _ h => h
    have f49 : fa 49 = .agg #[.bool b7, .slice A7 n7 c7, .slice B7 m7 d7] := (hvc (hv 49 (by omega))).elim fun _ h => h
    have f51 : fa 51 = .bool true := (hvc (hv 51 (by omega))).elim fun _ h => h
    have f52 : fa 52 = .bool true := (hvc (hv 52 (by omega))).elim fun _ h => h
    have f53 : fa 53 = .bool true := (hvc (hv 53 (by omega))).elim fun _ h => h
    have f54 : fa 54 = .bool false := (hvc (hv 54 (by omega))).elim fun _ h => h
    have f55 : fa 55 = .bool true := (hvc (hv 55 (by omega))).elim fun _ h => h
    have f56 : fa 56 = .bool true := (hvc (hv 56 (by omega))).elim fun _ h => h
    have f57 : fa 57 = .bool true := (hvc (hv 57 (by omega))).elim fun _ h => h
    simp only [putFn, Act.put, List.setIfInBounds_toArray, List.set_cons_zero, List.set_cons_succ, f0, f2, f3, f4, f5, f6, f7, f12, f13, f14, f15, f19, f20, f21, f22, f26, f27, f28, f29, f33, f34, f35, f37, f38, f39, f40, f41, f42, f43, f44, f45, f46, f47, f48, f49, f51, f52, f53, f54, f55, f56, f57]
    replace BB := bl_trans BB hR
    clear hR hv
    go_wp2_with fail
    go_ret
    exact ⟨_, rfl, BB, rfl⟩

end Go.Proofs.YtbhgbilhoonopaaGreat
