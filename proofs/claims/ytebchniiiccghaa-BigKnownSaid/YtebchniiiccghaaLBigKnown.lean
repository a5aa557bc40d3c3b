/- litmuslaw02.BigKnown answers true at every input, and changes nothing that was there: its walk. -/
import Derived.Test.YtebchniiiccghaaZK
namespace Go.Proofs.Ytebchniiiccghaa
open Go.RowKit
set_option linter.unusedVariables false
set_option maxRecDepth 100000

set_option maxHeartbeats 8000000 in
theorem bigKnown_walk (w : World) : Calls Try.prog 13 #[] w fun e w' => e = .returned (.bool true) ∧ Below w.heap.size w w' := by
  have RO : Rd ((((w.alloc (.cells #[.int .u32 7, .int .u32 0, .int .u32 0] 66)).alloc (.cells #[.bool true, .slice (some ⟨w.heap.size, 0, none⟩) 3 3] 32)).alloc (.cells #[.int .u32 0] 66)).alloc (.cells #[.bool true, .slice (some ⟨w.heap.size + 1 + 1, 0, none⟩) 1 1] 32)) (some ⟨w.heap.size, 0, none⟩) 3 3 [7, 0, 0] := (((lit3 w 7 0 0 _ _ _ (by decide) (by decide) (by decide) rfl rfl rfl).alloc (.cells #[.bool true, .slice (some ⟨w.heap.size, 0, none⟩) 3 3] 32)).alloc (.cells #[.int .u32 0] 66)).alloc (.cells #[.bool true, .slice (some ⟨w.heap.size + 1 + 1, 0, none⟩) 1 1] 32)
  have PO : Bz ((((w.alloc (.cells #[.int .u32 7, .int .u32 0, .int .u32 0] 66)).alloc (.cells #[.bool true, .slice (some ⟨w.heap.size, 0, none⟩) 3 3] 32)).alloc (.cells #[.int .u32 0] 66)).alloc (.cells #[.bool true, .slice (some ⟨w.heap.size + 1 + 1, 0, none⟩) 1 1] 32)) (w.heap.size + 1) true (some ⟨w.heap.size, 0, none⟩) 3 3 := ((Bz.new2 w (.cells #[.int .u32 7, .int .u32 0, .int .u32 0] 66) true (some ⟨w.heap.size, 0, none⟩) 3 3).alloc (.cells #[.int .u32 0] 66)).alloc (.cells #[.bool true, .slice (some ⟨w.heap.size + 1 + 1, 0, none⟩) 1 1] 32)
  have RZ : Rd ((((w.alloc (.cells #[.int .u32 7, .int .u32 0, .int .u32 0] 66)).alloc (.cells #[.bool true, .slice (some ⟨w.heap.size, 0, none⟩) 3 3] 32)).alloc (.cells #[.int .u32 0] 66)).alloc (.cells #[.bool true, .slice (some ⟨w.heap.size + 1 + 1, 0, none⟩) 1 1] 32)) (some ⟨w.heap.size + 1 + 1, 0, none⟩) 1 1 [0] := by
    have h := lit1 ((w.alloc (.cells #[.int .u32 7, .int .u32 0, .int .u32 0] 66)).alloc (.cells #[.bool true, .slice (some ⟨w.heap.size, 0, none⟩) 3 3] 32)) 0 0 (by decide) rfl
    rw [hs_alloc, hs_alloc] at h
    exact h.alloc (.cells #[.bool true, .slice (some ⟨w.heap.size + 1 + 1, 0, none⟩) 1 1] 32)
  have PZ : Bz ((((w.alloc (.cells #[.int .u32 7, .int .u32 0, .int .u32 0] 66)).alloc (.cells #[.bool true, .slice (some ⟨w.heap.size, 0, none⟩) 3 3] 32)).alloc (.cells #[.int .u32 0] 66)).alloc (.cells #[.bool true, .slice (some ⟨w.heap.size + 1 + 1, 0, none⟩) 1 1] 32)) (w.heap.size + 1 + 1 + 1) true (some ⟨w.heap.size + 1 + 1, 0, none⟩) 1 1 := by
    have h := Bz.new3 (w.alloc (.cells #[.int .u32 7, .int .u32 0, .int .u32 0] 66)) (.cells #[.bool true, .slice (some ⟨w.heap.size, 0, none⟩) 3 3] 32) (.cells #[.int .u32 0] 66) true (some ⟨w.heap.size + 1 + 1, 0, none⟩) 1 1
    rw [hs_alloc] at h
    exact h
  have QO : IsM ((((w.alloc (.cells #[.int .u32 7, .int .u32 0, .int .u32 0] 66)).alloc (.cells #[.bool true, .slice (some ⟨w.heap.size, 0, none⟩) 3 3] 32)).alloc (.cells #[.int .u32 0] 66)).alloc (.cells #[.bool true, .slice (some ⟨w.heap.size + 1 + 1, 0, none⟩) 1 1] 32)) (.agg #[.bool true, .slice (some ⟨w.heap.size, 0, none⟩) 3 3]) (-7) 3 := ⟨_, _, _, _, rfl, ⟨⟨7, ⟨⟨_, RO, by decide⟩, by omega⟩, rfl⟩⟩⟩
  have QZ : IsM ((((w.alloc (.cells #[.int .u32 7, .int .u32 0, .int .u32 0] 66)).alloc (.cells #[.bool true, .slice (some ⟨w.heap.size, 0, none⟩) 3 3] 32)).alloc (.cells #[.int .u32 0] 66)).alloc (.cells #[.bool true, .slice (some ⟨w.heap.size + 1 + 1, 0, none⟩) 1 1] 32)) (.agg #[.bool true, .slice (some ⟨w.heap.size + 1 + 1, 0, none⟩) 1 1]) 0 1 := ⟨_, _, _, _, rfl, ⟨⟨0, ⟨⟨_, RZ, by decide⟩, by omega⟩, rfl⟩⟩⟩
  have BB := bl_trans (bl_trans (bl_trans (bl_alloc w (.cells #[.int .u32 7, .int .u32 0, .int .u32 0] 66)) (bl_alloc _ (.cells #[.bool true, .slice (some ⟨w.heap.size, 0, none⟩) 3 3] 32))) (bl_alloc _ (.cells #[.int .u32 0] 66))) (bl_alloc _ (.cells #[.bool true, .slice (some ⟨w.heap.size + 1 + 1, 0, none⟩) 1 1] 32))
  go_enter Try.func13, Try.ntmps13
  go_wp2_with fail
  refine (cFrom _ (by omega) (by omega) (Nat.le_refl _)).mono ?_
  rintro e w1 ⟨_, rfl, hb1, b1, A1, n1, c1, rfl, Z1⟩
  replace RO := RO.below hb1
  replace RZ := RZ.below hb1
  replace PO := PO.below hb1
  replace PZ := PZ.below hb1
  replace QO := QO.below hb1
  replace QZ := QZ.below hb1
  replace BB := bl_trans BB hb1
  clear hb1
  have q1 : IsZ _ w1 (.agg #[.bool b1, .slice A1 n1 c1]) ((-9223372036854775808)) 2 := ⟨_, _, _, _, rfl, Z1⟩
  clear Z1
  go_wp2_with fail
  refine (cSmallY q1.m (by omega) (by omega) (by omega)).mono ?_
  rintro e w2 ⟨_, rfl, hb2, rfl⟩
  replace RO := RO.below hb2
  replace RZ := RZ.below hb2
  replace PO := PO.below hb2
  replace PZ := PZ.below hb2
  replace QO := QO.below hb2
  replace QZ := QZ.below hb2
  replace q1 := q1.below hb2
  replace BB := bl_trans BB hb2
  clear hb2
  go_wp2_with fail
  refine (cFrom _ (by omega) (by omega) (Nat.le_refl _)).mono ?_
  rintro e w3 ⟨_, rfl, hb3, b3, A3, n3, c3, rfl, Z3⟩
  replace RO := RO.below hb3
  replace RZ := RZ.below hb3
  replace PO := PO.below hb3
  replace PZ := PZ.below hb3
  replace QO := QO.below hb3
  replace QZ := QZ.below hb3
  replace q1 := q1.below hb3
  replace BB := bl_trans BB hb3
  clear hb3
  have q3 : IsZ _ w3 (.agg #[.bool b3, .slice A3 n3 c3]) ((-9223372036854775808)) 2 := ⟨_, _, _, _, rfl, Z3⟩
  clear Z3
  go_wp2_with fail
  refine (cFrom _ (by omega) (by omega) (Nat.le_refl _)).mono ?_
  rintro e w4 ⟨_, rfl, hb4, b4, A4, n4, c4, rfl, Z4⟩
  replace RO := RO.below hb4
  replace RZ := RZ.below hb4
  replace PO := PO.below hb4
  replace PZ := PZ.below hb4
  replace QO := QO.below hb4
  replace QZ := QZ.below hb4
  replace q1 := q1.below hb4
  replace q3 := q3.below hb4
  replace BB := bl_trans BB hb4
  clear hb4
  have q4 : IsZ _ w4 (.agg #[.bool b4, .slice A4 n4 c4]) (1) 2 := ⟨_, _, _, _, rfl, Z4⟩
  clear Z4
  go_wp2_with fail
  refine (cSub q3.m q4.m (by omega) (by omega) (Nat.le_refl _)).mono ?_
  rintro e w5 ⟨_, rfl, hb5, b5, A5, n5, c5, rfl, Z5⟩
  replace RO := RO.below hb5
  replace RZ := RZ.below hb5
  replace PO := PO.below hb5
  replace PZ := PZ.below hb5
  replace QO := QO.below hb5
  replace QZ := QZ.below hb5
  replace q1 := q1.below hb5
  replace q3 := q3.below hb5
  replace q4 := q4.below hb5
  replace BB := bl_trans BB hb5
  clear hb5
  have q5 : IsZ _ w5 (.agg #[.bool b5, .slice A5 n5 c5]) (((-9223372036854775808)) - 1) 3 := ⟨_, _, _, _, rfl, Z5⟩
  clear Z5
  go_wp2_with fail
  refine (cSmallN q5.m (by omega) (by omega)).mono ?_
  rintro e w6 ⟨_, rfl, hb6, rfl⟩
  replace RO := RO.below hb6
  replace RZ := RZ.below hb6
  replace PO := PO.below hb6
  replace PZ := PZ.below hb6
  replace QO := QO.below hb6
  replace QZ := QZ.below hb6
  replace q1 := q1.below hb6
  replace q3 := q3.below hb6
  replace q4 := q4.below hb6
  replace q5 := q5.below hb6
  replace BB := bl_trans BB hb6
  clear hb6
  have y5 := litN2 w6 0 2147483648 _ _ (by decide) (by decide) rfl rfl
  replace BB := bl_trans BB (bl_alloc w6 (.cells #[.int .u32 0, .int .u32 2147483648] 66))
  replace RO := RO.below (bl_alloc _ (.cells #[.int .u32 0, .int .u32 2147483648] 66))
  replace RZ := RZ.below (bl_alloc _ (.cells #[.int .u32 0, .int .u32 2147483648] 66))
  replace PO := PO.below (bl_alloc _ (.cells #[.int .u32 0, .int .u32 2147483648] 66))
  replace PZ := PZ.below (bl_alloc _ (.cells #[.int .u32 0, .int .u32 2147483648] 66))
  replace QO := QO.below (bl_alloc _ (.cells #[.int .u32 0, .int .u32 2147483648] 66))
  replace QZ := QZ.below (bl_alloc _ (.cells #[.int .u32 0, .int .u32 2147483648] 66))
  replace q1 := q1.below (bl_alloc _ (.cells #[.int .u32 0, .int .u32 2147483648] 66))
  replace q3 := q3.below (bl_alloc _ (.cells #[.int .u32 0, .int .u32 2147483648] 66))
  replace q4 := q4.below (bl_alloc _ (.cells #[.int .u32 0, .int .u32 2147483648] 66))
  replace q5 := q5.below (bl_alloc _ (.cells #[.int .u32 0, .int .u32 2147483648] 66))
  go_wp2_with fail
  refine (cOf false y5 (by omega) (Nat.le_refl _)).mono ?_
  rintro e w7 ⟨_, rfl, hb7, b7, A7, n7, c7, rfl, Z7⟩
  replace RO := RO.below hb7
  replace RZ := RZ.below hb7
  replace PO := PO.below hb7
  replace PZ := PZ.below hb7
  replace QO := QO.below hb7
  replace QZ := QZ.below hb7
  replace q1 := q1.below hb7
  replace q3 := q3.below hb7
  replace q4 := q4.below hb7
  replace q5 := q5.below hb7
  replace BB := bl_trans BB hb7
  clear hb7
  have q7 : IsZ _ w7 (.agg #[.bool b7, .slice A7 n7 c7]) (zv false (0 + M.R * 2147483648)) 2 := ⟨_, _, _, _, rfl, Z7⟩
  clear Z7
  clear y5
  go_wp2_with fail
  refine (cSmallN q7.m (by omega) (by rw [show zv false (0 + M.R * 2147483648) = 9223372036854775808 by decide]; omega)).mono ?_
  rintro e w8 ⟨_, rfl, hb8, rfl⟩
  replace RO := RO.below hb8
  replace RZ := RZ.below hb8
  replace PO := PO.below hb8
  replace PZ := PZ.below hb8
  replace QO := QO.below hb8
  replace QZ := QZ.below hb8
  replace q1 := q1.below hb8
  replace q3 := q3.below hb8
  replace q4 := q4.below hb8
  replace q5 := q5.below hb8
  replace q7 := q7.below hb8
  replace BB := bl_trans BB hb8
  clear hb8
  go_wp2_with fail
  refine (cFrom _ (by omega) (by omega) (Nat.le_refl _)).mono ?_
  rintro e w9 ⟨_, rfl, hb9, b9, A9, n9, c9, rfl, Z9⟩
  replace RO := RO.below hb9
  replace RZ := RZ.below hb9
  replace PO := PO.below hb9
  replace PZ := PZ.below hb9
  replace QO := QO.below hb9
  replace QZ := QZ.below hb9
  replace q1 := q1.below hb9
  replace q3 := q3.below hb9
  replace q4 := q4.below hb9
  replace q5 := q5.below hb9
  replace q7 := q7.below hb9
  replace BB := bl_trans BB hb9
  clear hb9
  have q9 : IsZ _ w9 (.agg #[.bool b9, .slice A9 n9 c9]) (9223372036854775807) 2 := ⟨_, _, _, _, rfl, Z9⟩
  clear Z9
  go_wp2_with fail
  refine (cSmallY q9.m (by omega) (by omega) (by omega)).mono ?_
  rintro e w10 ⟨_, rfl, hb10, rfl⟩
  replace RO := RO.below hb10
  replace RZ := RZ.below hb10
  replace PO := PO.below hb10
  replace PZ := PZ.below hb10
  replace QO := QO.below hb10
  replace QZ := QZ.below hb10
  replace q1 := q1.below hb10
  replace q3 := q3.below hb10
  replace q4 := q4.below hb10
  replace q5 := q5.below hb10
  replace q7 := q7.below hb10
  replace q9 := q9.below hb10
  replace BB := bl_trans BB hb10
  clear hb10
  have PO_0 := PO.c0
  have PO_1 := PO.c1
  have PZ_0 := PZ.c0
  have PZ_1 := PZ.c1
  go_wp2_with fail
  refine (cDiv0 QO QZ (by omega) (by omega) rfl (Nat.le_refl _)).mono ?_
  rintro e w11 ⟨_, rfl, hb11, b11, A11, n11, c11, rfl, Z11⟩
  clear PO_0 PO_1 PZ_0 PZ_1
  replace RO := RO.below hb11
  replace RZ := RZ.below hb11
  replace PO := PO.below hb11
  replace PZ := PZ.below hb11
  replace QO := QO.below hb11
  replace QZ := QZ.below hb11
  replace q1 := q1.below hb11
  replace q3 := q3.below hb11
  replace q4 := q4.below hb11
  replace q5 := q5.below hb11
  replace q7 := q7.below hb11
  replace q9 := q9.below hb11
  replace BB := bl_trans BB hb11
  clear hb11
  have q11 : IsZ _ w11 (.agg #[.bool b11, .slice A11 n11 c11]) (0) 0 := ⟨_, _, _, _, rfl, Z11⟩
  clear Z11
  replace BB := bl_trans BB (bl_alloc w11 (.cells #[.bool b11, .slice A11 n11 c11] 32))
  replace RO := RO.below (bl_alloc _ (.cells #[.bool b11, .slice A11 n11 c11] 32))
  replace RZ := RZ.below (bl_alloc _ (.cells #[.bool b11, .slice A11 n11 c11] 32))
  replace PO := PO.below (bl_alloc _ (.cells #[.bool b11, .slice A11 n11 c11] 32))
  replace PZ := PZ.below (bl_alloc _ (.cells #[.bool b11, .slice A11 n11 c11] 32))
  replace QO := QO.below (bl_alloc _ (.cells #[.bool b11, .slice A11 n11 c11] 32))
  replace QZ := QZ.below (bl_alloc _ (.cells #[.bool b11, .slice A11 n11 c11] 32))
  replace q1 := q1.below (bl_alloc _ (.cells #[.bool b11, .slice A11 n11 c11] 32))
  replace q3 := q3.below (bl_alloc _ (.cells #[.bool b11, .slice A11 n11 c11] 32))
  replace q4 := q4.below (bl_alloc _ (.cells #[.bool b11, .slice A11 n11 c11] 32))
  replace q5 := q5.below (bl_alloc _ (.cells #[.bool b11, .slice A11 n11 c11] 32))
  replace q7 := q7.below (bl_alloc _ (.cells #[.bool b11, .slice A11 n11 c11] 32))
  replace q9 := q9.below (bl_alloc _ (.cells #[.bool b11, .slice A11 n11 c11] 32))
  replace q11 := q11.below (bl_alloc _ (.cells #[.bool b11, .slice A11 n11 c11] 32))
  have P12 := Bz.new w11 b11 A11 n11 c11
  have PO_0 := PO.c0
  have PO_1 := PO.c1
  have PZ_0 := PZ.c0
  have PZ_1 := PZ.c1
  go_wp2_with fail
  refine (cMod0 QO QZ (by omega) (by omega) rfl (Nat.le_refl _)).mono ?_
  rintro e w13 ⟨_, rfl, hb13, b13, A13, n13, c13, rfl, Z13⟩
  clear PO_0 PO_1 PZ_0 PZ_1
  replace RO := RO.below hb13
  replace RZ := RZ.below hb13
  replace PO := PO.below hb13
  replace PZ := PZ.below hb13
  replace QO := QO.below hb13
  replace QZ := QZ.below hb13
  replace q1 := q1.below hb13
  replace q3 := q3.below hb13
  replace q4 := q4.below hb13
  replace q5 := q5.below hb13
  replace q7 := q7.below hb13
  replace q9 := q9.below hb13
  replace q11 := q11.below hb13
  replace P12 := P12.below hb13
  replace BB := bl_trans BB hb13
  clear hb13
  have q13 : IsZ _ w13 (.agg #[.bool b13, .slice A13 n13 c13]) (0) 0 := ⟨_, _, _, _, rfl, Z13⟩
  clear Z13
  replace BB := bl_trans BB (bl_alloc w13 (.cells #[.bool b13, .slice A13 n13 c13] 32))
  replace RO := RO.below (bl_alloc _ (.cells #[.bool b13, .slice A13 n13 c13] 32))
  replace RZ := RZ.below (bl_alloc _ (.cells #[.bool b13, .slice A13 n13 c13] 32))
  replace PO := PO.below (bl_alloc _ (.cells #[.bool b13, .slice A13 n13 c13] 32))
  replace PZ := PZ.below (bl_alloc _ (.cells #[.bool b13, .slice A13 n13 c13] 32))
  replace QO := QO.below (bl_alloc _ (.cells #[.bool b13, .slice A13 n13 c13] 32))
  replace QZ := QZ.below (bl_alloc _ (.cells #[.bool b13, .slice A13 n13 c13] 32))
  replace q1 := q1.below (bl_alloc _ (.cells #[.bool b13, .slice A13 n13 c13] 32))
  replace q3 := q3.below (bl_alloc _ (.cells #[.bool b13, .slice A13 n13 c13] 32))
  replace q4 := q4.below (bl_alloc _ (.cells #[.bool b13, .slice A13 n13 c13] 32))
  replace q5 := q5.below (bl_alloc _ (.cells #[.bool b13, .slice A13 n13 c13] 32))
  replace q7 := q7.below (bl_alloc _ (.cells #[.bool b13, .slice A13 n13 c13] 32))
  replace q9 := q9.below (bl_alloc _ (.cells #[.bool b13, .slice A13 n13 c13] 32))
  replace q11 := q11.below (bl_alloc _ (.cells #[.bool b13, .slice A13 n13 c13] 32))
  replace P12 := P12.below (bl_alloc _ (.cells #[.bool b13, .slice A13 n13 c13] 32))
  replace q13 := q13.below (bl_alloc _ (.cells #[.bool b13, .slice A13 n13 c13] 32))
  have P14 := Bz.new w13 b13 A13 n13 c13
  go_wp2_with fail
  refine (cParse_no _ (by decide) (by decide +kernel) (Nat.le_refl _)).mono ?_
  rintro e w15 ⟨_, rfl, hb15, b15, A15, n15, c15, rfl, Z15⟩
  replace RO := RO.below hb15
  replace RZ := RZ.below hb15
  replace PO := PO.below hb15
  replace PZ := PZ.below hb15
  replace QO := QO.below hb15
  replace QZ := QZ.below hb15
  replace q1 := q1.below hb15
  replace q3 := q3.below hb15
  replace q4 := q4.below hb15
  replace q5 := q5.below hb15
  replace q7 := q7.below hb15
  replace q9 := q9.below hb15
  replace q11 := q11.below hb15
  replace P12 := P12.below hb15
  replace q13 := q13.below hb15
  replace P14 := P14.below hb15
  replace BB := bl_trans BB hb15
  clear hb15
  have q15 : IsZ _ w15 (.agg #[.bool b15, .slice A15 n15 c15]) (0) 0 := ⟨_, _, _, _, rfl, Z15⟩
  clear Z15
  replace BB := bl_trans BB (bl_alloc w15 (.cells #[.bool b15, .slice A15 n15 c15] 32))
  replace RO := RO.below (bl_alloc _ (.cells #[.bool b15, .slice A15 n15 c15] 32))
  replace RZ := RZ.below (bl_alloc _ (.cells #[.bool b15, .slice A15 n15 c15] 32))
  replace PO := PO.below (bl_alloc _ (.cells #[.bool b15, .slice A15 n15 c15] 32))
  replace PZ := PZ.below (bl_alloc _ (.cells #[.bool b15, .slice A15 n15 c15] 32))
  replace QO := QO.below (bl_alloc _ (.cells #[.bool b15, .slice A15 n15 c15] 32))
  replace QZ := QZ.below (bl_alloc _ (.cells #[.bool b15, .slice A15 n15 c15] 32))
  replace q1 := q1.below (bl_alloc _ (.cells #[.bool b15, .slice A15 n15 c15] 32))
  replace q3 := q3.below (bl_alloc _ (.cells #[.bool b15, .slice A15 n15 c15] 32))
  replace q4 := q4.below (bl_alloc _ (.cells #[.bool b15, .slice A15 n15 c15] 32))
  replace q5 := q5.below (bl_alloc _ (.cells #[.bool b15, .slice A15 n15 c15] 32))
  replace q7 := q7.below (bl_alloc _ (.cells #[.bool b15, .slice A15 n15 c15] 32))
  replace q9 := q9.below (bl_alloc _ (.cells #[.bool b15, .slice A15 n15 c15] 32))
  replace q11 := q11.below (bl_alloc _ (.cells #[.bool b15, .slice A15 n15 c15] 32))
  replace P12 := P12.below (bl_alloc _ (.cells #[.bool b15, .slice A15 n15 c15] 32))
  replace q13 := q13.below (bl_alloc _ (.cells #[.bool b15, .slice A15 n15 c15] 32))
  replace P14 := P14.below (bl_alloc _ (.cells #[.bool b15, .slice A15 n15 c15] 32))
  replace q15 := q15.below (bl_alloc _ (.cells #[.bool b15, .slice A15 n15 c15] 32))
  have P16 := Bz.new w15 b15 A15 n15 c15
  go_wp2_with fail
  refine (cParse_no _ (by decide) (by decide +kernel) (Nat.le_refl _)).mono ?_
  rintro e w17 ⟨_, rfl, hb17, b17, A17, n17, c17, rfl, Z17⟩
  replace RO := RO.below hb17
  replace RZ := RZ.below hb17
  replace PO := PO.below hb17
  replace PZ := PZ.below hb17
  replace QO := QO.below hb17
  replace QZ := QZ.below hb17
  replace q1 := q1.below hb17
  replace q3 := q3.below hb17
  replace q4 := q4.below hb17
  replace q5 := q5.below hb17
  replace q7 := q7.below hb17
  replace q9 := q9.below hb17
  replace q11 := q11.below hb17
  replace P12 := P12.below hb17
  replace q13 := q13.below hb17
  replace P14 := P14.below hb17
  replace q15 := q15.below hb17
  replace P16 := P16.below hb17
  replace BB := bl_trans BB hb17
  clear hb17
  have q17 : IsZ _ w17 (.agg #[.bool b17, .slice A17 n17 c17]) (0) 0 := ⟨_, _, _, _, rfl, Z17⟩
  clear Z17
  replace BB := bl_trans BB (bl_alloc w17 (.cells #[.bool b17, .slice A17 n17 c17] 32))
  replace RO := RO.below (bl_alloc _ (.cells #[.bool b17, .slice A17 n17 c17] 32))
  replace RZ := RZ.below (bl_alloc _ (.cells #[.bool b17, .slice A17 n17 c17] 32))
  replace PO := PO.below (bl_alloc _ (.cells #[.bool b17, .slice A17 n17 c17] 32))
  replace PZ := PZ.below (bl_alloc _ (.cells #[.bool b17, .slice A17 n17 c17] 32))
  replace QO := QO.below (bl_alloc _ (.cells #[.bool b17, .slice A17 n17 c17] 32))
  replace QZ := QZ.below (bl_alloc _ (.cells #[.bool b17, .slice A17 n17 c17] 32))
  replace q1 := q1.below (bl_alloc _ (.cells #[.bool b17, .slice A17 n17 c17] 32))
  replace q3 := q3.below (bl_alloc _ (.cells #[.bool b17, .slice A17 n17 c17] 32))
  replace q4 := q4.below (bl_alloc _ (.cells #[.bool b17, .slice A17 n17 c17] 32))
  replace q5 := q5.below (bl_alloc _ (.cells #[.bool b17, .slice A17 n17 c17] 32))
  replace q7 := q7.below (bl_alloc _ (.cells #[.bool b17, .slice A17 n17 c17] 32))
  replace q9 := q9.below (bl_alloc _ (.cells #[.bool b17, .slice A17 n17 c17] 32))
  replace q11 := q11.below (bl_alloc _ (.cells #[.bool b17, .slice A17 n17 c17] 32))
  replace P12 := P12.below (bl_alloc _ (.cells #[.bool b17, .slice A17 n17 c17] 32))
  replace q13 := q13.below (bl_alloc _ (.cells #[.bool b17, .slice A17 n17 c17] 32))
  replace P14 := P14.below (bl_alloc _ (.cells #[.bool b17, .slice A17 n17 c17] 32))
  replace q15 := q15.below (bl_alloc _ (.cells #[.bool b17, .slice A17 n17 c17] 32))
  replace P16 := P16.below (bl_alloc _ (.cells #[.bool b17, .slice A17 n17 c17] 32))
  replace q17 := q17.below (bl_alloc _ (.cells #[.bool b17, .slice A17 n17 c17] 32))
  have P18 := Bz.new w17 b17 A17 n17 c17
  go_wp2_with fail
  refine (cParse_no _ (by decide) (by decide +kernel) (Nat.le_refl _)).mono ?_
  rintro e w19 ⟨_, rfl, hb19, b19, A19, n19, c19, rfl, Z19⟩
  replace RO := RO.below hb19
  replace RZ := RZ.below hb19
  replace PO := PO.below hb19
  replace PZ := PZ.below hb19
  replace QO := QO.below hb19
  replace QZ := QZ.below hb19
  replace q1 := q1.below hb19
  replace q3 := q3.below hb19
  replace q4 := q4.below hb19
  replace q5 := q5.below hb19
  replace q7 := q7.below hb19
  replace q9 := q9.below hb19
  replace q11 := q11.below hb19
  replace P12 := P12.below hb19
  replace q13 := q13.below hb19
  replace P14 := P14.below hb19
  replace q15 := q15.below hb19
  replace P16 := P16.below hb19
  replace q17 := q17.below hb19
  replace P18 := P18.below hb19
  replace BB := bl_trans BB hb19
  clear hb19
  have q19 : IsZ _ w19 (.agg #[.bool b19, .slice A19 n19 c19]) (0) 0 := ⟨_, _, _, _, rfl, Z19⟩
  clear Z19
  replace BB := bl_trans BB (bl_alloc w19 (.cells #[.bool b19, .slice A19 n19 c19] 32))
  replace RO := RO.below (bl_alloc _ (.cells #[.bool b19, .slice A19 n19 c19] 32))
  replace RZ := RZ.below (bl_alloc _ (.cells #[.bool b19, .slice A19 n19 c19] 32))
  replace PO := PO.below (bl_alloc _ (.cells #[.bool b19, .slice A19 n19 c19] 32))
  replace PZ := PZ.below (bl_alloc _ (.cells #[.bool b19, .slice A19 n19 c19] 32))
  replace QO := QO.below (bl_alloc _ (.cells #[.bool b19, .slice A19 n19 c19] 32))
  replace QZ := QZ.below (bl_alloc _ (.cells #[.bool b19, .slice A19 n19 c19] 32))
  replace q1 := q1.below (bl_alloc _ (.cells #[.bool b19, .slice A19 n19 c19] 32))
  replace q3 := q3.below (bl_alloc _ (.cells #[.bool b19, .slice A19 n19 c19] 32))
  replace q4 := q4.below (bl_alloc _ (.cells #[.bool b19, .slice A19 n19 c19] 32))
  replace q5 := q5.below (bl_alloc _ (.cells #[.bool b19, .slice A19 n19 c19] 32))
  replace q7 := q7.below (bl_alloc _ (.cells #[.bool b19, .slice A19 n19 c19] 32))
  replace q9 := q9.below (bl_alloc _ (.cells #[.bool b19, .slice A19 n19 c19] 32))
  replace q11 := q11.below (bl_alloc _ (.cells #[.bool b19, .slice A19 n19 c19] 32))
  replace P12 := P12.below (bl_alloc _ (.cells #[.bool b19, .slice A19 n19 c19] 32))
  replace q13 := q13.below (bl_alloc _ (.cells #[.bool b19, .slice A19 n19 c19] 32))
  replace P14 := P14.below (bl_alloc _ (.cells #[.bool b19, .slice A19 n19 c19] 32))
  replace q15 := q15.below (bl_alloc _ (.cells #[.bool b19, .slice A19 n19 c19] 32))
  replace P16 := P16.below (bl_alloc _ (.cells #[.bool b19, .slice A19 n19 c19] 32))
  replace q17 := q17.below (bl_alloc _ (.cells #[.bool b19, .slice A19 n19 c19] 32))
  replace P18 := P18.below (bl_alloc _ (.cells #[.bool b19, .slice A19 n19 c19] 32))
  replace q19 := q19.below (bl_alloc _ (.cells #[.bool b19, .slice A19 n19 c19] 32))
  have P20 := Bz.new w19 b19 A19 n19 c19
  go_wp2_with fail
  refine (cParse_no _ (by decide) (by decide +kernel) (Nat.le_refl _)).mono ?_
  rintro e w21 ⟨_, rfl, hb21, b21, A21, n21, c21, rfl, Z21⟩
  replace RO := RO.below hb21
  replace RZ := RZ.below hb21
  replace PO := PO.below hb21
  replace PZ := PZ.below hb21
  replace QO := QO.below hb21
  replace QZ := QZ.below hb21
  replace q1 := q1.below hb21
  replace q3 := q3.below hb21
  replace q4 := q4.below hb21
  replace q5 := q5.below hb21
  replace q7 := q7.below hb21
  replace q9 := q9.below hb21
  replace q11 := q11.below hb21
  replace P12 := P12.below hb21
  replace q13 := q13.below hb21
  replace P14 := P14.below hb21
  replace q15 := q15.below hb21
  replace P16 := P16.below hb21
  replace q17 := q17.below hb21
  replace P18 := P18.below hb21
  replace q19 := q19.below hb21
  replace P20 := P20.below hb21
  replace BB := bl_trans BB hb21
  clear hb21
  have q21 : IsZ _ w21 (.agg #[.bool b21, .slice A21 n21 c21]) (0) 0 := ⟨_, _, _, _, rfl, Z21⟩
  clear Z21
  replace BB := bl_trans BB (bl_alloc w21 (.cells #[.bool b21, .slice A21 n21 c21] 32))
  replace RO := RO.below (bl_alloc _ (.cells #[.bool b21, .slice A21 n21 c21] 32))
  replace RZ := RZ.below (bl_alloc _ (.cells #[.bool b21, .slice A21 n21 c21] 32))
  replace PO := PO.below (bl_alloc _ (.cells #[.bool b21, .slice A21 n21 c21] 32))
  replace PZ := PZ.below (bl_alloc _ (.cells #[.bool b21, .slice A21 n21 c21] 32))
  replace QO := QO.below (bl_alloc _ (.cells #[.bool b21, .slice A21 n21 c21] 32))
  replace QZ := QZ.below (bl_alloc _ (.cells #[.bool b21, .slice A21 n21 c21] 32))
  replace q1 := q1.below (bl_alloc _ (.cells #[.bool b21, .slice A21 n21 c21] 32))
  replace q3 := q3.below (bl_alloc _ (.cells #[.bool b21, .slice A21 n21 c21] 32))
  replace q4 := q4.below (bl_alloc _ (.cells #[.bool b21, .slice A21 n21 c21] 32))
  replace q5 := q5.below (bl_alloc _ (.cells #[.bool b21, .slice A21 n21 c21] 32))
  replace q7 := q7.below (bl_alloc _ (.cells #[.bool b21, .slice A21 n21 c21] 32))
  replace q9 := q9.below (bl_alloc _ (.cells #[.bool b21, .slice A21 n21 c21] 32))
  replace q11 := q11.below (bl_alloc _ (.cells #[.bool b21, .slice A21 n21 c21] 32))
  replace P12 := P12.below (bl_alloc _ (.cells #[.bool b21, .slice A21 n21 c21] 32))
  replace q13 := q13.below (bl_alloc _ (.cells #[.bool b21, .slice A21 n21 c21] 32))
  replace P14 := P14.below (bl_alloc _ (.cells #[.bool b21, .slice A21 n21 c21] 32))
  replace q15 := q15.below (bl_alloc _ (.cells #[.bool b21, .slice A21 n21 c21] 32))
  replace P16 := P16.below (bl_alloc _ (.cells #[.bool b21, .slice A21 n21 c21] 32))
  replace q17 := q17.below (bl_alloc _ (.cells #[.bool b21, .slice A21 n21 c21] 32))
  replace P18 := P18.below (bl_alloc _ (.cells #[.bool b21, .slice A21 n21 c21] 32))
  replace q19 := q19.below (bl_alloc _ (.cells #[.bool b21, .slice A21 n21 c21] 32))
  replace P20 := P20.below (bl_alloc _ (.cells #[.bool b21, .slice A21 n21 c21] 32))
  replace q21 := q21.below (bl_alloc _ (.cells #[.bool b21, .slice A21 n21 c21] 32))
  have P22 := Bz.new w21 b21 A21 n21 c21
  go_wp2_with fail
  simp only [List.append_eq, List.cons_append, List.nil_append]
  refine wp_region_list (Ext := RB) (Rel := RBu) [fun v _ _ => v = Value.bool true, fun v _ _ => v = .bool true, fun v _ _ => v = .bool true, fun v _ _ => v = .bool true, fun v _ _ => v = .agg #[.bool true, .slice (some ⟨w.heap.size, 0, none⟩) 3 3], fun v _ _ => v = .bool false, fun v _ _ => v = .bool true, fun v _ _ => v = .bool true, fun v _ _ => v = .bool true, fun v _ _ => v = .agg #[.bool true, .slice (some ⟨w.heap.size + 1 + 1, 0, none⟩) 1 1], fun v _ _ => v = .bool false, fun v _ _ => v = .bool true, fun v _ _ => v = .bool true, fun v _ _ => v = .bool true, fun v _ w => IsT w v (0) 0, fun v _ _ => v = .bool true, fun v _ _ => v = .bool true, fun v _ _ => v = .bool true, fun v _ _ => v = .agg #[.bool true, .slice (some ⟨w.heap.size + 1 + 1, 0, none⟩) 1 1], fun v _ _ => v = .int .i64 0, fun v _ _ => v = .bool true, fun v _ _ => v = .bool true, fun v _ _ => v = .bool true, fun v _ _ => v = .agg #[.bool true, .slice (some ⟨w.heap.size, 0, none⟩) 3 3], fun v _ _ => v = .int .i64 (-1), fun v _ _ => v = .bool true, fun v _ _ => v = .bool true, fun v _ _ => v = .bool true, fun v _ _ => v = .agg #[.bool true, .slice (some ⟨w.heap.size, 0, none⟩) 3 3], fun v _ _ => v = .agg #[.bool true, .slice (some ⟨w.heap.size + 1 + 1, 0, none⟩) 1 1], fun v _ w => IsR2 w v (-7) 3 (0) 1, fun v _ w => IsZ ((w21.alloc (.cells #[.bool b21, .slice A21 n21 c21] 32))).heap.size w v ((-7) + 0) 4, fun v _ _ => v = .bool true, fun v _ _ => v = .bool true, fun v _ _ => v = .bool true, fun v _ _ => v = .agg #[.bool true, .slice (some ⟨w.heap.size + 1 + 1, 0, none⟩) 1 1], fun v _ w => IsZ ((w21.alloc (.cells #[.bool b21, .slice A21 n21 c21] 32))).heap.size w v (-0) 1, fun v _ w => IsT w v (0) 0, fun v _ _ => v = .bool true, fun v _ _ => v = .bool true, fun v _ _ => v = .bool true, fun v _ _ => v = .agg #[.bool true, .slice (some ⟨w.heap.size, 0, none⟩) 3 3], fun v _ w => IsZ ((w21.alloc (.cells #[.bool b21, .slice A21 n21 c21] 32))).heap.size w v ((-7)) 2, fun v _ _ => v = .int .i64 0, fun v _ _ => v = .bool true, fun v _ _ => v = .bool true, fun v _ _ => v = .bool true, fun v _ _ => v = .bool true, fun v _ _ => v = .bool true, fun v _ _ => v = .bool true, fun v _ _ => v = .int .i64 (-9223372036854775808), fun v _ _ => v = .bool true, fun v _ _ => v = .bool true, fun v _ _ => v = .bool true, fun v _ _ => v = .bool false, fun v _ _ => v = .bool true, fun v _ _ => v = .bool true, fun v _ _ => v = .bool true, fun v _ _ => v = .bool false, fun v _ _ => v = .bool true, fun v _ _ => v = .bool true, fun v _ _ => v = .bool true, fun v _ _ => v = .bool true, fun v _ _ => v = .bool true, fun v _ _ => v = .bool true, fun v _ _ => v = .int .i64 (9223372036854775807), fun v _ _ => v = .bool true, fun v _ _ => v = .bool true, fun v _ _ => v = .bool true, fun v _ _ => v = .int .i64 3, fun v _ _ => v = .bool true, fun v _ _ => v = .bool true, fun v _ _ => v = .bool true, fun v _ _ => v = .int .i64 3, fun v _ _ => v = .bool true, fun v _ _ => v = .bool true, fun v _ _ => v = .bool true, fun v _ _ => v = .bool false, fun v _ _ => v = .bool true, fun v _ _ => v = .bool true, fun v _ _ => v = .bool true, fun v _ _ => v = .bool false, fun v _ _ => v = .bool true, fun v _ _ => v = .bool true, fun v _ _ => v = .bool true, fun v _ _ => v = .bool false, fun v _ _ => v = .bool true, fun v _ _ => v = .bool true, fun v _ _ => v = .bool true, fun v _ _ => v = .bool false, fun v _ _ => v = .bool true, fun v _ _ => v = .bool true, fun v _ _ => v = .bool true, fun v _ w => IsZ ((w21.alloc (.cells #[.bool b21, .slice A21 n21 c21] 32))).heap.size w v (0) 0, fun v _ w => IsT w v (0) 0, fun v _ _ => v = .bool true, fun v _ _ => v = .bool true, fun v _ _ => v = .bool true, fun v _ _ => v = .agg #[.bool true, .slice (some ⟨w.heap.size, 0, none⟩) 3 3], fun v _ _ => v = .agg #[.bool true, .slice (some ⟨w.heap.size, 0, none⟩) 3 3], fun v _ _ => v = .agg #[.bool true, .slice (some ⟨w.heap.size, 0, none⟩) 3 3], fun v _ w => IsP3 w v ((-7) * ((-7) * ((-7) * 1))), fun v _ w => IsZ ((w21.alloc (.cells #[.bool b21, .slice A21 n21 c21] 32))).heap.size w v ((-7) * ((-7) * ((-7) * 1))) 32, fun v _ _ => v = .bool true, fun v _ _ => v = .bool true, fun v _ _ => v = .bool true, fun v _ _ => v = .bool true, fun v _ _ => v = .bool true, fun v _ _ => v = .bool true, fun v _ _ => v = .bool true, fun v _ _ => v = .bool true, fun v _ _ => v = .bool true, fun v _ _ => v = .bool true, fun v _ _ => v = .bool true, fun v _ _ => v = .bool true, fun v _ _ => v = .bool true, fun v _ _ => v = .bool true, fun v _ _ => v = .bool true, fun v _ w => IsZ ((w21.alloc (.cells #[.bool b21, .slice A21 n21 c21] 32))).heap.size w v ((-9223372036854775808)) 2, fun v _ w => IsZ ((w21.alloc (.cells #[.bool b21, .slice A21 n21 c21] 32))).heap.size w v (-((-9223372036854775808))) 2, fun v _ _ => v = .bool true, fun v _ _ => v = .bool true, fun v _ _ => v = .bool true] (n := 123) (by kernel_rfl) rfl (by kernel_rfl) (by kernel_rfl) (by kernel_rfl) (by kernel_rfl) (by kernel_rfl) rb_refl rb_trans ⟨sC, ⟨sC, ⟨sC, ⟨sC, ⟨sC, ⟨sC, ⟨sC, ⟨sC, ⟨sC, ⟨sC, ⟨sC, ⟨sC, ⟨sC, ⟨sC, ⟨sT, ⟨sC, ⟨sC, ⟨sC, ⟨sC, ⟨sC, ⟨sC, ⟨sC, ⟨sC, ⟨sC, ⟨sC, ⟨sC, ⟨sC, ⟨sC, ⟨sC, ⟨sC, ⟨sR2, ⟨sZ, ⟨sC, ⟨sC, ⟨sC, ⟨sC, ⟨sZ, ⟨sT, ⟨sC, ⟨sC, ⟨sC, ⟨sC, ⟨sZ, ⟨sC, ⟨sC, ⟨sC, ⟨sC, ⟨sC, ⟨sC, ⟨sC, ⟨sC, ⟨sC, ⟨sC, ⟨sC, ⟨sC, ⟨sC, ⟨sC, ⟨sC, ⟨sC, ⟨sC, ⟨sC, ⟨sC, ⟨sC, ⟨sC, ⟨sC, ⟨sC, ⟨sC, ⟨sC, ⟨sC, ⟨sC, ⟨sC, ⟨sC, ⟨sC, ⟨sC, ⟨sC, ⟨sC, ⟨sC, ⟨sC, ⟨sC, ⟨sC, ⟨sC, ⟨sC, ⟨sC, ⟨sC, ⟨sC, ⟨sC, ⟨sC, ⟨sC, ⟨sC, ⟨sC, ⟨sC, ⟨sC, ⟨sC, ⟨sZ, ⟨sT, ⟨sC, ⟨sC, ⟨sC, ⟨sC, ⟨sC, ⟨sC, ⟨sP3, ⟨sZ, ⟨sC, ⟨sC, ⟨sC, ⟨sC, ⟨sC, ⟨sC, ⟨sC, ⟨sC, ⟨sC, ⟨sC, ⟨sC, ⟨sC, ⟨sC, ⟨sC, ⟨sC, ⟨sZ, ⟨sZ, ⟨sC, ⟨sC, ⟨sC, trivial⟩⟩⟩⟩⟩⟩⟩⟩⟩⟩⟩⟩⟩⟩⟩⟩⟩⟩⟩⟩⟩⟩⟩⟩⟩⟩⟩⟩⟩⟩⟩⟩⟩⟩⟩⟩⟩⟩⟩⟩⟩⟩⟩⟩⟩⟩⟩⟩⟩⟩⟩⟩⟩⟩⟩⟩⟩⟩⟩⟩⟩⟩⟩⟩⟩⟩⟩⟩⟩⟩⟩⟩⟩⟩⟩⟩⟩⟩⟩⟩⟩⟩⟩⟩⟩⟩⟩⟩⟩⟩⟩⟩⟩⟩⟩⟩⟩⟩⟩⟩⟩⟩⟩⟩⟩⟩⟩⟩⟩⟩⟩⟩⟩⟩⟩⟩⟩⟩⟩⟩⟩⟩⟩ ?_ ?_
  · refine ⟨⟨⟨⟨⟨⟨⟨⟨⟨⟨⟨⟨⟨⟨⟨⟨⟨⟨⟨⟨⟨⟨⟨⟨⟨⟨⟨⟨⟨⟨⟨⟨⟨⟨⟨⟨⟨⟨⟨⟨⟨⟨⟨⟨⟨⟨⟨⟨⟨⟨⟨⟨⟨⟨⟨⟨⟨⟨⟨⟨⟨⟨⟨⟨⟨⟨⟨⟨⟨⟨⟨⟨⟨⟨⟨⟨⟨⟨⟨⟨⟨⟨⟨⟨⟨⟨⟨⟨⟨⟨⟨⟨⟨⟨⟨⟨⟨⟨⟨⟨⟨⟨⟨⟨⟨⟨⟨⟨⟨⟨⟨⟨⟨⟨⟨⟨⟨⟨⟨⟨⟨⟨⟨trivial, ?_⟩, ?_⟩, ?_⟩, ?_⟩, ?_⟩, ?_⟩, ?_⟩, ?_⟩, ?_⟩, ?_⟩, ?_⟩, ?_⟩, ?_⟩, ?_⟩, ?_⟩, ?_⟩, ?_⟩, ?_⟩, ?_⟩, ?_⟩, ?_⟩, ?_⟩, ?_⟩, ?_⟩, ?_⟩, ?_⟩, ?_⟩, ?_⟩, ?_⟩, ?_⟩, ?_⟩, ?_⟩, ?_⟩, ?_⟩, ?_⟩, ?_⟩, ?_⟩, ?_⟩, ?_⟩, ?_⟩, ?_⟩, ?_⟩, ?_⟩, ?_⟩, ?_⟩, ?_⟩, ?_⟩, ?_⟩, ?_⟩, ?_⟩, ?_⟩, ?_⟩, ?_⟩, ?_⟩, ?_⟩, ?_⟩, ?_⟩, ?_⟩, ?_⟩, ?_⟩, ?_⟩, ?_⟩, ?_⟩, ?_⟩, ?_⟩, ?_⟩, ?_⟩, ?_⟩, ?_⟩, ?_⟩, ?_⟩, ?_⟩, ?_⟩, ?_⟩, ?_⟩, ?_⟩, ?_⟩, ?_⟩, ?_⟩, ?_⟩, ?_⟩, ?_⟩, ?_⟩, ?_⟩, ?_⟩, ?_⟩, ?_⟩, ?_⟩, ?_⟩, ?_⟩, ?_⟩, ?_⟩, ?_⟩, ?_⟩, ?_⟩, ?_⟩, ?_⟩, ?_⟩, ?_⟩, ?_⟩, ?_⟩, ?_⟩, ?_⟩, ?_⟩, ?_⟩, ?_⟩, ?_⟩, ?_⟩, ?_⟩, ?_⟩, ?_⟩, ?_⟩, ?_⟩, ?_⟩, ?_⟩, ?_⟩, ?_⟩, ?_⟩, ?_⟩, ?_⟩, ?_⟩, ?_⟩, ?_⟩
    · refine rs_plain rfl rfl fun a wr S => ?_
      have X := undrew S.ext
      exact wp_mv rfl (done (by kernel_rfl) rbu_refl rfl)
    · refine rs_yes rfl rfl (by kernel_rfl) (by kernel_rfl : _ = some 78) (fun _ _ _ h => h) fun a wr S => ?_
      have X := undrew S.ext
      exact st_call cf_law02_works (show (#[] : Array Operand).map a.eval = #[] by simp) (by kernel_rfl) rb (cWorks _) (fun _ _ _ h => h)
    · refine rs_plain rfl rfl fun a wr S => ?_
      have X := undrew S.ext
      obtain ⟨v0, e0, h0⟩ := S.got 0 (by kernel_rfl)
      obtain ⟨v1, e1, h1⟩ := S.got 1 (by kernel_rfl)
      exact wp_pickT ((ev_of (e0 78 (by kernel_rfl))).trans h0) ((ev_of (e1 79 (by kernel_rfl))).trans h1) (done (by kernel_rfl) rbu_refl rfl)
    · refine rs_plain rfl rfl fun a wr S => ?_
      have X := undrew S.ext
      obtain ⟨v2, e2, h2⟩ := S.got 2 (by kernel_rfl)
      exact wp_mv ((ev_of (e2 80 (by kernel_rfl))).trans h2) (done (by kernel_rfl) rbu_refl rfl)
    · refine rs_yes rfl rfl (by kernel_rfl) (by kernel_rfl : _ = some 81) (fun _ _ _ h => h) fun a wr S => ?_
      have X := undrew S.ext
      exact wp_load (ev_of ((S.old 1 (by kernel_rfl)).trans rfl)) (PO.below X) (done (by kernel_rfl) rbu_refl rfl)
    · refine rs_yes rfl rfl (by kernel_rfl) (by kernel_rfl : _ = some 81) (fun _ _ _ h => h) fun a wr S => ?_
      have X := undrew S.ext
      obtain ⟨v4, e4, h4⟩ := S.got 4 (by kernel_rfl)
      exact st_call cf_big_Right (args1 ((ev_of (e4 82 (by kernel_rfl))).trans h4)) (by kernel_rfl) rb (cRight_no (RO.below X) (by omega) (by omega) rfl) (fun _ _ _ h => h)
    · refine rs_yes rfl rfl (by kernel_rfl) (by kernel_rfl : _ = some 81) (fun _ _ _ h => h) fun a wr S => ?_
      have X := undrew S.ext
      obtain ⟨v5, e5, h5⟩ := S.got 5 (by kernel_rfl)
      exact wp_not ((ev_of (e5 83 (by kernel_rfl))).trans h5) (done (by kernel_rfl) rbu_refl rfl)
    · refine rs_plain rfl rfl fun a wr S => ?_
      have X := undrew S.ext
      obtain ⟨v3, e3, h3⟩ := S.got 3 (by kernel_rfl)
      obtain ⟨v6, e6, h6⟩ := S.got 6 (by kernel_rfl)
      exact wp_pickT ((ev_of (e3 81 (by kernel_rfl))).trans h3) ((ev_of (e6 84 (by kernel_rfl))).trans h6) (done (by kernel_rfl) rbu_refl rfl)
    · refine rs_plain rfl rfl fun a wr S => ?_
      have X := undrew S.ext
      obtain ⟨v7, e7, h7⟩ := S.got 7 (by kernel_rfl)
      exact wp_mv ((ev_of (e7 85 (by kernel_rfl))).trans h7) (done (by kernel_rfl) rbu_refl rfl)
    · refine rs_yes rfl rfl (by kernel_rfl) (by kernel_rfl : _ = some 86) (fun _ _ _ h => h) fun a wr S => ?_
      have X := undrew S.ext
      exact wp_load (ev_of ((S.old 2 (by kernel_rfl)).trans rfl)) (PZ.below X) (done (by kernel_rfl) rbu_refl rfl)
    · refine rs_yes rfl rfl (by kernel_rfl) (by kernel_rfl : _ = some 86) (fun _ _ _ h => h) fun a wr S => ?_
      have X := undrew S.ext
      obtain ⟨v9, e9, h9⟩ := S.got 9 (by kernel_rfl)
      exact st_call cf_big_Right (args1 ((ev_of (e9 87 (by kernel_rfl))).trans h9)) (by kernel_rfl) rb (cRight_no (RZ.below X) (by omega) (by omega) rfl) (fun _ _ _ h => h)
    · refine rs_yes rfl rfl (by kernel_rfl) (by kernel_rfl : _ = some 86) (fun _ _ _ h => h) fun a wr S => ?_
      have X := undrew S.ext
      obtain ⟨v10, e10, h10⟩ := S.got 10 (by kernel_rfl)
      exact wp_not ((ev_of (e10 88 (by kernel_rfl))).trans h10) (done (by kernel_rfl) rbu_refl rfl)
    · refine rs_plain rfl rfl fun a wr S => ?_
      have X := undrew S.ext
      obtain ⟨v8, e8, h8⟩ := S.got 8 (by kernel_rfl)
      obtain ⟨v11, e11, h11⟩ := S.got 11 (by kernel_rfl)
      exact wp_pickT ((ev_of (e8 86 (by kernel_rfl))).trans h8) ((ev_of (e11 89 (by kernel_rfl))).trans h11) (done (by kernel_rfl) rbu_refl rfl)
    · refine rs_plain rfl rfl fun a wr S => ?_
      have X := undrew S.ext
      obtain ⟨v12, e12, h12⟩ := S.got 12 (by kernel_rfl)
      exact wp_mv ((ev_of (e12 90 (by kernel_rfl))).trans h12) (done (by kernel_rfl) rbu_refl rfl)
    · refine rs_yes rfl rfl (by kernel_rfl) (by kernel_rfl : _ = some 91) (fun _ _ _ h => h) fun a wr S => ?_
      have X := undrew S.ext
      exact wp_build0 (done (by kernel_rfl) rbu_refl (IsT.zero _ 0))
    · refine rs_yes rfl rfl (by kernel_rfl) (by kernel_rfl : _ = some 91) (fun _ _ _ h => h) fun a wr S => ?_
      have X := undrew S.ext
      obtain ⟨v14, e14, h14⟩ := S.got 14 (by kernel_rfl)
      exact st_call cf_big_Right (args1 (ev_of (e14 92 (by kernel_rfl)))) (by kernel_rfl) rb (cRight h14 (by omega)) (fun _ _ _ h => h)
    · refine rs_plain rfl rfl fun a wr S => ?_
      have X := undrew S.ext
      obtain ⟨v13, e13, h13⟩ := S.got 13 (by kernel_rfl)
      obtain ⟨v15, e15, h15⟩ := S.got 15 (by kernel_rfl)
      exact wp_pickT ((ev_of (e13 91 (by kernel_rfl))).trans h13) ((ev_of (e15 93 (by kernel_rfl))).trans h15) (done (by kernel_rfl) rbu_refl rfl)
    · refine rs_plain rfl rfl fun a wr S => ?_
      have X := undrew S.ext
      obtain ⟨v16, e16, h16⟩ := S.got 16 (by kernel_rfl)
      exact wp_mv ((ev_of (e16 94 (by kernel_rfl))).trans h16) (done (by kernel_rfl) rbu_refl rfl)
    · refine rs_yes rfl rfl (by kernel_rfl) (by kernel_rfl : _ = some 95) (fun _ _ _ h => h) fun a wr S => ?_
      have X := undrew S.ext
      exact wp_load (ev_of ((S.old 2 (by kernel_rfl)).trans rfl)) (PZ.below X) (done (by kernel_rfl) rbu_refl rfl)
    · refine rs_yes rfl rfl (by kernel_rfl) (by kernel_rfl : _ = some 95) (fun _ _ _ h => h) fun a wr S => ?_
      have X := undrew S.ext
      obtain ⟨v18, e18, h18⟩ := S.got 18 (by kernel_rfl)
      exact st_call cf_big_Sign (args1 ((ev_of (e18 96 (by kernel_rfl))).trans h18)) (by kernel_rfl) rb (cSign (QZ.below X) (by omega) (sgn_zero rfl)) (fun _ _ _ h => h)
    · refine rs_yes rfl rfl (by kernel_rfl) (by kernel_rfl : _ = some 95) (fun _ _ _ h => h) fun a wr S => ?_
      have X := undrew S.ext
      obtain ⟨v19, e19, h19⟩ := S.got 19 (by kernel_rfl)
      exact wp_eqI ((ev_of (e19 97 (by kernel_rfl))).trans h19) rfl (Or.inl rfl) (done (by kernel_rfl) rbu_refl (congrArg Value.bool (by decide)))
    · refine rs_plain rfl rfl fun a wr S => ?_
      have X := undrew S.ext
      obtain ⟨v17, e17, h17⟩ := S.got 17 (by kernel_rfl)
      obtain ⟨v20, e20, h20⟩ := S.got 20 (by kernel_rfl)
      exact wp_pickT ((ev_of (e17 95 (by kernel_rfl))).trans h17) ((ev_of (e20 98 (by kernel_rfl))).trans h20) (done (by kernel_rfl) rbu_refl rfl)
    · refine rs_plain rfl rfl fun a wr S => ?_
      have X := undrew S.ext
      obtain ⟨v21, e21, h21⟩ := S.got 21 (by kernel_rfl)
      exact wp_mv ((ev_of (e21 99 (by kernel_rfl))).trans h21) (done (by kernel_rfl) rbu_refl rfl)
    · refine rs_yes rfl rfl (by kernel_rfl) (by kernel_rfl : _ = some 100) (fun _ _ _ h => h) fun a wr S => ?_
      have X := undrew S.ext
      exact wp_load (ev_of ((S.old 1 (by kernel_rfl)).trans rfl)) (PO.below X) (done (by kernel_rfl) rbu_refl rfl)
    · refine rs_yes rfl rfl (by kernel_rfl) (by kernel_rfl : _ = some 100) (fun _ _ _ h => h) fun a wr S => ?_
      have X := undrew S.ext
      obtain ⟨v23, e23, h23⟩ := S.got 23 (by kernel_rfl)
      exact st_call cf_big_Sign (args1 ((ev_of (e23 101 (by kernel_rfl))).trans h23)) (by kernel_rfl) rb (cSign (QO.below X) (by omega) (sgn_neg (by decide))) (fun _ _ _ h => h)
    · refine rs_yes rfl rfl (by kernel_rfl) (by kernel_rfl : _ = some 100) (fun _ _ _ h => h) fun a wr S => ?_
      have X := undrew S.ext
      obtain ⟨v24, e24, h24⟩ := S.got 24 (by kernel_rfl)
      exact wp_eqI ((ev_of (e24 102 (by kernel_rfl))).trans h24) rfl (Or.inl rfl) (done (by kernel_rfl) rbu_refl (congrArg Value.bool (by decide)))
    · refine rs_plain rfl rfl fun a wr S => ?_
      have X := undrew S.ext
      obtain ⟨v22, e22, h22⟩ := S.got 22 (by kernel_rfl)
      obtain ⟨v25, e25, h25⟩ := S.got 25 (by kernel_rfl)
      exact wp_pickT ((ev_of (e22 100 (by kernel_rfl))).trans h22) ((ev_of (e25 103 (by kernel_rfl))).trans h25) (done (by kernel_rfl) rbu_refl rfl)
    · refine rs_plain rfl rfl fun a wr S => ?_
      have X := undrew S.ext
      obtain ⟨v26, e26, h26⟩ := S.got 26 (by kernel_rfl)
      exact wp_mv ((ev_of (e26 104 (by kernel_rfl))).trans h26) (done (by kernel_rfl) rbu_refl rfl)
    · refine rs_yes rfl rfl (by kernel_rfl) (by kernel_rfl : _ = some 105) (fun _ _ _ h => h) fun a wr S => ?_
      have X := undrew S.ext
      exact wp_load (ev_of ((S.old 1 (by kernel_rfl)).trans rfl)) (PO.below X) (done (by kernel_rfl) rbu_refl rfl)
    · refine rs_yes rfl rfl (by kernel_rfl) (by kernel_rfl : _ = some 105) (fun _ _ _ h => h) fun a wr S => ?_
      have X := undrew S.ext
      exact wp_load (ev_of ((S.old 2 (by kernel_rfl)).trans rfl)) (PZ.below X) (done (by kernel_rfl) rbu_refl rfl)
    · refine rs_yes rfl rfl (by kernel_rfl) (by kernel_rfl : _ = some 105) (fun _ _ _ h => h) fun a wr S => ?_
      have X := undrew S.ext
      obtain ⟨v28, e28, h28⟩ := S.got 28 (by kernel_rfl)
      obtain ⟨v29, e29, h29⟩ := S.got 29 (by kernel_rfl)
      obtain ⟨b0, A0, n0, c0, hv0, Z0⟩ := (show IsM wr _ _ _ from (QO.below X))
      obtain ⟨b1, A1, n1, c1, hv1, Z1⟩ := (show IsM wr _ _ _ from (QZ.below X))
      exact wp_bs2 (((ev_of (e28 106 (by kernel_rfl))).trans h28).trans hv0) (((ev_of (e29 107 (by kernel_rfl))).trans h29).trans hv1) (done' (by kernel_rfl) (rb _ _ _ (bl_alloc _ _)) (IsR2.new Z0 Z1))
    · refine rs_yes rfl rfl (by kernel_rfl) (by kernel_rfl : _ = some 105) (fun _ _ _ h => h) fun a wr S => ?_
      have X := undrew S.ext
      obtain ⟨v30, e30, h30⟩ := S.got 30 (by kernel_rfl)
      exact st_call cf_big_Add (args1 (ev_of (e30 108 (by kernel_rfl)))) (by kernel_rfl) rb (cAdd2 (z := (-7)) (u := 0) h30 (by omega) (by omega) X.size) (fun _ _ _ h => h)
    · refine rs_yes rfl rfl (by kernel_rfl) (by kernel_rfl : _ = some 105) (fun _ _ _ h => h) fun a wr S => ?_
      have X := undrew S.ext
      obtain ⟨v31, e31, h31⟩ := S.got 31 (by kernel_rfl)
      exact st_call cf_law02_is (args2 (ev_of (e31 109 (by kernel_rfl))) rfl) (by kernel_rfl) rb (cIs _ h31.t (by omega) (lit_neg rfl (by decide) (by decide) (by decide))) (fun _ _ _ h => h)
    · refine rs_plain rfl rfl fun a wr S => ?_
      have X := undrew S.ext
      obtain ⟨v27, e27, h27⟩ := S.got 27 (by kernel_rfl)
      obtain ⟨v32, e32, h32⟩ := S.got 32 (by kernel_rfl)
      exact wp_pickT ((ev_of (e27 105 (by kernel_rfl))).trans h27) ((ev_of (e32 110 (by kernel_rfl))).trans h32) (done (by kernel_rfl) rbu_refl rfl)
    · refine rs_plain rfl rfl fun a wr S => ?_
      have X := undrew S.ext
      obtain ⟨v33, e33, h33⟩ := S.got 33 (by kernel_rfl)
      exact wp_mv ((ev_of (e33 111 (by kernel_rfl))).trans h33) (done (by kernel_rfl) rbu_refl rfl)
    · refine rs_yes rfl rfl (by kernel_rfl) (by kernel_rfl : _ = some 112) (fun _ _ _ h => h) fun a wr S => ?_
      have X := undrew S.ext
      exact wp_load (ev_of ((S.old 2 (by kernel_rfl)).trans rfl)) (PZ.below X) (done (by kernel_rfl) rbu_refl rfl)
    · refine rs_yes rfl rfl (by kernel_rfl) (by kernel_rfl : _ = some 112) (fun _ _ _ h => h) fun a wr S => ?_
      have X := undrew S.ext
      obtain ⟨v35, e35, h35⟩ := S.got 35 (by kernel_rfl)
      exact st_call cf_big_Neg (args1 ((ev_of (e35 113 (by kernel_rfl))).trans h35)) (by kernel_rfl) rb (cNeg (QZ.below X) (by omega) X.size) (fun _ _ _ h => h)
    · refine rs_yes rfl rfl (by kernel_rfl) (by kernel_rfl : _ = some 112) (fun _ _ _ h => h) fun a wr S => ?_
      have X := undrew S.ext
      exact wp_build0 (done (by kernel_rfl) rbu_refl (IsT.zero _ 0))
    · refine rs_yes rfl rfl (by kernel_rfl) (by kernel_rfl : _ = some 112) (fun _ _ _ h => h) fun a wr S => ?_
      have X := undrew S.ext
      obtain ⟨v36, e36, h36⟩ := S.got 36 (by kernel_rfl)
      obtain ⟨v37, e37, h37⟩ := S.got 37 (by kernel_rfl)
      exact st_call cf_law02_same (args2 (ev_of (e36 114 (by kernel_rfl))) (ev_of (e37 115 (by kernel_rfl)))) (by kernel_rfl) rb (cSame h36.t h37 (by omega) (by omega) (decide_eq_true (by decide))) (fun _ _ _ h => h)
    · refine rs_plain rfl rfl fun a wr S => ?_
      have X := undrew S.ext
      obtain ⟨v34, e34, h34⟩ := S.got 34 (by kernel_rfl)
      obtain ⟨v38, e38, h38⟩ := S.got 38 (by kernel_rfl)
      exact wp_pickT ((ev_of (e34 112 (by kernel_rfl))).trans h34) ((ev_of (e38 116 (by kernel_rfl))).trans h38) (done (by kernel_rfl) rbu_refl rfl)
    · refine rs_plain rfl rfl fun a wr S => ?_
      have X := undrew S.ext
      obtain ⟨v39, e39, h39⟩ := S.got 39 (by kernel_rfl)
      exact wp_mv ((ev_of (e39 117 (by kernel_rfl))).trans h39) (done (by kernel_rfl) rbu_refl rfl)
    · refine rs_yes rfl rfl (by kernel_rfl) (by kernel_rfl : _ = some 118) (fun _ _ _ h => h) fun a wr S => ?_
      have X := undrew S.ext
      exact wp_load (ev_of ((S.old 1 (by kernel_rfl)).trans rfl)) (PO.below X) (done (by kernel_rfl) rbu_refl rfl)
    · refine rs_yes rfl rfl (by kernel_rfl) (by kernel_rfl : _ = some 118) (fun _ _ _ h => h) fun a wr S => ?_
      have X := undrew S.ext
      exact st_call cf_big_From (args1 rfl) (by kernel_rfl) rb (cFrom _ (by omega) (by omega) X.size) (fun _ _ _ h => h)
    · refine rs_yes rfl rfl (by kernel_rfl) (by kernel_rfl : _ = some 118) (fun _ _ _ h => h) fun a wr S => ?_
      have X := undrew S.ext
      obtain ⟨v41, e41, h41⟩ := S.got 41 (by kernel_rfl)
      obtain ⟨v42, e42, h42⟩ := S.got 42 (by kernel_rfl)
      exact st_call cf_big_Cmp (args2 ((ev_of (e41 119 (by kernel_rfl))).trans h41) (ev_of (e42 120 (by kernel_rfl)))) (by kernel_rfl) rb (cCmp (QO.below X) h42.m (by omega) (by omega) (cmpI_eq rfl)) (fun _ _ _ h => h)
    · refine rs_yes rfl rfl (by kernel_rfl) (by kernel_rfl : _ = some 118) (fun _ _ _ h => h) fun a wr S => ?_
      have X := undrew S.ext
      obtain ⟨v43, e43, h43⟩ := S.got 43 (by kernel_rfl)
      exact wp_eqI ((ev_of (e43 121 (by kernel_rfl))).trans h43) rfl (Or.inl rfl) (done (by kernel_rfl) rbu_refl (congrArg Value.bool (by decide)))
    · refine rs_plain rfl rfl fun a wr S => ?_
      have X := undrew S.ext
      obtain ⟨v40, e40, h40⟩ := S.got 40 (by kernel_rfl)
      obtain ⟨v44, e44, h44⟩ := S.got 44 (by kernel_rfl)
      exact wp_pickT ((ev_of (e40 118 (by kernel_rfl))).trans h40) ((ev_of (e44 122 (by kernel_rfl))).trans h44) (done (by kernel_rfl) rbu_refl rfl)
    · refine rs_plain rfl rfl fun a wr S => ?_
      have X := undrew S.ext
      obtain ⟨v45, e45, h45⟩ := S.got 45 (by kernel_rfl)
      exact wp_mv ((ev_of (e45 123 (by kernel_rfl))).trans h45) (done (by kernel_rfl) rbu_refl rfl)
    · refine rs_yes rfl rfl (by kernel_rfl) (by kernel_rfl : _ = some 124) (fun _ _ _ h => h) fun a wr S => ?_
      have X := undrew S.ext
      exact wp_mv (ev_of ((S.old 4 (by kernel_rfl)).trans rfl)) (done (by kernel_rfl) rbu_refl rfl)
    · refine rs_plain rfl rfl fun a wr S => ?_
      have X := undrew S.ext
      obtain ⟨v46, e46, h46⟩ := S.got 46 (by kernel_rfl)
      obtain ⟨v47, e47, h47⟩ := S.got 47 (by kernel_rfl)
      exact wp_pickT ((ev_of (e46 124 (by kernel_rfl))).trans h46) ((ev_of (e47 125 (by kernel_rfl))).trans h47) (done (by kernel_rfl) rbu_refl rfl)
    · refine rs_plain rfl rfl fun a wr S => ?_
      have X := undrew S.ext
      obtain ⟨v48, e48, h48⟩ := S.got 48 (by kernel_rfl)
      exact wp_mv ((ev_of (e48 126 (by kernel_rfl))).trans h48) (done (by kernel_rfl) rbu_refl rfl)
    · refine rs_yes rfl rfl (by kernel_rfl) (by kernel_rfl : _ = some 127) (fun _ _ _ h => h) fun a wr S => ?_
      have X := undrew S.ext
      exact wp_mv (ev_of ((S.old 3 (by kernel_rfl)).trans rfl)) (done (by kernel_rfl) rbu_refl rfl)
    · refine rs_yes rfl rfl (by kernel_rfl) (by kernel_rfl : _ = some 127) (fun _ _ _ h => h) fun a wr S => ?_
      have X := undrew S.ext
      obtain ⟨v50, e50, h50⟩ := S.got 50 (by kernel_rfl)
      exact wp_eqL ((ev_of (e50 128 (by kernel_rfl))).trans h50) rfl (done (by kernel_rfl) rbu_refl (congrArg Value.bool (by decide)))
    · refine rs_plain rfl rfl fun a wr S => ?_
      have X := undrew S.ext
      obtain ⟨v49, e49, h49⟩ := S.got 49 (by kernel_rfl)
      obtain ⟨v51, e51, h51⟩ := S.got 51 (by kernel_rfl)
      exact wp_pickT ((ev_of (e49 127 (by kernel_rfl))).trans h49) ((ev_of (e51 129 (by kernel_rfl))).trans h51) (done (by kernel_rfl) rbu_refl rfl)
    · refine rs_plain rfl rfl fun a wr S => ?_
      have X := undrew S.ext
      obtain ⟨v52, e52, h52⟩ := S.got 52 (by kernel_rfl)
      exact wp_mv ((ev_of (e52 130 (by kernel_rfl))).trans h52) (done (by kernel_rfl) rbu_refl rfl)
    · refine rs_yes rfl rfl (by kernel_rfl) (by kernel_rfl : _ = some 131) (fun _ _ _ h => h) fun a wr S => ?_
      have X := undrew S.ext
      exact wp_mv (ev_of ((S.old 6 (by kernel_rfl)).trans rfl)) (done (by kernel_rfl) rbu_refl rfl)
    · refine rs_yes rfl rfl (by kernel_rfl) (by kernel_rfl : _ = some 131) (fun _ _ _ h => h) fun a wr S => ?_
      have X := undrew S.ext
      obtain ⟨v54, e54, h54⟩ := S.got 54 (by kernel_rfl)
      exact wp_not ((ev_of (e54 132 (by kernel_rfl))).trans h54) (done (by kernel_rfl) rbu_refl rfl)
    · refine rs_plain rfl rfl fun a wr S => ?_
      have X := undrew S.ext
      obtain ⟨v53, e53, h53⟩ := S.got 53 (by kernel_rfl)
      obtain ⟨v55, e55, h55⟩ := S.got 55 (by kernel_rfl)
      exact wp_pickT ((ev_of (e53 131 (by kernel_rfl))).trans h53) ((ev_of (e55 133 (by kernel_rfl))).trans h55) (done (by kernel_rfl) rbu_refl rfl)
    · refine rs_plain rfl rfl fun a wr S => ?_
      have X := undrew S.ext
      obtain ⟨v56, e56, h56⟩ := S.got 56 (by kernel_rfl)
      exact wp_mv ((ev_of (e56 134 (by kernel_rfl))).trans h56) (done (by kernel_rfl) rbu_refl rfl)
    · refine rs_yes rfl rfl (by kernel_rfl) (by kernel_rfl : _ = some 135) (fun _ _ _ h => h) fun a wr S => ?_
      have X := undrew S.ext
      exact wp_mv (ev_of ((S.old 8 (by kernel_rfl)).trans rfl)) (done (by kernel_rfl) rbu_refl rfl)
    · refine rs_yes rfl rfl (by kernel_rfl) (by kernel_rfl : _ = some 135) (fun _ _ _ h => h) fun a wr S => ?_
      have X := undrew S.ext
      obtain ⟨v58, e58, h58⟩ := S.got 58 (by kernel_rfl)
      exact wp_not ((ev_of (e58 136 (by kernel_rfl))).trans h58) (done (by kernel_rfl) rbu_refl rfl)
    · refine rs_plain rfl rfl fun a wr S => ?_
      have X := undrew S.ext
      obtain ⟨v57, e57, h57⟩ := S.got 57 (by kernel_rfl)
      obtain ⟨v59, e59, h59⟩ := S.got 59 (by kernel_rfl)
      exact wp_pickT ((ev_of (e57 135 (by kernel_rfl))).trans h57) ((ev_of (e59 137 (by kernel_rfl))).trans h59) (done (by kernel_rfl) rbu_refl rfl)
    · refine rs_plain rfl rfl fun a wr S => ?_
      have X := undrew S.ext
      obtain ⟨v60, e60, h60⟩ := S.got 60 (by kernel_rfl)
      exact wp_mv ((ev_of (e60 138 (by kernel_rfl))).trans h60) (done (by kernel_rfl) rbu_refl rfl)
    · refine rs_yes rfl rfl (by kernel_rfl) (by kernel_rfl : _ = some 139) (fun _ _ _ h => h) fun a wr S => ?_
      have X := undrew S.ext
      exact wp_mv (ev_of ((S.old 10 (by kernel_rfl)).trans rfl)) (done (by kernel_rfl) rbu_refl rfl)
    · refine rs_plain rfl rfl fun a wr S => ?_
      have X := undrew S.ext
      obtain ⟨v61, e61, h61⟩ := S.got 61 (by kernel_rfl)
      obtain ⟨v62, e62, h62⟩ := S.got 62 (by kernel_rfl)
      exact wp_pickT ((ev_of (e61 139 (by kernel_rfl))).trans h61) ((ev_of (e62 140 (by kernel_rfl))).trans h62) (done (by kernel_rfl) rbu_refl rfl)
    · refine rs_plain rfl rfl fun a wr S => ?_
      have X := undrew S.ext
      obtain ⟨v63, e63, h63⟩ := S.got 63 (by kernel_rfl)
      exact wp_mv ((ev_of (e63 141 (by kernel_rfl))).trans h63) (done (by kernel_rfl) rbu_refl rfl)
    · refine rs_yes rfl rfl (by kernel_rfl) (by kernel_rfl : _ = some 142) (fun _ _ _ h => h) fun a wr S => ?_
      have X := undrew S.ext
      exact wp_mv (ev_of ((S.old 9 (by kernel_rfl)).trans rfl)) (done (by kernel_rfl) rbu_refl rfl)
    · refine rs_yes rfl rfl (by kernel_rfl) (by kernel_rfl : _ = some 142) (fun _ _ _ h => h) fun a wr S => ?_
      have X := undrew S.ext
      obtain ⟨v65, e65, h65⟩ := S.got 65 (by kernel_rfl)
      exact wp_eqL ((ev_of (e65 143 (by kernel_rfl))).trans h65) rfl (done (by kernel_rfl) rbu_refl (congrArg Value.bool (by decide)))
    · refine rs_plain rfl rfl fun a wr S => ?_
      have X := undrew S.ext
      obtain ⟨v64, e64, h64⟩ := S.got 64 (by kernel_rfl)
      obtain ⟨v66, e66, h66⟩ := S.got 66 (by kernel_rfl)
      exact wp_pickT ((ev_of (e64 142 (by kernel_rfl))).trans h64) ((ev_of (e66 144 (by kernel_rfl))).trans h66) (done (by kernel_rfl) rbu_refl rfl)
    · refine rs_plain rfl rfl fun a wr S => ?_
      have X := undrew S.ext
      obtain ⟨v67, e67, h67⟩ := S.got 67 (by kernel_rfl)
      exact wp_mv ((ev_of (e67 145 (by kernel_rfl))).trans h67) (done (by kernel_rfl) rbu_refl rfl)
    · refine rs_yes rfl rfl (by kernel_rfl) (by kernel_rfl : _ = some 146) (fun _ _ _ h => h) fun a wr S => ?_
      have X := undrew S.ext
      exact wp_mv (ev_of ((S.old 12 (by kernel_rfl)).trans rfl)) (done (by kernel_rfl) rbu_refl rfl)
    · refine rs_yes rfl rfl (by kernel_rfl) (by kernel_rfl : _ = some 146) (fun _ _ _ h => h) fun a wr S => ?_
      have X := undrew S.ext
      obtain ⟨v69, e69, h69⟩ := S.got 69 (by kernel_rfl)
      exact wp_eqI ((ev_of (e69 147 (by kernel_rfl))).trans h69) rfl (Or.inr rfl) (done (by kernel_rfl) rbu_refl (congrArg Value.bool (by decide)))
    · refine rs_plain rfl rfl fun a wr S => ?_
      have X := undrew S.ext
      obtain ⟨v68, e68, h68⟩ := S.got 68 (by kernel_rfl)
      obtain ⟨v70, e70, h70⟩ := S.got 70 (by kernel_rfl)
      exact wp_pickT ((ev_of (e68 146 (by kernel_rfl))).trans h68) ((ev_of (e70 148 (by kernel_rfl))).trans h70) (done (by kernel_rfl) rbu_refl rfl)
    · refine rs_plain rfl rfl fun a wr S => ?_
      have X := undrew S.ext
      obtain ⟨v71, e71, h71⟩ := S.got 71 (by kernel_rfl)
      exact wp_mv ((ev_of (e71 149 (by kernel_rfl))).trans h71) (done (by kernel_rfl) rbu_refl rfl)
    · refine rs_yes rfl rfl (by kernel_rfl) (by kernel_rfl : _ = some 150) (fun _ _ _ h => h) fun a wr S => ?_
      have X := undrew S.ext
      exact wp_mv (ev_of ((S.old 14 (by kernel_rfl)).trans rfl)) (done (by kernel_rfl) rbu_refl rfl)
    · refine rs_yes rfl rfl (by kernel_rfl) (by kernel_rfl : _ = some 150) (fun _ _ _ h => h) fun a wr S => ?_
      have X := undrew S.ext
      obtain ⟨v73, e73, h73⟩ := S.got 73 (by kernel_rfl)
      exact wp_eqI ((ev_of (e73 151 (by kernel_rfl))).trans h73) rfl (Or.inr rfl) (done (by kernel_rfl) rbu_refl (congrArg Value.bool (by decide)))
    · refine rs_plain rfl rfl fun a wr S => ?_
      have X := undrew S.ext
      obtain ⟨v72, e72, h72⟩ := S.got 72 (by kernel_rfl)
      obtain ⟨v74, e74, h74⟩ := S.got 74 (by kernel_rfl)
      exact wp_pickT ((ev_of (e72 150 (by kernel_rfl))).trans h72) ((ev_of (e74 152 (by kernel_rfl))).trans h74) (done (by kernel_rfl) rbu_refl rfl)
    · refine rs_plain rfl rfl fun a wr S => ?_
      have X := undrew S.ext
      obtain ⟨v75, e75, h75⟩ := S.got 75 (by kernel_rfl)
      exact wp_mv ((ev_of (e75 153 (by kernel_rfl))).trans h75) (done (by kernel_rfl) rbu_refl rfl)
    · refine rs_yes rfl rfl (by kernel_rfl) (by kernel_rfl : _ = some 154) (fun _ _ _ h => h) fun a wr S => ?_
      have X := undrew S.ext
      exact wp_mv (ev_of ((S.old 16 (by kernel_rfl)).trans rfl)) (done (by kernel_rfl) rbu_refl rfl)
    · refine rs_yes rfl rfl (by kernel_rfl) (by kernel_rfl : _ = some 154) (fun _ _ _ h => h) fun a wr S => ?_
      have X := undrew S.ext
      obtain ⟨v77, e77, h77⟩ := S.got 77 (by kernel_rfl)
      exact wp_not ((ev_of (e77 155 (by kernel_rfl))).trans h77) (done (by kernel_rfl) rbu_refl rfl)
    · refine rs_plain rfl rfl fun a wr S => ?_
      have X := undrew S.ext
      obtain ⟨v76, e76, h76⟩ := S.got 76 (by kernel_rfl)
      obtain ⟨v78, e78, h78⟩ := S.got 78 (by kernel_rfl)
      exact wp_pickT ((ev_of (e76 154 (by kernel_rfl))).trans h76) ((ev_of (e78 156 (by kernel_rfl))).trans h78) (done (by kernel_rfl) rbu_refl rfl)
    · refine rs_plain rfl rfl fun a wr S => ?_
      have X := undrew S.ext
      obtain ⟨v79, e79, h79⟩ := S.got 79 (by kernel_rfl)
      exact wp_mv ((ev_of (e79 157 (by kernel_rfl))).trans h79) (done (by kernel_rfl) rbu_refl rfl)
    · refine rs_yes rfl rfl (by kernel_rfl) (by kernel_rfl : _ = some 158) (fun _ _ _ h => h) fun a wr S => ?_
      have X := undrew S.ext
      exact wp_mv (ev_of ((S.old 18 (by kernel_rfl)).trans rfl)) (done (by kernel_rfl) rbu_refl rfl)
    · refine rs_yes rfl rfl (by kernel_rfl) (by kernel_rfl : _ = some 158) (fun _ _ _ h => h) fun a wr S => ?_
      have X := undrew S.ext
      obtain ⟨v81, e81, h81⟩ := S.got 81 (by kernel_rfl)
      exact wp_not ((ev_of (e81 159 (by kernel_rfl))).trans h81) (done (by kernel_rfl) rbu_refl rfl)
    · refine rs_plain rfl rfl fun a wr S => ?_
      have X := undrew S.ext
      obtain ⟨v80, e80, h80⟩ := S.got 80 (by kernel_rfl)
      obtain ⟨v82, e82, h82⟩ := S.got 82 (by kernel_rfl)
      exact wp_pickT ((ev_of (e80 158 (by kernel_rfl))).trans h80) ((ev_of (e82 160 (by kernel_rfl))).trans h82) (done (by kernel_rfl) rbu_refl rfl)
    · refine rs_plain rfl rfl fun a wr S => ?_
      have X := undrew S.ext
      obtain ⟨v83, e83, h83⟩ := S.got 83 (by kernel_rfl)
      exact wp_mv ((ev_of (e83 161 (by kernel_rfl))).trans h83) (done (by kernel_rfl) rbu_refl rfl)
    · refine rs_yes rfl rfl (by kernel_rfl) (by kernel_rfl : _ = some 162) (fun _ _ _ h => h) fun a wr S => ?_
      have X := undrew S.ext
      exact wp_mv (ev_of ((S.old 20 (by kernel_rfl)).trans rfl)) (done (by kernel_rfl) rbu_refl rfl)
    · refine rs_yes rfl rfl (by kernel_rfl) (by kernel_rfl : _ = some 162) (fun _ _ _ h => h) fun a wr S => ?_
      have X := undrew S.ext
      obtain ⟨v85, e85, h85⟩ := S.got 85 (by kernel_rfl)
      exact wp_not ((ev_of (e85 163 (by kernel_rfl))).trans h85) (done (by kernel_rfl) rbu_refl rfl)
    · refine rs_plain rfl rfl fun a wr S => ?_
      have X := undrew S.ext
      obtain ⟨v84, e84, h84⟩ := S.got 84 (by kernel_rfl)
      obtain ⟨v86, e86, h86⟩ := S.got 86 (by kernel_rfl)
      exact wp_pickT ((ev_of (e84 162 (by kernel_rfl))).trans h84) ((ev_of (e86 164 (by kernel_rfl))).trans h86) (done (by kernel_rfl) rbu_refl rfl)
    · refine rs_plain rfl rfl fun a wr S => ?_
      have X := undrew S.ext
      obtain ⟨v87, e87, h87⟩ := S.got 87 (by kernel_rfl)
      exact wp_mv ((ev_of (e87 165 (by kernel_rfl))).trans h87) (done (by kernel_rfl) rbu_refl rfl)
    · refine rs_yes rfl rfl (by kernel_rfl) (by kernel_rfl : _ = some 166) (fun _ _ _ h => h) fun a wr S => ?_
      have X := undrew S.ext
      exact wp_mv (ev_of ((S.old 22 (by kernel_rfl)).trans rfl)) (done (by kernel_rfl) rbu_refl rfl)
    · refine rs_yes rfl rfl (by kernel_rfl) (by kernel_rfl : _ = some 166) (fun _ _ _ h => h) fun a wr S => ?_
      have X := undrew S.ext
      obtain ⟨v89, e89, h89⟩ := S.got 89 (by kernel_rfl)
      exact wp_not ((ev_of (e89 167 (by kernel_rfl))).trans h89) (done (by kernel_rfl) rbu_refl rfl)
    · refine rs_plain rfl rfl fun a wr S => ?_
      have X := undrew S.ext
      obtain ⟨v88, e88, h88⟩ := S.got 88 (by kernel_rfl)
      obtain ⟨v90, e90, h90⟩ := S.got 90 (by kernel_rfl)
      exact wp_pickT ((ev_of (e88 166 (by kernel_rfl))).trans h88) ((ev_of (e90 168 (by kernel_rfl))).trans h90) (done (by kernel_rfl) rbu_refl rfl)
    · refine rs_plain rfl rfl fun a wr S => ?_
      have X := undrew S.ext
      obtain ⟨v91, e91, h91⟩ := S.got 91 (by kernel_rfl)
      exact wp_mv ((ev_of (e91 169 (by kernel_rfl))).trans h91) (done (by kernel_rfl) rbu_refl rfl)
    · refine rs_yes rfl rfl (by kernel_rfl) (by kernel_rfl : _ = some 170) (fun _ _ _ h => h) fun a wr S => ?_
      have X := undrew S.ext
      exact st_call cf_big_Add (args1 rfl) (by kernel_rfl) rb (cAdd0 X.size) (fun _ _ _ h => h)
    · refine rs_yes rfl rfl (by kernel_rfl) (by kernel_rfl : _ = some 170) (fun _ _ _ h => h) fun a wr S => ?_
      have X := undrew S.ext
      exact wp_build0 (done (by kernel_rfl) rbu_refl (IsT.zero _ 0))
    · refine rs_yes rfl rfl (by kernel_rfl) (by kernel_rfl : _ = some 170) (fun _ _ _ h => h) fun a wr S => ?_
      have X := undrew S.ext
      obtain ⟨v93, e93, h93⟩ := S.got 93 (by kernel_rfl)
      obtain ⟨v94, e94, h94⟩ := S.got 94 (by kernel_rfl)
      exact st_call cf_law02_same (args2 (ev_of (e93 171 (by kernel_rfl))) (ev_of (e94 172 (by kernel_rfl)))) (by kernel_rfl) rb (cSame h93.t h94 (by omega) (by omega) (decide_eq_true (rfl))) (fun _ _ _ h => h)
    · refine rs_plain rfl rfl fun a wr S => ?_
      have X := undrew S.ext
      obtain ⟨v92, e92, h92⟩ := S.got 92 (by kernel_rfl)
      obtain ⟨v95, e95, h95⟩ := S.got 95 (by kernel_rfl)
      exact wp_pickT ((ev_of (e92 170 (by kernel_rfl))).trans h92) ((ev_of (e95 173 (by kernel_rfl))).trans h95) (done (by kernel_rfl) rbu_refl rfl)
    · refine rs_plain rfl rfl fun a wr S => ?_
      have X := undrew S.ext
      obtain ⟨v96, e96, h96⟩ := S.got 96 (by kernel_rfl)
      exact wp_mv ((ev_of (e96 174 (by kernel_rfl))).trans h96) (done (by kernel_rfl) rbu_refl rfl)
    · refine rs_yes rfl rfl (by kernel_rfl) (by kernel_rfl : _ = some 175) (fun _ _ _ h => h) fun a wr S => ?_
      have X := undrew S.ext
      exact wp_load (ev_of ((S.old 1 (by kernel_rfl)).trans rfl)) (PO.below X) (done (by kernel_rfl) rbu_refl rfl)
    · refine rs_yes rfl rfl (by kernel_rfl) (by kernel_rfl : _ = some 175) (fun _ _ _ h => h) fun a wr S => ?_
      have X := undrew S.ext
      exact wp_load (ev_of ((S.old 1 (by kernel_rfl)).trans rfl)) (PO.below X) (done (by kernel_rfl) rbu_refl rfl)
    · refine rs_yes rfl rfl (by kernel_rfl) (by kernel_rfl : _ = some 175) (fun _ _ _ h => h) fun a wr S => ?_
      have X := undrew S.ext
      exact wp_load (ev_of ((S.old 1 (by kernel_rfl)).trans rfl)) (PO.below X) (done (by kernel_rfl) rbu_refl rfl)
    · refine rs_yes rfl rfl (by kernel_rfl) (by kernel_rfl : _ = some 175) (fun _ _ _ h => h) fun a wr S => ?_
      have X := undrew S.ext
      obtain ⟨v98, e98, h98⟩ := S.got 98 (by kernel_rfl)
      obtain ⟨v99, e99, h99⟩ := S.got 99 (by kernel_rfl)
      obtain ⟨v100, e100, h100⟩ := S.got 100 (by kernel_rfl)
      obtain ⟨b0, A0, n0, c0, hv0, Z0⟩ := (show IsM wr _ _ _ from (QO.below X))
      exact wp_bs3 (((ev_of (e98 176 (by kernel_rfl))).trans h98).trans hv0) (((ev_of (e99 177 (by kernel_rfl))).trans h99).trans hv0) (((ev_of (e100 178 (by kernel_rfl))).trans h100).trans hv0) (done' (by kernel_rfl) (rb _ _ _ (bl_alloc _ _)) (IsP3.new (Z0.mono (by omega))))
    · refine rs_yes rfl rfl (by kernel_rfl) (by kernel_rfl : _ = some 175) (fun _ _ _ h => h) fun a wr S => ?_
      have X := undrew S.ext
      obtain ⟨v101, e101, h101⟩ := S.got 101 (by kernel_rfl)
      exact st_call cf_big_Mul (args1 (ev_of (e101 179 (by kernel_rfl)))) (by kernel_rfl) rb (cMul3 h101 X.size) (fun _ _ _ h => h)
    · refine rs_yes rfl rfl (by kernel_rfl) (by kernel_rfl : _ = some 175) (fun _ _ _ h => h) fun a wr S => ?_
      have X := undrew S.ext
      obtain ⟨v102, e102, h102⟩ := S.got 102 (by kernel_rfl)
      exact st_call cf_law02_is (args2 (ev_of (e102 180 (by kernel_rfl))) rfl) (by kernel_rfl) rb (cIs _ h102.t (by omega) (lit_neg rfl (by decide) (by decide) (by decide))) (fun _ _ _ h => h)
    · refine rs_plain rfl rfl fun a wr S => ?_
      have X := undrew S.ext
      obtain ⟨v97, e97, h97⟩ := S.got 97 (by kernel_rfl)
      obtain ⟨v103, e103, h103⟩ := S.got 103 (by kernel_rfl)
      exact wp_pickT ((ev_of (e97 175 (by kernel_rfl))).trans h97) ((ev_of (e103 181 (by kernel_rfl))).trans h103) (done (by kernel_rfl) rbu_refl rfl)
    · refine rs_plain rfl rfl fun a wr S => ?_
      have X := undrew S.ext
      obtain ⟨v104, e104, h104⟩ := S.got 104 (by kernel_rfl)
      exact wp_mv ((ev_of (e104 182 (by kernel_rfl))).trans h104) (done (by kernel_rfl) rbu_refl rfl)
    · refine rs_yes rfl rfl (by kernel_rfl) (by kernel_rfl : _ = some 183) (fun _ _ _ h => h) fun a wr S => ?_
      have X := undrew S.ext
      exact st_call cf_law02_divs (args4 rfl rfl rfl rfl) (by kernel_rfl) rb (cDivs (0) (-5) (0) (0) (by omega) (by omega) (by omega) (by omega) (by omega) (by omega) (by omega) (by omega) (by omega) (by decide) (by decide)) (fun _ _ _ h => h)
    · refine rs_plain rfl rfl fun a wr S => ?_
      have X := undrew S.ext
      obtain ⟨v105, e105, h105⟩ := S.got 105 (by kernel_rfl)
      obtain ⟨v106, e106, h106⟩ := S.got 106 (by kernel_rfl)
      exact wp_pickT ((ev_of (e105 183 (by kernel_rfl))).trans h105) ((ev_of (e106 184 (by kernel_rfl))).trans h106) (done (by kernel_rfl) rbu_refl rfl)
    · refine rs_plain rfl rfl fun a wr S => ?_
      have X := undrew S.ext
      obtain ⟨v107, e107, h107⟩ := S.got 107 (by kernel_rfl)
      exact wp_mv ((ev_of (e107 185 (by kernel_rfl))).trans h107) (done (by kernel_rfl) rbu_refl rfl)
    · refine rs_yes rfl rfl (by kernel_rfl) (by kernel_rfl : _ = some 186) (fun _ _ _ h => h) fun a wr S => ?_
      have X := undrew S.ext
      exact st_call cf_law02_divs (args4 rfl rfl rfl rfl) (by kernel_rfl) rb (cDivs (-6) (3) (-2) (0) (by omega) (by omega) (by omega) (by omega) (by omega) (by omega) (by omega) (by omega) (by omega) (by decide) (by decide)) (fun _ _ _ h => h)
    · refine rs_plain rfl rfl fun a wr S => ?_
      have X := undrew S.ext
      obtain ⟨v108, e108, h108⟩ := S.got 108 (by kernel_rfl)
      obtain ⟨v109, e109, h109⟩ := S.got 109 (by kernel_rfl)
      exact wp_pickT ((ev_of (e108 186 (by kernel_rfl))).trans h108) ((ev_of (e109 187 (by kernel_rfl))).trans h109) (done (by kernel_rfl) rbu_refl rfl)
    · refine rs_plain rfl rfl fun a wr S => ?_
      have X := undrew S.ext
      obtain ⟨v110, e110, h110⟩ := S.got 110 (by kernel_rfl)
      exact wp_mv ((ev_of (e110 188 (by kernel_rfl))).trans h110) (done (by kernel_rfl) rbu_refl rfl)
    · refine rs_yes rfl rfl (by kernel_rfl) (by kernel_rfl : _ = some 189) (fun _ _ _ h => h) fun a wr S => ?_
      have X := undrew S.ext
      exact st_call cf_law02_divs (args4 rfl rfl rfl rfl) (by kernel_rfl) rb (cDivs (6) (-3) (-2) (0) (by omega) (by omega) (by omega) (by omega) (by omega) (by omega) (by omega) (by omega) (by omega) (by decide) (by decide)) (fun _ _ _ h => h)
    · refine rs_plain rfl rfl fun a wr S => ?_
      have X := undrew S.ext
      obtain ⟨v111, e111, h111⟩ := S.got 111 (by kernel_rfl)
      obtain ⟨v112, e112, h112⟩ := S.got 112 (by kernel_rfl)
      exact wp_pickT ((ev_of (e111 189 (by kernel_rfl))).trans h111) ((ev_of (e112 190 (by kernel_rfl))).trans h112) (done (by kernel_rfl) rbu_refl rfl)
    · refine rs_plain rfl rfl fun a wr S => ?_
      have X := undrew S.ext
      obtain ⟨v113, e113, h113⟩ := S.got 113 (by kernel_rfl)
      exact wp_mv ((ev_of (e113 191 (by kernel_rfl))).trans h113) (done (by kernel_rfl) rbu_refl rfl)
    · refine rs_yes rfl rfl (by kernel_rfl) (by kernel_rfl : _ = some 192) (fun _ _ _ h => h) fun a wr S => ?_
      have X := undrew S.ext
      exact st_call cf_law02_divs (args4 rfl rfl rfl rfl) (by kernel_rfl) rb (cDivs (1) (-9223372036854775808) (-1) (-9223372036854775807) (by omega) (by omega) (by omega) (by omega) (by omega) (by omega) (by omega) (by omega) (by omega) (by decide) (by decide)) (fun _ _ _ h => h)
    · refine rs_plain rfl rfl fun a wr S => ?_
      have X := undrew S.ext
      obtain ⟨v114, e114, h114⟩ := S.got 114 (by kernel_rfl)
      obtain ⟨v115, e115, h115⟩ := S.got 115 (by kernel_rfl)
      exact wp_pickT ((ev_of (e114 192 (by kernel_rfl))).trans h114) ((ev_of (e115 193 (by kernel_rfl))).trans h115) (done (by kernel_rfl) rbu_refl rfl)
    · refine rs_plain rfl rfl fun a wr S => ?_
      have X := undrew S.ext
      obtain ⟨v116, e116, h116⟩ := S.got 116 (by kernel_rfl)
      exact wp_mv ((ev_of (e116 194 (by kernel_rfl))).trans h116) (done (by kernel_rfl) rbu_refl rfl)
    · refine rs_yes rfl rfl (by kernel_rfl) (by kernel_rfl : _ = some 195) (fun _ _ _ h => h) fun a wr S => ?_
      have X := undrew S.ext
      exact st_call cf_big_From (args1 rfl) (by kernel_rfl) rb (cFrom _ (by omega) (by omega) X.size) (fun _ _ _ h => h)
    · refine rs_yes rfl rfl (by kernel_rfl) (by kernel_rfl : _ = some 195) (fun _ _ _ h => h) fun a wr S => ?_
      have X := undrew S.ext
      obtain ⟨v118, e118, h118⟩ := S.got 118 (by kernel_rfl)
      exact st_call cf_big_Neg (args1 (ev_of (e118 196 (by kernel_rfl)))) (by kernel_rfl) rb (cNeg h118.m (by omega) X.size) (fun _ _ _ h => h)
    · refine rs_yes rfl rfl (by kernel_rfl) (by kernel_rfl : _ = some 195) (fun _ _ _ h => h) fun a wr S => ?_
      have X := undrew S.ext
      obtain ⟨v119, e119, h119⟩ := S.got 119 (by kernel_rfl)
      exact st_call cf_law02_is (args2 (ev_of (e119 197 (by kernel_rfl))) rfl) (by kernel_rfl) rb (cIs _ h119.t (by omega) (lit_pos (by decide) (by decide))) (fun _ _ _ h => h)
    · refine rs_plain rfl rfl fun a wr S => ?_
      have X := undrew S.ext
      obtain ⟨v117, e117, h117⟩ := S.got 117 (by kernel_rfl)
      obtain ⟨v120, e120, h120⟩ := S.got 120 (by kernel_rfl)
      exact wp_pickT ((ev_of (e117 195 (by kernel_rfl))).trans h117) ((ev_of (e120 198 (by kernel_rfl))).trans h120) (done (by kernel_rfl) rbu_refl rfl)
    · refine rs_plain rfl rfl fun a wr S => ?_
      have X := undrew S.ext
      obtain ⟨v121, e121, h121⟩ := S.got 121 (by kernel_rfl)
      exact wp_as ((ev_of (e121 199 (by kernel_rfl))).trans h121) (done (by kernel_rfl) rbu_refl rfl)
  · intro f23_ w23 hR hv
    replace hR := undrew hR
    have f0 : f23_ 0 = Value.bool true := (hvc (hv 0 (by omega))).elim fun _ h => h
    have f1 : f23_ 1 = .bool true := (hvc (hv 1 (by omega))).elim fun _ h => h
    have f2 : f23_ 2 = .bool true := (hvc (hv 2 (by omega))).elim fun _ h => h
    have f3 : f23_ 3 = .bool true := (hvc (hv 3 (by omega))).elim fun _ h => h
    have f4 : f23_ 4 = .agg #[.bool true, .slice (some ⟨w.heap.size, 0, none⟩) 3 3] := (hvc (hv 4 (by omega))).elim fun _ h => h
    have f5 : f23_ 5 = .bool false := (hvc (hv 5 (by omega))).elim fun _ h => h
    have f6 : f23_ 6 = .bool true := (hvc (hv 6 (by omega))).elim fun _ h => h
    have f7 : f23_ 7 = .bool true := (hvc (hv 7 (by omega))).elim fun _ h => h
    have f8 : f23_ 8 = .bool true := (hvc (hv 8 (by omega))).elim fun _ h => h
    have f9 : f23_ 9 = .agg #[.bool true, .slice (some ⟨w.heap.size + 1 + 1, 0, none⟩) 1 1] := (hvc (hv 9 (by omega))).elim fun _ h => h
    have f10 : f23_ 10 = .bool false := (hvc (hv 10 (by omega))).elim fun _ h => h
    have f11 : f23_ 11 = .bool true := (hvc (hv 11 (by omega))).elim fun _ h => h
    have f12 : f23_ 12 = .bool true := (hvc (hv 12 (by omega))).elim fun _ h => h
    have f13 : f23_ 13 = .bool true := (hvc (hv 13 (by omega))).elim fun _ h => h
    have f15 : f23_ 15 = .bool true := (hvc (hv 15 (by omega))).elim fun _ h => h
    have f16 : f23_ 16 = .bool true := (hvc (hv 16 (by omega))).elim fun _ h => h
    have f17 : f23_ 17 = .bool true := (hvc (hv 17 (by omega))).elim fun _ h => h
    have f18 : f23_ 18 = .agg #[.bool true, .slice (some ⟨w.heap.size + 1 + 1, 0, none⟩) 1 1] := (hvc (hv 18 (by omega))).elim fun _ h => h
    have f19 : f23_ 19 = .int .i64 0 := (hvc (hv 19 (by omega))).elim fun _ h => h
    have f20 : f23_ 20 = .bool true := (hvc (hv 20 (by omega))).elim fun _ h => h
    have f21 : f23_ 21 = .bool true := (hvc (hv 21 (by omega))).elim fun _ h => h
    have f22 : f23_ 22 = .bool true := (hvc (hv 22 (by omega))).elim fun _ h => h
    have f23 : f23_ 23 = .agg #[.bool true, .slice (some ⟨w.heap.size, 0, none⟩) 3 3] := (hvc (hv 23 (by omega))).elim fun _ h => h
    have f24 : f23_ 24 = .int .i64 (-1) := (hvc (hv 24 (by omega))).elim fun _ h => h
    have f25 : f23_ 25 = .bool true := (hvc (hv 25 (by omega))).elim fun _ h => h
    have f26 : f23_ 26 = .bool true := (hvc (hv 26 (by omega))).elim fun _ h => h
    have f27 : f23_ 27 = .bool true := (hvc (hv 27 (by omega))).elim fun _ h => h
    have f28 : f23_ 28 = .agg #[.bool true, .slice (some ⟨w.heap.size, 0, none⟩) 3 3] := (hvc (hv 28 (by omega))).elim fun _ h => h
    have f29 : f23_ 29 = .agg #[.bool true, .slice (some ⟨w.heap.size + 1 + 1, 0, none⟩) 1 1] := (hvc (hv 29 (by omega))).elim fun _ h => h
    have f32 : f23_ 32 = .bool true := (hvc (hv 32 (by omega))).elim fun _ h => h
    have f33 : f23_ 33 = .bool true := (hvc (hv 33 (by omega))).elim fun _ h => h
    have f34 : f23_ 34 = .bool true := (hvc (hv 34 (by omega))).elim fun _ h => h
    have f35 : f23_ 35 = .agg #[.bool true, .slice (some ⟨w.heap.size + 1 + 1, 0, none⟩) 1 1] := (hvc (hv 35 (by omega))).elim fun _ h => h
    have f38 : f23_ 38 = .bool true := (hvc (hv 38 (by omega))).elim fun _ h => h
    have f39 : f23_ 39 = .bool true := (hvc (hv 39 (by omega))).elim fun _ h => h
    have f40 : f23_ 40 = .bool true := (hvc (hv 40 (by omega))).elim fun _ h => h
    have f41 : f23_ 41 = .agg #[.bool true, .slice (some ⟨w.heap.size, 0, none⟩) 3 3] := (hvc (hv 41 (by omega))).elim fun _ h => h
    have f43 : f23_ 43 = .int .i64 0 := (hvc (hv 43 (by omega))).elim fun _ h => h
    have f44 : f23_ 44 = .bool true := (hvc (hv 44 (by omega))).elim fun _ h => h
    have f45 : f23_ 45 = .bool true := (hvc (hv 45 (by omega))).elim fun _ h => h
    have f46 : f23_ 46 = .bool true := (hvc (hv 46 (by omega))).elim fun _ h => h
    have f47 : f23_ 47 = .bool true := (hvc (hv 47 (by omega))).elim fun _ h => h
    have f48 : f23_ 48 = .bool true := (hvc (hv 48 (by omega))).elim fun _ h => h
    have f49 : f23_ 49 = .bool true := (hvc (hv 49 (by omega))).elim fun _ h => h
    have f50 : f23_ 50 = .int .i64 (-9223372036854775808) := (hvc (hv 50 (by omega))).elim fun _ h => h
    have f51 : f23_ 51 = .bool true := (hvc (hv 51 (by omega))).elim fun _ h => h
    have f52 : f23_ 52 = .bool true := (hvc (hv 52 (by omega))).elim fun _ h => h
    have f53 : f23_ 53 = .bool true := (hvc (hv 53 (by omega))).elim fun _ h => h
    have f54 : f23_ 54 = .bool false := (hvc (hv 54 (by omega))).elim fun _ h => h
    have f55 : f23_ 55 = .bool true := (hvc (hv 55 (by omega))).elim fun _ h => h
    have f56 : f23_ 56 = .bool true := (hvc (hv 56 (by omega))).elim fun _ h => h
    have f57 : f23_ 57 = .bool true := (hvc (hv 57 (by omega))).elim fun _ h => h
    have f58 : f23_ 58 = .bool false := (hvc (hv 58 (by omega))).elim fun _ h => h
    have f59 : f23_ 59 = .bool true := (hvc (hv 59 (by omega))).elim fun _ h => h
    have f60 : f23_ 60 = .bool true := (hvc (hv 60 (by omega))).elim fun _ h => h
    have f61 : f23_ 61 = .bool true := (hvc (hv 61 (by omega))).elim fun _ h => h
    have f62 : f23_ 62 = .bool true := (hvc (hv 62 (by omega))).elim fun _ h => h
    have f63 : f23_ 63 = .bool true := (hvc (hv 63 (by omega))).elim fun _ h => h
    have f64 : f23_ 64 = .bool true := (hvc (hv 64 (by omega))).elim fun _ h => h
    have f65 : f23_ 65 = .int .i64 (9223372036854775807) := (hvc (hv 65 (by omega))).elim fun _ h => h
    have f66 : f23_ 66 = .bool true := (hvc (hv 66 (by omega))).elim fun _ h => h
    have f67 : f23_ 67 = .bool true := (hvc (hv 67 (by omega))).elim fun _ h => h
    have f68 : f23_ 68 = .bool true := (hvc (hv 68 (by omega))).elim fun _ h => h
    have f69 : f23_ 69 = .int .i64 3 := (hvc (hv 69 (by omega))).elim fun _ h => h
    have f70 : f23_ 70 = .bool true := (hvc (hv 70 (by omega))).elim fun _ h => h
    have f71 : f23_ 71 = .bool true := (hvc (hv 71 (by omega))).elim fun _ h => h
    have f72 : f23_ 72 = .bool true := (hvc (hv 72 (by omega))).elim fun _ h => h
    have f73 : f23_ 73 = .int .i64 3 := (hvc (hv 73 (by omega))).elim fun _ h => h
    have f74 : f23_ 74 = .bool true := (hvc (hv 74 (by omega))).elim fun _ h => h
    have f75 : f23_ 75 = .bool true := (hvc (hv 75 (by omega))).elim fun _ h => h
    have f76 : f23_ 76 = .bool true := (hvc (hv 76 (by omega))).elim fun _ h => h
    have f77 : f23_ 77 = .bool false := (hvc (hv 77 (by omega))).elim fun _ h => h
    have f78 : f23_ 78 = .bool true := (hvc (hv 78 (by omega))).elim fun _ h => h
    have f79 : f23_ 79 = .bool true := (hvc (hv 79 (by omega))).elim fun _ h => h
    have f80 : f23_ 80 = .bool true := (hvc (hv 80 (by omega))).elim fun _ h => h
    have f81 : f23_ 81 = .bool false := (hvc (hv 81 (by omega))).elim fun _ h => h
    have f82 : f23_ 82 = .bool true := (hvc (hv 82 (by omega))).elim fun _ h => h
    have f83 : f23_ 83 = .bool true := (hvc (hv 83 (by omega))).elim fun _ h => h
    have f84 : f23_ 84 = .bool true := (hvc (hv 84 (by omega))).elim fun _ h => h
    have f85 : f23_ 85 = .bool false := (hvc (hv 85 (by omega))).elim fun _ h => h
    have f86 : f23_ 86 = .bool true := (hvc (hv 86 (by omega))).elim fun _ h => h
    have f87 : f23_ 87 = .bool true := (hvc (hv 87 (by omega))).elim fun _ h => h
    have f88 : f23_ 88 = .bool true := (hvc (hv 88 (by omega))).elim fun _ h => h
    have f89 : f23_ 89 = .bool false := (hvc (hv 89 (by omega))).elim fun _ h => h
    have f90 : f23_ 90 = .bool true := (hvc (hv 90 (by omega))).elim fun _ h => h
    have f91 : f23_ 91 = .bool true := (hvc (hv 91 (by omega))).elim fun _ h => h
    have f92 : f23_ 92 = .bool true := (hvc (hv 92 (by omega))).elim fun _ h => h
    have f95 : f23_ 95 = .bool true := (hvc (hv 95 (by omega))).elim fun _ h => h
    have f96 : f23_ 96 = .bool true := (hvc (hv 96 (by omega))).elim fun _ h => h
    have f97 : f23_ 97 = .bool true := (hvc (hv 97 (by omega))).elim fun _ h => h
    have f98 : f23_ 98 = .agg #[.bool true, .slice (some ⟨w.heap.size, 0, none⟩) 3 3] := (hvc (hv 98 (by omega))).elim fun _ h => h
    have f99 : f23_ 99 = .agg #[.bool true, .slice (some ⟨w.heap.size, 0, none⟩) 3 3] := (hvc (hv 99 (by omega))).elim fun _ h => h
    have f100 : f23_ 100 = .agg #[.bool true, .slice (some ⟨w.heap.size, 0, none⟩) 3 3] := (hvc (hv 100 (by omega))).elim fun _ h => h
    have f103 : f23_ 103 = .bool true := (hvc (hv 103 (by omega))).elim fun _ h => h
    have f104 : f23_ 104 = .bool true := (hvc (hv 104 (by omega))).elim fun _ h => h
    have f105 : f23_ 105 = .bool true := (hvc (hv 105 (by omega))).elim fun _ h => h
    have f106 : f23_ 106 = .bool true := (hvc (hv 106 (by omega))).elim fun _ h => h
    have f107 : f23_ 107 = .bool true := (hvc (hv 107 (by omega))).elim fun _ h => h
    have f108 : f23_ 108 = .bool true := (hvc (hv 108 (by omega))).elim fun _ h => h
    have f109 : f23_ 109 = .bool true := (hvc (hv 109 (by omega))).elim fun _ h => h
    have f110 : f23_ 110 = .bool true := (hvc (hv 110 (by omega))).elim fun _ h => h
    have f111 : f23_ 111 = .bool true := (hvc (hv 111 (by omega))).elim fun _ h => h
    have f112 : f23_ 112 = .bool true := (hvc (hv 112 (by omega))).elim fun _ h => h
    have f113 : f23_ 113 = .bool true := (hvc (hv 113 (by omega))).elim fun _ h => h
    have f114 : f23_ 114 = .bool true := (hvc (hv 114 (by omega))).elim fun _ h => h
    have f115 : f23_ 115 = .bool true := (hvc (hv 115 (by omega))).elim fun _ h => h
    have f116 : f23_ 116 = .bool true := (hvc (hv 116 (by omega))).elim fun _ h => h
    have f117 : f23_ 117 = .bool true := (hvc (hv 117 (by omega))).elim fun _ h => h
    have f120 : f23_ 120 = .bool true := (hvc (hv 120 (by omega))).elim fun _ h => h
    have f121 : f23_ 121 = .bool true := (hvc (hv 121 (by omega))).elim fun _ h => h
    have f122 : f23_ 122 = .bool true := (hvc (hv 122 (by omega))).elim fun _ h => h
    simp only [putFn, Act.put, List.setIfInBounds_toArray, List.set_cons_zero, List.set_cons_succ, f0, f1, f2, f3, f4, f5, f6, f7, f8, f9, f10, f11, f12, f13, f15, f16, f17, f18, f19, f20, f21, f22, f23, f24, f25, f26, f27, f28, f29, f32, f33, f34, f35, f38, f39, f40, f41, f43, f44, f45, f46, f47, f48, f49, f50, f51, f52, f53, f54, f55, f56, f57, f58, f59, f60, f61, f62, f63, f64, f65, f66, f67, f68, f69, f70, f71, f72, f73, f74, f75, f76, f77, f78, f79, f80, f81, f82, f83, f84, f85, f86, f87, f88, f89, f90, f91, f92, f95, f96, f97, f98, f99, f100, f103, f104, f105, f106, f107, f108, f109, f110, f111, f112, f113, f114, f115, f116, f117, f120, f121, f122]
    replace RO := RO.below hR
    replace RZ := RZ.below hR
    replace PO := PO.below hR
    replace PZ := PZ.below hR
    replace QO := QO.below hR
    replace QZ := QZ.below hR
    replace q1 := q1.below hR
    replace q3 := q3.below hR
    replace q4 := q4.below hR
    replace q5 := q5.below hR
    replace q7 := q7.below hR
    replace q9 := q9.below hR
    replace q11 := q11.below hR
    replace P12 := P12.below hR
    replace q13 := q13.below hR
    replace P14 := P14.below hR
    replace q15 := q15.below hR
    replace P16 := P16.below hR
    replace q17 := q17.below hR
    replace P18 := P18.below hR
    replace q19 := q19.below hR
    replace P20 := P20.below hR
    replace q21 := q21.below hR
    replace P22 := P22.below hR
    replace BB := bl_trans BB hR
    clear hR
    clear hv
    go_wp2_with fail
    go_ret
    exact ⟨rfl, BB⟩

end Go.Proofs.Ytebchniiiccghaa
