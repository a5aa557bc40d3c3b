/- litmuslaw03.RatKnown answers true, and changes nothing that was there: its walk. -/
import Derived.Test.YtbhgbilhoonopaaGreatQRaw
namespace Go.Proofs.YtbhgbilhoonopaaGreat
open Go.RowKit
set_option linter.unusedVariables false
set_option maxRecDepth 100000

theorem k_odd_n : (mkRat (zv true (M.val [0])) (dOf (M.val [0, 0]))).num = 0 := by decide +kernel
theorem k_odd_d : (mkRat (zv true (M.val [0])) (dOf (M.val [0, 0]))).den = 1 := by decide +kernel
theorem k_odd : txtQ (mkRat (zv true (M.val [0])) (dOf (M.val [0, 0]))) = [48] := txtQ_whole (by rw [k_odd_n]; exact txtZ_known (ds := [48]) (by decide) (by decide)) k_odd_d
theorem k_half_n : (mkRat (zv false (M.val [0, 2])) (dOf (M.val [0, 4]))).num = 1 := by decide +kernel
theorem k_half_d : (mkRat (zv false (M.val [0, 2])) (dOf (M.val [0, 4]))).den = 2 := by decide +kernel
theorem k_half : txtQ (mkRat (zv false (M.val [0, 2])) (dOf (M.val [0, 4]))) = [49, 47, 50] := txtQ_frac (ds := [49]) (es := [50]) (by rw [k_half_n]; exact txtZ_known (ds := [49]) (by decide) (by decide)) (by rw [k_half_d]; decide) (by decide) (by decide)
theorem k_nhalf_n : (-(mkRat (zv false (M.val [0, 2])) (dOf (M.val [0, 4])))).num = -1 := by decide +kernel
theorem k_nhalf_d : (-(mkRat (zv false (M.val [0, 2])) (dOf (M.val [0, 4])))).den = 2 := by decide +kernel
theorem k_nhalf : txtQ (-(mkRat (zv false (M.val [0, 2])) (dOf (M.val [0, 4])))) = [45, 49, 47, 50] := txtQ_frac (ds := [45, 49]) (es := [50]) (by rw [k_nhalf_n]; exact txtZ_knownN (ds := [49]) (by decide) (by decide) (by decide)) (by rw [k_nhalf_d]; decide) (by decide) (by decide)
theorem k_least_n : (((-9223372036854775808 : Int) : Rat)).num = -9223372036854775808 := by decide +kernel
theorem k_least_d : (((-9223372036854775808 : Int) : Rat)).den = 1 := by decide +kernel
theorem k_least : txtQ (((-9223372036854775808 : Int) : Rat)) = [45, 57, 50, 50, 51, 51, 55, 50, 48, 51, 54, 56, 53, 52, 55, 55, 53, 56, 48, 56] := txtQ_whole (by rw [k_least_n]; exact txtZ_knownN (ds := [57, 50, 50, 51, 51, 55, 50, 48, 51, 54, 56, 53, 52, 55, 55, 53, 56, 48, 56]) (by decide) (by decide) (by decide)) k_least_d
theorem k_below_n : (((-9223372036854775808 : Int) : Rat) - ((1 : Int) : Rat)).num = -9223372036854775809 := by decide +kernel
theorem k_below_d : (((-9223372036854775808 : Int) : Rat) - ((1 : Int) : Rat)).den = 1 := by decide +kernel
theorem k_below : txtQ (((-9223372036854775808 : Int) : Rat) - ((1 : Int) : Rat)) = [45, 57, 50, 50, 51, 51, 55, 50, 48, 51, 54, 56, 53, 52, 55, 55, 53, 56, 48, 57] := txtQ_whole (by rw [k_below_n]; exact txtZ_knownN (ds := [57, 50, 50, 51, 51, 55, 50, 48, 51, 54, 56, 53, 52, 55, 55, 53, 56, 48, 57]) (by decide) (by decide) (by decide)) k_below_d
set_option maxHeartbeats 4000000 in
theorem ratKnown_walk (w : World) : Calls Tryz.prog 11 #[] w fun e w' => e = .returned (.bool true) ∧ Below w.heap.size w w' := by
  have BB : Below w.heap.size w w := Below.refl _ _
  go_enter Tryz.func11, Tryz.ntmps11
  go_wp2_with fail
  refine (cQFrom 0 (by omega) (by omega)).mono ?_
  rintro e w1 ⟨_, rfl, hb, q1⟩
  replace BB := bl_trans BB hb
  clear hb
  obtain ⟨b1, A1, n1, c1, B1, m1, d1, rfl, yy⟩ := id q1
  clear yy
  replace q1 := q1.t
  have OO := bl_alloc w1 (.cells #[.bool b1, .slice A1 n1 c1, .slice B1 m1 d1] 26)
  have P1 := Bq.new w1 b1 A1 n1 c1 B1 m1 d1
  replace q1 := q1.below OO
  replace BB := bl_trans BB OO
  clear OO
  go_upto_region 2 with (fail)
  generalize w1.alloc _ = w2 at q1 P1 BB ⊢
  go_wp2_with fail
  have h1 : IsM (w2.alloc (.cells #[.int .u32 1] 44)) (.agg #[.bool false, .slice (some ⟨w2.heap.size, 0, none⟩) 1 1]) 1 4 := ⟨_, _, _, _, rfl, ⟨⟨_, ⟨⟨_, RdK.one (K := kU32) w2 1 (show (1 : Nat) < 4294967296 by omega), rfl⟩, by omega⟩, rfl⟩⟩⟩
  replace q1 := q1.below (bl_alloc w2 (.cells #[.int .u32 1] 44))
  replace P1 := P1.below (bl_alloc w2 (.cells #[.int .u32 1] 44))
  replace BB := bl_trans BB (bl_alloc w2 (.cells #[.int .u32 1] 44))
  have h2 : IsM (w2.alloc (.cells #[.int .u32 1] 44)) (.agg #[.bool true, .slice none 0 0]) 0 1 := ⟨_, _, _, _, rfl, ⟨⟨_, ⟨⟨_, (OwK.nil_ _ 0).rd, rfl⟩, by omega⟩, rfl⟩⟩⟩
  refine (cOfQ0 h1 h2 (by omega) rfl).mono ?_
  rintro e w3 ⟨_, rfl, hb, b2, A2, n2, c2, B2, m2, d2, rfl, q2⟩
  replace q1 := q1.below hb
  replace P1 := P1.below hb
  replace BB := bl_trans BB hb
  clear hb
  clear h1 h2
  replace q2 := q2.t
  have OO := bl_alloc w3 (.cells #[.bool b2, .slice A2 n2 c2, .slice B2 m2 d2] 26)
  have P2 := Bq.new w3 b2 A2 n2 c2 B2 m2 d2
  replace q1 := q1.below OO
  replace P1 := P1.below OO
  replace q2 := q2.below OO
  replace BB := bl_trans BB OO
  clear OO
  go_upto_region 3 with (fail)
  generalize w3.alloc _ = w4 at q1 P1 q2 P2 BB ⊢
  clear q2 P2
  have P1c0 := P1.c0
  have P1c1 := P1.c1
  have P1c2 := P1.c2
  go_wp2_with fail
  clear P1c0 P1c1 P1c2
  refine (cQDiv q1.m (isQm_nil _) (by omega) (by omega) (by omega) (by omega)).mono ?_
  rw [show eQ 0 = 3 from rfl]
  rintro e w5 ⟨_, rfl, hb, b4, A4, n4, c4, B4, m4, d4, rfl, q4⟩
  replace q1 := q1.below hb
  replace P1 := P1.below hb
  replace BB := bl_trans BB hb
  clear hb
  replace q4 := q4.t
  have OO := bl_alloc w5 (.cells #[.bool b4, .slice A4 n4 c4, .slice B4 m4 d4] 26)
  have P4 := Bq.new w5 b4 A4 n4 c4 B4 m4 d4
  replace q1 := q1.below OO
  replace P1 := P1.below OO
  replace q4 := q4.below OO
  replace BB := bl_trans BB OO
  clear OO
  go_upto_region 4 with (fail)
  generalize w5.alloc _ = w6 at q1 P1 q4 P4 BB ⊢
  clear q4 P4
  clear q1 P1
  have r1 := ((RdK.one (K := kU32) w6 0 (show (0 : Nat) < 4294967296 by omega)).below (bl_alloc _ (.cells #[.int .u32 0, .int .u32 0] 44))).below (bl_alloc _ (.cells #[.bool true, .slice (some ⟨w6.heap.size, 0, none⟩) 1 1, .slice (some ⟨w6.heap.size + 1, 0, none⟩) 2 2] 26))
  have r2 := (Rd.two (w6.alloc (.cells #[.int .u32 0] 44)) 0 0 (by decide) (by decide)).rd.below (bl_alloc _ (.cells #[.bool true, .slice (some ⟨w6.heap.size, 0, none⟩) 1 1, .slice (some ⟨w6.heap.size + 1, 0, none⟩) 2 2] 26))
  simp only [hs_alloc] at r2
  have R6 : IsR (((w6.alloc (.cells #[.int .u32 0] 44)).alloc (.cells #[.int .u32 0, .int .u32 0] 44)).alloc (.cells #[.bool true, .slice (some ⟨w6.heap.size, 0, none⟩) 1 1, .slice (some ⟨w6.heap.size + 1, 0, none⟩) 2 2] 26)) (.agg #[.bool true, .slice (some ⟨w6.heap.size, 0, none⟩) 1 1, .slice (some ⟨w6.heap.size + 1, 0, none⟩) 2 2]) true [0] [0, 0] 4 := ⟨_, _, _, _, _, _, rfl, ⟨r1, by omega⟩, r2, by omega⟩
  clear r1 r2
  have P6 := Bq.new ((w6.alloc (.cells #[.int .u32 0] 44)).alloc (.cells #[.int .u32 0, .int .u32 0] 44)) true (some ⟨w6.heap.size, 0, none⟩) 1 1 (some ⟨w6.heap.size + 1, 0, none⟩) 2 2
  simp only [hs_alloc] at P6
  replace BB := bl_trans BB (bl_alloc _ (.cells #[.int .u32 0] 44))
  replace BB := bl_trans BB (bl_alloc _ (.cells #[.int .u32 0, .int .u32 0] 44))
  replace BB := bl_trans BB (bl_alloc _ (.cells #[.bool true, .slice (some ⟨w6.heap.size, 0, none⟩) 1 1, .slice (some ⟨w6.heap.size + 1, 0, none⟩) 2 2] 26))
  go_upto_region 5 with (fail)
  generalize (((w6.alloc (.cells #[.int .u32 0] 44)).alloc (.cells #[.int .u32 0, .int .u32 0] 44)).alloc (.cells #[.bool true, .slice (some ⟨w6.heap.size, 0, none⟩) 1 1, .slice (some ⟨w6.heap.size + 1, 0, none⟩) 2 2] 26)) = w7 at R6 P6 BB ⊢
  have Q6 := R6.m
  have r1 := ((Rd.two w7 0 2 (by decide) (by decide)).rd.below (bl_alloc _ (.cells #[.int .u32 0, .int .u32 4] 44))).below (bl_alloc _ (.cells #[.bool false, .slice (some ⟨w7.heap.size, 0, none⟩) 2 2, .slice (some ⟨w7.heap.size + 1, 0, none⟩) 2 2] 26))
  have r2 := (Rd.two (w7.alloc (.cells #[.int .u32 0, .int .u32 2] 44)) 0 4 (by decide) (by decide)).rd.below (bl_alloc _ (.cells #[.bool false, .slice (some ⟨w7.heap.size, 0, none⟩) 2 2, .slice (some ⟨w7.heap.size + 1, 0, none⟩) 2 2] 26))
  simp only [hs_alloc] at r2
  have R7 : IsR (((w7.alloc (.cells #[.int .u32 0, .int .u32 2] 44)).alloc (.cells #[.int .u32 0, .int .u32 4] 44)).alloc (.cells #[.bool false, .slice (some ⟨w7.heap.size, 0, none⟩) 2 2, .slice (some ⟨w7.heap.size + 1, 0, none⟩) 2 2] 26)) (.agg #[.bool false, .slice (some ⟨w7.heap.size, 0, none⟩) 2 2, .slice (some ⟨w7.heap.size + 1, 0, none⟩) 2 2]) false [0, 2] [0, 4] 4 := ⟨_, _, _, _, _, _, rfl, ⟨r1, by omega⟩, r2, by omega⟩
  clear r1 r2
  have P7 := Bq.new ((w7.alloc (.cells #[.int .u32 0, .int .u32 2] 44)).alloc (.cells #[.int .u32 0, .int .u32 4] 44)) false (some ⟨w7.heap.size, 0, none⟩) 2 2 (some ⟨w7.heap.size + 1, 0, none⟩) 2 2
  simp only [hs_alloc] at P7
  replace R6 := R6.below (bl_alloc _ (.cells #[.int .u32 0, .int .u32 2] 44))
  replace P6 := P6.below (bl_alloc _ (.cells #[.int .u32 0, .int .u32 2] 44))
  replace Q6 := Q6.below (bl_alloc _ (.cells #[.int .u32 0, .int .u32 2] 44))
  replace BB := bl_trans BB (bl_alloc _ (.cells #[.int .u32 0, .int .u32 2] 44))
  replace R6 := R6.below (bl_alloc _ (.cells #[.int .u32 0, .int .u32 4] 44))
  replace P6 := P6.below (bl_alloc _ (.cells #[.int .u32 0, .int .u32 4] 44))
  replace Q6 := Q6.below (bl_alloc _ (.cells #[.int .u32 0, .int .u32 4] 44))
  replace BB := bl_trans BB (bl_alloc _ (.cells #[.int .u32 0, .int .u32 4] 44))
  replace R6 := R6.below (bl_alloc _ (.cells #[.bool false, .slice (some ⟨w7.heap.size, 0, none⟩) 2 2, .slice (some ⟨w7.heap.size + 1, 0, none⟩) 2 2] 26))
  replace P6 := P6.below (bl_alloc _ (.cells #[.bool false, .slice (some ⟨w7.heap.size, 0, none⟩) 2 2, .slice (some ⟨w7.heap.size + 1, 0, none⟩) 2 2] 26))
  replace Q6 := Q6.below (bl_alloc _ (.cells #[.bool false, .slice (some ⟨w7.heap.size, 0, none⟩) 2 2, .slice (some ⟨w7.heap.size + 1, 0, none⟩) 2 2] 26))
  replace BB := bl_trans BB (bl_alloc _ (.cells #[.bool false, .slice (some ⟨w7.heap.size, 0, none⟩) 2 2, .slice (some ⟨w7.heap.size + 1, 0, none⟩) 2 2] 26))
  go_upto_region 6 with (fail)
  generalize (((w7.alloc (.cells #[.int .u32 0, .int .u32 2] 44)).alloc (.cells #[.int .u32 0, .int .u32 4] 44)).alloc (.cells #[.bool false, .slice (some ⟨w7.heap.size, 0, none⟩) 2 2, .slice (some ⟨w7.heap.size + 1, 0, none⟩) 2 2] 26)) = w8 at R6 P6 Q6 R7 P7 BB ⊢
  have Q7 := R7.m
  go_wp2_with fail
  refine (cQParseC1 _ (by decide) (by decide) (by decide)).mono ?_
  rintro e w9 ⟨_, rfl, hb, b8, A8, n8, c8, B8, m8, d8, rfl, q8⟩
  replace R6 := R6.below hb
  replace P6 := P6.below hb
  replace Q6 := Q6.below hb
  replace R7 := R7.below hb
  replace P7 := P7.below hb
  replace Q7 := Q7.below hb
  replace BB := bl_trans BB hb
  clear hb
  replace q8 := q8.t
  have OO := bl_alloc w9 (.cells #[.bool b8, .slice A8 n8 c8, .slice B8 m8 d8] 26)
  have P8 := Bq.new w9 b8 A8 n8 c8 B8 m8 d8
  replace R6 := R6.below OO
  replace P6 := P6.below OO
  replace Q6 := Q6.below OO
  replace R7 := R7.below OO
  replace P7 := P7.below OO
  replace Q7 := Q7.below OO
  replace q8 := q8.below OO
  replace BB := bl_trans BB OO
  clear OO
  go_upto_region 7 with (fail)
  generalize w9.alloc _ = w10 at R6 P6 Q6 R7 P7 Q7 q8 P8 BB ⊢
  clear q8 P8
  go_wp2_with fail
  refine (cQParseB (k := 1) (l1 := [49]) (l2 := [48]) _ (by decide) (by decide) (by decide) (by decide) (by decide) 1 0 (by decide) (by decide) (by omega) (by decide +kernel) (by decide +kernel) (by decide +kernel) (by omega) (by omega)).mono ?_
  rintro e w11 ⟨_, rfl, hb, b10, A10, n10, c10, B10, m10, d10, rfl, q10⟩
  replace R6 := R6.below hb
  replace P6 := P6.below hb
  replace Q6 := Q6.below hb
  replace R7 := R7.below hb
  replace P7 := P7.below hb
  replace Q7 := Q7.below hb
  replace BB := bl_trans BB hb
  clear hb
  replace q10 := q10.t
  have OO := bl_alloc w11 (.cells #[.bool b10, .slice A10 n10 c10, .slice B10 m10 d10] 26)
  have P10 := Bq.new w11 b10 A10 n10 c10 B10 m10 d10
  replace R6 := R6.below OO
  replace P6 := P6.below OO
  replace Q6 := Q6.below OO
  replace R7 := R7.below OO
  replace P7 := P7.below OO
  replace Q7 := Q7.below OO
  replace q10 := q10.below OO
  replace BB := bl_trans BB OO
  clear OO
  go_upto_region 8 with (fail)
  generalize w11.alloc _ = w12 at R6 P6 Q6 R7 P7 Q7 q10 P10 BB ⊢
  clear q10 P10
  go_wp2_with fail
  refine (cQParseD (k := 1) (l1 := [49]) (l2 := [45, 50]) _ (by decide) (by decide) (by decide) (by decide) (by decide) 1 (by decide) (by decide +kernel) (by omega) (by omega)).mono ?_
  rintro e w13 ⟨_, rfl, hb, b12, A12, n12, c12, B12, m12, d12, rfl, q12⟩
  replace R6 := R6.below hb
  replace P6 := P6.below hb
  replace Q6 := Q6.below hb
  replace R7 := R7.below hb
  replace P7 := P7.below hb
  replace Q7 := Q7.below hb
  replace BB := bl_trans BB hb
  clear hb
  replace q12 := q12.t
  have OO := bl_alloc w13 (.cells #[.bool b12, .slice A12 n12 c12, .slice B12 m12 d12] 26)
  have P12 := Bq.new w13 b12 A12 n12 c12 B12 m12 d12
  replace R6 := R6.below OO
  replace P6 := P6.below OO
  replace Q6 := Q6.below OO
  replace R7 := R7.below OO
  replace P7 := P7.below OO
  replace Q7 := Q7.below OO
  replace q12 := q12.below OO
  replace BB := bl_trans BB OO
  clear OO
  go_upto_region 9 with (fail)
  generalize w13.alloc _ = w14 at R6 P6 Q6 R7 P7 Q7 q12 P12 BB ⊢
  clear q12 P12
  go_wp2_with fail
  refine (cQParseC1 _ (by decide) (by decide) (by decide)).mono ?_
  rintro e w15 ⟨_, rfl, hb, b14, A14, n14, c14, B14, m14, d14, rfl, q14⟩
  replace R6 := R6.below hb
  replace P6 := P6.below hb
  replace Q6 := Q6.below hb
  replace R7 := R7.below hb
  replace P7 := P7.below hb
  replace Q7 := Q7.below hb
  replace BB := bl_trans BB hb
  clear hb
  replace q14 := q14.t
  have OO := bl_alloc w15 (.cells #[.bool b14, .slice A14 n14 c14, .slice B14 m14 d14] 26)
  have P14 := Bq.new w15 b14 A14 n14 c14 B14 m14 d14
  replace R6 := R6.below OO
  replace P6 := P6.below OO
  replace Q6 := Q6.below OO
  replace R7 := R7.below OO
  replace P7 := P7.below OO
  replace Q7 := Q7.below OO
  replace q14 := q14.below OO
  replace BB := bl_trans BB OO
  clear OO
  go_upto_region 10 with (fail)
  generalize w15.alloc _ = w16 at R6 P6 Q6 R7 P7 Q7 q14 P14 BB ⊢
  clear q14 P14
  go_wp2_with fail
  refine (cQParseC2 (l1 := []) (l2 := [50]) _ (by decide) (by decide) (by decide) (by decide)).mono ?_
  rintro e w17 ⟨_, rfl, hb, b16, A16, n16, c16, B16, m16, d16, rfl, q16⟩
  replace R6 := R6.below hb
  replace P6 := P6.below hb
  replace Q6 := Q6.below hb
  replace R7 := R7.below hb
  replace P7 := P7.below hb
  replace Q7 := Q7.below hb
  replace BB := bl_trans BB hb
  clear hb
  replace q16 := q16.t
  have OO := bl_alloc w17 (.cells #[.bool b16, .slice A16 n16 c16, .slice B16 m16 d16] 26)
  have P16 := Bq.new w17 b16 A16 n16 c16 B16 m16 d16
  replace R6 := R6.below OO
  replace P6 := P6.below OO
  replace Q6 := Q6.below OO
  replace R7 := R7.below OO
  replace P7 := P7.below OO
  replace Q7 := Q7.below OO
  replace q16 := q16.below OO
  replace BB := bl_trans BB OO
  clear OO
  go_upto_region 11 with (fail)
  generalize w17.alloc _ = w18 at R6 P6 Q6 R7 P7 Q7 q16 P16 BB ⊢
  clear q16 P16
  go_wp2_with fail
  refine (cQParse1 (k := 1) _ (by decide) (by decide) (by decide) (by decide +kernel) (by omega) (by omega)).mono ?_
  rintro e w19 ⟨_, rfl, hb, b18, A18, n18, c18, B18, m18, d18, rfl, q18⟩
  replace R6 := R6.below hb
  replace P6 := P6.below hb
  replace Q6 := Q6.below hb
  replace R7 := R7.below hb
  replace P7 := P7.below hb
  replace Q7 := Q7.below hb
  replace BB := bl_trans BB hb
  clear hb
  rw [show ((valZ ⟨#[48]⟩ : Int) : Rat) = 0 by decide +kernel] at q18
  replace q18 := q18.t
  have OO := bl_alloc w19 (.cells #[.bool b18, .slice A18 n18 c18, .slice B18 m18 d18] 26)
  have P18 := Bq.new w19 b18 A18 n18 c18 B18 m18 d18
  replace R6 := R6.below OO
  replace P6 := P6.below OO
  replace Q6 := Q6.below OO
  replace R7 := R7.below OO
  replace P7 := P7.below OO
  replace Q7 := Q7.below OO
  replace q18 := q18.below OO
  replace BB := bl_trans BB OO
  clear OO
  go_upto_region 12 with (fail)
  generalize w19.alloc _ = w20 at R6 P6 Q6 R7 P7 Q7 q18 P18 BB ⊢
  go_wp2_with fail
  refine (cQFrom (-9223372036854775808) (by omega) (by omega)).mono ?_
  rintro e w21 ⟨_, rfl, hb, q20⟩
  replace R6 := R6.below hb
  replace P6 := P6.below hb
  replace Q6 := Q6.below hb
  replace R7 := R7.below hb
  replace P7 := P7.below hb
  replace Q7 := Q7.below hb
  replace q18 := q18.below hb
  replace P18 := P18.below hb
  replace BB := bl_trans BB hb
  clear hb
  obtain ⟨b20, A20, n20, c20, B20, m20, d20, rfl, yy⟩ := id q20
  clear yy
  replace q20 := q20.t
  have OO := bl_alloc w21 (.cells #[.bool b20, .slice A20 n20 c20, .slice B20 m20 d20] 26)
  have P20 := Bq.new w21 b20 A20 n20 c20 B20 m20 d20
  replace R6 := R6.below OO
  replace P6 := P6.below OO
  replace Q6 := Q6.below OO
  replace R7 := R7.below OO
  replace P7 := P7.below OO
  replace Q7 := Q7.below OO
  replace q18 := q18.below OO
  replace P18 := P18.below OO
  replace q20 := q20.below OO
  replace BB := bl_trans BB OO
  clear OO
  go_upto_region 13 with (fail)
  generalize w21.alloc _ = w22 at R6 P6 Q6 R7 P7 Q7 q18 P18 q20 P20 BB ⊢
  simp only [List.append_eq, List.cons_append, List.nil_append]
  refine wp_region_list (Ext := RB) (Rel := RBu) [fun v _ _ => v = Value.bool true, fun v _ _ => v = .bool true, fun v _ _ => v = .bool true, fun v _ _ => v = .bool true, fun v _ _ => v = .int .i64 3, fun v _ _ => v = .bool true, fun v _ _ => v = .bool true, fun v _ _ => v = .bool true, fun v _ _ => v = .int .i64 3, fun v _ _ => v = .bool true, fun v _ _ => v = .bool true, fun v _ _ => v = .bool true, fun v _ _ => v = .agg #[.bool true, .slice (some ⟨w6.heap.size, 0, none⟩) 1 1, .slice (some ⟨w6.heap.size + 1, 0, none⟩) 2 2], fun v _ _ => v = .bool false, fun v _ _ => v = .bool true, fun v _ _ => v = .bool true, fun v _ _ => v = .bool true, fun v _ _ => v = .agg #[.bool true, .slice (some ⟨w6.heap.size, 0, none⟩) 1 1, .slice (some ⟨w6.heap.size + 1, 0, none⟩) 2 2], fun v _ _ => v = .int .i64 0, fun v _ _ => v = .bool true, fun v _ _ => v = .bool true, fun v _ _ => v = .bool true, fun v _ _ => v = .agg #[.bool true, .slice (some ⟨w6.heap.size, 0, none⟩) 1 1, .slice (some ⟨w6.heap.size + 1, 0, none⟩) 2 2], fun v _ _ => IsS v (txtQ (mkRat (zv true (M.val [0])) (dOf (M.val [0, 0])))), fun v _ _ => v = .bool true, fun v _ _ => v = .bool true, fun v _ _ => v = .bool true, fun v _ _ => v = .agg #[.bool false, .slice (some ⟨w7.heap.size, 0, none⟩) 2 2, .slice (some ⟨w7.heap.size + 1, 0, none⟩) 2 2], fun v _ _ => v = .bool false, fun v _ _ => v = .bool true, fun v _ _ => v = .bool true, fun v _ _ => v = .bool true, fun v _ _ => v = .agg #[.bool false, .slice (some ⟨w7.heap.size, 0, none⟩) 2 2, .slice (some ⟨w7.heap.size + 1, 0, none⟩) 2 2], fun v _ _ => IsS v (txtQ (mkRat (zv false (M.val [0, 2])) (dOf (M.val [0, 4])))), fun v _ _ => v = .bool true, fun v _ _ => v = .bool true, fun v _ _ => v = .bool true, fun v _ _ => v = .agg #[.bool false, .slice (some ⟨w7.heap.size, 0, none⟩) 2 2, .slice (some ⟨w7.heap.size + 1, 0, none⟩) 2 2], fun v _ w => IsQ (w22).heap.size w v (-(mkRat (zv false (M.val [0, 2])) (dOf (M.val [0, 4])))) 4, fun v _ _ => IsS v (txtQ (-(mkRat (zv false (M.val [0, 2])) (dOf (M.val [0, 4]))))), fun v _ _ => v = .bool true, fun v _ _ => v = .bool true, fun v _ _ => v = .bool true, fun v _ _ => v = .bool false, fun v _ _ => v = .bool true, fun v _ _ => v = .bool true, fun v _ _ => v = .bool true, fun v _ _ => v = .bool false, fun v _ _ => v = .bool true, fun v _ _ => v = .bool true, fun v _ _ => v = .bool true, fun v _ _ => v = .bool false, fun v _ _ => v = .bool true, fun v _ _ => v = .bool true, fun v _ _ => v = .bool true, fun v _ _ => v = .bool false, fun v _ _ => v = .bool true, fun v _ _ => v = .bool true, fun v _ _ => v = .bool true, fun v _ _ => v = .bool false, fun v _ _ => v = .bool true, fun v _ _ => v = .bool true, fun v _ _ => v = .bool true, fun v _ _ => v = .bool true, fun v _ _ => v = .bool true, fun v _ _ => v = .bool true, fun v _ _ => v = .agg #[.bool b18, .slice A18 n18 c18, .slice B18 m18 d18], fun v _ _ => v = .int .i64 0, fun v _ _ => v = .bool true, fun v _ _ => v = .bool true, fun v _ _ => v = .bool true, fun v _ _ => v = .agg #[.bool b18, .slice A18 n18 c18, .slice B18 m18 d18], fun v _ _ => v = .bool true, fun v _ _ => v = .bool true, fun v _ _ => v = .bool true, fun v _ _ => v = .agg #[.bool false, .slice none 0 0, .slice none 0 0], fun v _ _ => v = .bool false, fun v _ _ => v = .bool true, fun v _ _ => v = .bool true, fun v _ _ => v = .bool true, fun v _ _ => v = .agg #[.bool false, .slice none 0 0, .slice none 0 0], fun v _ _ => v = .bool true, fun v _ _ => v = .bool true, fun v _ _ => v = .bool true, fun v _ _ => v = .agg #[.bool b20, .slice A20 n20 c20, .slice B20 m20 d20], fun v _ _ => IsS v (txtQ (((-9223372036854775808 : Int) : Rat))), fun v _ _ => v = .bool true, fun v _ _ => v = .bool true, fun v _ _ => v = .bool true, fun v _ _ => v = .agg #[.bool b20, .slice A20 n20 c20, .slice B20 m20 d20], fun v _ w => IsQ (w22).heap.size w v (((1 : Int) : Rat)) 2, fun v _ w => IsQ (w22).heap.size w v ((((-9223372036854775808 : Int) : Rat)) - (((1 : Int) : Rat))) 5, fun v _ _ => IsS v (txtQ ((((-9223372036854775808 : Int) : Rat)) - (((1 : Int) : Rat)))), fun v _ _ => v = .bool true, fun v _ _ => v = .bool true, fun v _ _ => v = .bool true] (n := 96) (by kernel_rfl) rfl (by kernel_rfl) (by kernel_rfl) (by kernel_rfl) (by kernel_rfl) (by kernel_rfl) rb_refl rb_trans ⟨sC, ⟨sC, ⟨sC, ⟨sC, ⟨sC, ⟨sC, ⟨sC, ⟨sC, ⟨sC, ⟨sC, ⟨sC, ⟨sC, ⟨sC, ⟨sC, ⟨sC, ⟨sC, ⟨sC, ⟨sC, ⟨sC, ⟨sC, ⟨sC, ⟨sC, ⟨sC, ⟨sS, ⟨sC, ⟨sC, ⟨sC, ⟨sC, ⟨sC, ⟨sC, ⟨sC, ⟨sC, ⟨sC, ⟨sS, ⟨sC, ⟨sC, ⟨sC, ⟨sC, ⟨sQ, ⟨sS, ⟨sC, ⟨sC, ⟨sC, ⟨sC, ⟨sC, ⟨sC, ⟨sC, ⟨sC, ⟨sC, ⟨sC, ⟨sC, ⟨sC, ⟨sC, ⟨sC, ⟨sC, ⟨sC, ⟨sC, ⟨sC, ⟨sC, ⟨sC, ⟨sC, ⟨sC, ⟨sC, ⟨sC, ⟨sC, ⟨sC, ⟨sC, ⟨sC, ⟨sC, ⟨sC, ⟨sC, ⟨sC, ⟨sC, ⟨sC, ⟨sC, ⟨sC, ⟨sC, ⟨sC, ⟨sC, ⟨sC, ⟨sC, ⟨sC, ⟨sC, ⟨sC, ⟨sC, ⟨sS, ⟨sC, ⟨sC, ⟨sC, ⟨sC, ⟨sQ, ⟨sQ, ⟨sS, ⟨sC, ⟨sC, ⟨sC, trivial⟩⟩⟩⟩⟩⟩⟩⟩⟩⟩⟩⟩⟩⟩⟩⟩⟩⟩⟩⟩⟩⟩⟩⟩⟩⟩⟩⟩⟩⟩⟩⟩⟩⟩⟩⟩⟩⟩⟩⟩⟩⟩⟩⟩⟩⟩⟩⟩⟩⟩⟩⟩⟩⟩⟩⟩⟩⟩⟩⟩⟩⟩⟩⟩⟩⟩⟩⟩⟩⟩⟩⟩⟩⟩⟩⟩⟩⟩⟩⟩⟩⟩⟩⟩⟩⟩⟩⟩⟩⟩⟩⟩⟩⟩⟩⟩ ?_ ?_
  · refine ⟨⟨⟨⟨⟨⟨⟨⟨⟨⟨⟨⟨⟨⟨⟨⟨⟨⟨⟨⟨⟨⟨⟨⟨⟨⟨⟨⟨⟨⟨⟨⟨⟨⟨⟨⟨⟨⟨⟨⟨⟨⟨⟨⟨⟨⟨⟨⟨⟨⟨⟨⟨⟨⟨⟨⟨⟨⟨⟨⟨⟨⟨⟨⟨⟨⟨⟨⟨⟨⟨⟨⟨⟨⟨⟨⟨⟨⟨⟨⟨⟨⟨⟨⟨⟨⟨⟨⟨⟨⟨⟨⟨⟨⟨⟨⟨trivial, ?_⟩, ?_⟩, ?_⟩, ?_⟩, ?_⟩, ?_⟩, ?_⟩, ?_⟩, ?_⟩, ?_⟩, ?_⟩, ?_⟩, ?_⟩, ?_⟩, ?_⟩, ?_⟩, ?_⟩, ?_⟩, ?_⟩, ?_⟩, ?_⟩, ?_⟩, ?_⟩, ?_⟩, ?_⟩, ?_⟩, ?_⟩, ?_⟩, ?_⟩, ?_⟩, ?_⟩, ?_⟩, ?_⟩, ?_⟩, ?_⟩, ?_⟩, ?_⟩, ?_⟩, ?_⟩, ?_⟩, ?_⟩, ?_⟩, ?_⟩, ?_⟩, ?_⟩, ?_⟩, ?_⟩, ?_⟩, ?_⟩, ?_⟩, ?_⟩, ?_⟩, ?_⟩, ?_⟩, ?_⟩, ?_⟩, ?_⟩, ?_⟩, ?_⟩, ?_⟩, ?_⟩, ?_⟩, ?_⟩, ?_⟩, ?_⟩, ?_⟩, ?_⟩, ?_⟩, ?_⟩, ?_⟩, ?_⟩, ?_⟩, ?_⟩, ?_⟩, ?_⟩, ?_⟩, ?_⟩, ?_⟩, ?_⟩, ?_⟩, ?_⟩, ?_⟩, ?_⟩, ?_⟩, ?_⟩, ?_⟩, ?_⟩, ?_⟩, ?_⟩, ?_⟩, ?_⟩, ?_⟩, ?_⟩, ?_⟩, ?_⟩, ?_⟩
    · refine rs_plain rfl rfl fun a wr S => ?_
      have X := undrew S.ext
      exact wp_mv rfl (done (by kernel_rfl) rbu_refl rfl)
    · refine rs_yes rfl rfl (by kernel_rfl) (by kernel_rfl : _ = some 68) (fun _ _ _ h => h) fun a wr S => ?_
      have X := undrew S.ext
      exact st_call cf_law03_works (show (#[] : Array Operand).map a.eval = #[] by simp) (by kernel_rfl) rb (cWorks3 _) (fun _ _ _ h => h)
    · refine rs_plain rfl rfl fun a wr S => ?_
      have X := undrew S.ext
      obtain ⟨v0, e0, h0⟩ := S.got 0 (by kernel_rfl)
      obtain ⟨v1, e1, h1⟩ := S.got 1 (by kernel_rfl)
      exact wp_pickT ((ev_of (e0 68 (by kernel_rfl))).trans h0) ((ev_of (e1 69 (by kernel_rfl))).trans h1) (done (by kernel_rfl) rbu_refl rfl)
    · refine rs_plain rfl rfl fun a wr S => ?_
      have X := undrew S.ext
      obtain ⟨v2, e2, h2⟩ := S.got 2 (by kernel_rfl)
      exact wp_mv ((ev_of (e2 70 (by kernel_rfl))).trans h2) (done (by kernel_rfl) rbu_refl rfl)
    · refine rs_yes rfl rfl (by kernel_rfl) (by kernel_rfl : _ = some 71) (fun _ _ _ h => h) fun a wr S => ?_
      have X := undrew S.ext
      exact wp_mv (ev_of ((S.old 3 (by kernel_rfl)).trans rfl)) (done (by kernel_rfl) rbu_refl rfl)
    · refine rs_yes rfl rfl (by kernel_rfl) (by kernel_rfl : _ = some 71) (fun _ _ _ h => h) fun a wr S => ?_
      have X := undrew S.ext
      obtain ⟨v4, e4, h4⟩ := S.got 4 (by kernel_rfl)
      exact wp_eqI ((ev_of (e4 72 (by kernel_rfl))).trans h4) rfl (Or.inr rfl) (done (by kernel_rfl) rbu_refl (congrArg Value.bool (by decide)))
    · refine rs_plain rfl rfl fun a wr S => ?_
      have X := undrew S.ext
      obtain ⟨v3, e3, h3⟩ := S.got 3 (by kernel_rfl)
      obtain ⟨v5, e5, h5⟩ := S.got 5 (by kernel_rfl)
      exact wp_pickT ((ev_of (e3 71 (by kernel_rfl))).trans h3) ((ev_of (e5 73 (by kernel_rfl))).trans h5) (done (by kernel_rfl) rbu_refl rfl)
    · refine rs_plain rfl rfl fun a wr S => ?_
      have X := undrew S.ext
      obtain ⟨v6, e6, h6⟩ := S.got 6 (by kernel_rfl)
      exact wp_mv ((ev_of (e6 74 (by kernel_rfl))).trans h6) (done (by kernel_rfl) rbu_refl rfl)
    · refine rs_yes rfl rfl (by kernel_rfl) (by kernel_rfl : _ = some 75) (fun _ _ _ h => h) fun a wr S => ?_
      have X := undrew S.ext
      exact wp_mv (ev_of ((S.old 5 (by kernel_rfl)).trans rfl)) (done (by kernel_rfl) rbu_refl rfl)
    · refine rs_yes rfl rfl (by kernel_rfl) (by kernel_rfl : _ = some 75) (fun _ _ _ h => h) fun a wr S => ?_
      have X := undrew S.ext
      obtain ⟨v8, e8, h8⟩ := S.got 8 (by kernel_rfl)
      exact wp_eqI ((ev_of (e8 76 (by kernel_rfl))).trans h8) rfl (Or.inr rfl) (done (by kernel_rfl) rbu_refl (congrArg Value.bool (by decide)))
    · refine rs_plain rfl rfl fun a wr S => ?_
      have X := undrew S.ext
      obtain ⟨v7, e7, h7⟩ := S.got 7 (by kernel_rfl)
      obtain ⟨v9, e9, h9⟩ := S.got 9 (by kernel_rfl)
      exact wp_pickT ((ev_of (e7 75 (by kernel_rfl))).trans h7) ((ev_of (e9 77 (by kernel_rfl))).trans h9) (done (by kernel_rfl) rbu_refl rfl)
    · refine rs_plain rfl rfl fun a wr S => ?_
      have X := undrew S.ext
      obtain ⟨v10, e10, h10⟩ := S.got 10 (by kernel_rfl)
      exact wp_mv ((ev_of (e10 78 (by kernel_rfl))).trans h10) (done (by kernel_rfl) rbu_refl rfl)
    · refine rs_yes rfl rfl (by kernel_rfl) (by kernel_rfl : _ = some 79) (fun _ _ _ h => h) fun a wr S => ?_
      have X := undrew S.ext
      exact wp_qload (ev_of ((S.old 6 (by kernel_rfl)).trans rfl)) (P6.below X) (done (by kernel_rfl) rbu_refl rfl)
    · refine rs_yes rfl rfl (by kernel_rfl) (by kernel_rfl : _ = some 79) (fun _ _ _ h => h) fun a wr S => ?_
      have X := undrew S.ext
      obtain ⟨v12, e12, h12⟩ := S.got 12 (by kernel_rfl)
      exact st_call cf_rat_Right (args1 ((ev_of (e12 80 (by kernel_rfl))).trans h12)) (by kernel_rfl) rb (cQRightI (R6.below X) (by omega) (r := false) ⟨fun h => (by cases h), fun h => absurd h (by unfold RightQ; decide +kernel)⟩) (fun _ _ _ h => h)
    · refine rs_yes rfl rfl (by kernel_rfl) (by kernel_rfl : _ = some 79) (fun _ _ _ h => h) fun a wr S => ?_
      have X := undrew S.ext
      obtain ⟨v13, e13, h13⟩ := S.got 13 (by kernel_rfl)
      exact wp_not ((ev_of (e13 81 (by kernel_rfl))).trans h13) (done (by kernel_rfl) rbu_refl rfl)
    · refine rs_plain rfl rfl fun a wr S => ?_
      have X := undrew S.ext
      obtain ⟨v11, e11, h11⟩ := S.got 11 (by kernel_rfl)
      obtain ⟨v14, e14, h14⟩ := S.got 14 (by kernel_rfl)
      exact wp_pickT ((ev_of (e11 79 (by kernel_rfl))).trans h11) ((ev_of (e14 82 (by kernel_rfl))).trans h14) (done (by kernel_rfl) rbu_refl rfl)
    · refine rs_plain rfl rfl fun a wr S => ?_
      have X := undrew S.ext
      obtain ⟨v15, e15, h15⟩ := S.got 15 (by kernel_rfl)
      exact wp_mv ((ev_of (e15 83 (by kernel_rfl))).trans h15) (done (by kernel_rfl) rbu_refl rfl)
    · refine rs_yes rfl rfl (by kernel_rfl) (by kernel_rfl : _ = some 84) (fun _ _ _ h => h) fun a wr S => ?_
      have X := undrew S.ext
      exact wp_qload (ev_of ((S.old 6 (by kernel_rfl)).trans rfl)) (P6.below X) (done (by kernel_rfl) rbu_refl rfl)
    · refine rs_yes rfl rfl (by kernel_rfl) (by kernel_rfl : _ = some 84) (fun _ _ _ h => h) fun a wr S => ?_
      have X := undrew S.ext
      obtain ⟨v17, e17, h17⟩ := S.got 17 (by kernel_rfl)
      exact st_call cf_rat_Sign (args1 ((ev_of (e17 85 (by kernel_rfl))).trans h17)) (by kernel_rfl) rb (cQSign (show IsQm _ _ _ _ from (Q6.below X)) (by omega) (by decide +kernel)) (fun _ _ _ h => h)
    · refine rs_yes rfl rfl (by kernel_rfl) (by kernel_rfl : _ = some 84) (fun _ _ _ h => h) fun a wr S => ?_
      have X := undrew S.ext
      obtain ⟨v18, e18, h18⟩ := S.got 18 (by kernel_rfl)
      exact wp_eqI ((ev_of (e18 86 (by kernel_rfl))).trans h18) rfl (Or.inl rfl) (done (by kernel_rfl) rbu_refl (congrArg Value.bool (by decide)))
    · refine rs_plain rfl rfl fun a wr S => ?_
      have X := undrew S.ext
      obtain ⟨v16, e16, h16⟩ := S.got 16 (by kernel_rfl)
      obtain ⟨v19, e19, h19⟩ := S.got 19 (by kernel_rfl)
      exact wp_pickT ((ev_of (e16 84 (by kernel_rfl))).trans h16) ((ev_of (e19 87 (by kernel_rfl))).trans h19) (done (by kernel_rfl) rbu_refl rfl)
    · refine rs_plain rfl rfl fun a wr S => ?_
      have X := undrew S.ext
      obtain ⟨v20, e20, h20⟩ := S.got 20 (by kernel_rfl)
      exact wp_mv ((ev_of (e20 88 (by kernel_rfl))).trans h20) (done (by kernel_rfl) rbu_refl rfl)
    · refine rs_yes rfl rfl (by kernel_rfl) (by kernel_rfl : _ = some 89) (fun _ _ _ h => h) fun a wr S => ?_
      have X := undrew S.ext
      exact wp_qload (ev_of ((S.old 6 (by kernel_rfl)).trans rfl)) (P6.below X) (done (by kernel_rfl) rbu_refl rfl)
    · refine rs_yes rfl rfl (by kernel_rfl) (by kernel_rfl : _ = some 89) (fun _ _ _ h => h) fun a wr S => ?_
      have X := undrew S.ext
      obtain ⟨v22, e22, h22⟩ := S.got 22 (by kernel_rfl)
      exact st_call cf_rat_Text (args1 ((ev_of (e22 90 (by kernel_rfl))).trans h22)) (by kernel_rfl) rb (cQText (show IsQm _ _ _ _ from (Q6.below X)) (by omega) (by omega)) (fun _ _ _ h => h)
    · refine rs_yes rfl rfl (by kernel_rfl) (by kernel_rfl : _ = some 89) (fun _ _ _ h => h) fun a wr S => ?_
      have X := undrew S.ext
      obtain ⟨v23, e23, h23⟩ := S.got 23 (by kernel_rfl)
      obtain ⟨sx, hsx, bsx⟩ := (show IsS _ _ from h23)
      exact wp_eqS ((ev_of (e23 91 (by kernel_rfl))).trans hsx) rfl (done (by kernel_rfl) rbu_refl (congrArg Value.bool (eqB bsx (by rfl) k_odd)))
    · refine rs_plain rfl rfl fun a wr S => ?_
      have X := undrew S.ext
      obtain ⟨v21, e21, h21⟩ := S.got 21 (by kernel_rfl)
      obtain ⟨v24, e24, h24⟩ := S.got 24 (by kernel_rfl)
      exact wp_pickT ((ev_of (e21 89 (by kernel_rfl))).trans h21) ((ev_of (e24 92 (by kernel_rfl))).trans h24) (done (by kernel_rfl) rbu_refl rfl)
    · refine rs_plain rfl rfl fun a wr S => ?_
      have X := undrew S.ext
      obtain ⟨v25, e25, h25⟩ := S.got 25 (by kernel_rfl)
      exact wp_mv ((ev_of (e25 93 (by kernel_rfl))).trans h25) (done (by kernel_rfl) rbu_refl rfl)
    · refine rs_yes rfl rfl (by kernel_rfl) (by kernel_rfl : _ = some 94) (fun _ _ _ h => h) fun a wr S => ?_
      have X := undrew S.ext
      exact wp_qload (ev_of ((S.old 7 (by kernel_rfl)).trans rfl)) (P7.below X) (done (by kernel_rfl) rbu_refl rfl)
    · refine rs_yes rfl rfl (by kernel_rfl) (by kernel_rfl : _ = some 94) (fun _ _ _ h => h) fun a wr S => ?_
      have X := undrew S.ext
      obtain ⟨v27, e27, h27⟩ := S.got 27 (by kernel_rfl)
      exact st_call cf_rat_Right (args1 ((ev_of (e27 95 (by kernel_rfl))).trans h27)) (by kernel_rfl) rb (cQRightI (R7.below X) (by omega) (r := false) ⟨fun h => (by cases h), fun h => absurd h (by unfold RightQ; decide +kernel)⟩) (fun _ _ _ h => h)
    · refine rs_yes rfl rfl (by kernel_rfl) (by kernel_rfl : _ = some 94) (fun _ _ _ h => h) fun a wr S => ?_
      have X := undrew S.ext
      obtain ⟨v28, e28, h28⟩ := S.got 28 (by kernel_rfl)
      exact wp_not ((ev_of (e28 96 (by kernel_rfl))).trans h28) (done (by kernel_rfl) rbu_refl rfl)
    · refine rs_plain rfl rfl fun a wr S => ?_
      have X := undrew S.ext
      obtain ⟨v26, e26, h26⟩ := S.got 26 (by kernel_rfl)
      obtain ⟨v29, e29, h29⟩ := S.got 29 (by kernel_rfl)
      exact wp_pickT ((ev_of (e26 94 (by kernel_rfl))).trans h26) ((ev_of (e29 97 (by kernel_rfl))).trans h29) (done (by kernel_rfl) rbu_refl rfl)
    · refine rs_plain rfl rfl fun a wr S => ?_
      have X := undrew S.ext
      obtain ⟨v30, e30, h30⟩ := S.got 30 (by kernel_rfl)
      exact wp_mv ((ev_of (e30 98 (by kernel_rfl))).trans h30) (done (by kernel_rfl) rbu_refl rfl)
    · refine rs_yes rfl rfl (by kernel_rfl) (by kernel_rfl : _ = some 99) (fun _ _ _ h => h) fun a wr S => ?_
      have X := undrew S.ext
      exact wp_qload (ev_of ((S.old 7 (by kernel_rfl)).trans rfl)) (P7.below X) (done (by kernel_rfl) rbu_refl rfl)
    · refine rs_yes rfl rfl (by kernel_rfl) (by kernel_rfl : _ = some 99) (fun _ _ _ h => h) fun a wr S => ?_
      have X := undrew S.ext
      obtain ⟨v32, e32, h32⟩ := S.got 32 (by kernel_rfl)
      exact st_call cf_rat_Text (args1 ((ev_of (e32 100 (by kernel_rfl))).trans h32)) (by kernel_rfl) rb (cQText (show IsQm _ _ _ _ from (Q7.below X)) (by omega) (by omega)) (fun _ _ _ h => h)
    · refine rs_yes rfl rfl (by kernel_rfl) (by kernel_rfl : _ = some 99) (fun _ _ _ h => h) fun a wr S => ?_
      have X := undrew S.ext
      obtain ⟨v33, e33, h33⟩ := S.got 33 (by kernel_rfl)
      obtain ⟨sx, hsx, bsx⟩ := (show IsS _ _ from h33)
      exact wp_eqS ((ev_of (e33 101 (by kernel_rfl))).trans hsx) rfl (done (by kernel_rfl) rbu_refl (congrArg Value.bool (eqB bsx (by rfl) k_half)))
    · refine rs_plain rfl rfl fun a wr S => ?_
      have X := undrew S.ext
      obtain ⟨v31, e31, h31⟩ := S.got 31 (by kernel_rfl)
      obtain ⟨v34, e34, h34⟩ := S.got 34 (by kernel_rfl)
      exact wp_pickT ((ev_of (e31 99 (by kernel_rfl))).trans h31) ((ev_of (e34 102 (by kernel_rfl))).trans h34) (done (by kernel_rfl) rbu_refl rfl)
    · refine rs_plain rfl rfl fun a wr S => ?_
      have X := undrew S.ext
      obtain ⟨v35, e35, h35⟩ := S.got 35 (by kernel_rfl)
      exact wp_mv ((ev_of (e35 103 (by kernel_rfl))).trans h35) (done (by kernel_rfl) rbu_refl rfl)
    · refine rs_yes rfl rfl (by kernel_rfl) (by kernel_rfl : _ = some 104) (fun _ _ _ h => h) fun a wr S => ?_
      have X := undrew S.ext
      exact wp_qload (ev_of ((S.old 7 (by kernel_rfl)).trans rfl)) (P7.below X) (done (by kernel_rfl) rbu_refl rfl)
    · refine rs_yes rfl rfl (by kernel_rfl) (by kernel_rfl : _ = some 104) (fun _ _ _ h => h) fun a wr S => ?_
      have X := undrew S.ext
      obtain ⟨v37, e37, h37⟩ := S.got 37 (by kernel_rfl)
      exact st_call cf_rat_Neg (args1 ((ev_of (e37 105 (by kernel_rfl))).trans h37)) (by kernel_rfl) rb ((cQNeg (show IsQm _ _ _ _ from (Q7.below X)) (by omega) (by omega)).mono (ansQ_base X.size)) (fun _ _ _ h => h)
    · refine rs_yes rfl rfl (by kernel_rfl) (by kernel_rfl : _ = some 104) (fun _ _ _ h => h) fun a wr S => ?_
      have X := undrew S.ext
      obtain ⟨v38, e38, h38⟩ := S.got 38 (by kernel_rfl)
      exact st_call cf_rat_Text (args1 (ev_of (e38 106 (by kernel_rfl)))) (by kernel_rfl) rb (cQText (show IsQm _ _ _ _ from h38.m) (by omega) (by omega)) (fun _ _ _ h => h)
    · refine rs_yes rfl rfl (by kernel_rfl) (by kernel_rfl : _ = some 104) (fun _ _ _ h => h) fun a wr S => ?_
      have X := undrew S.ext
      obtain ⟨v39, e39, h39⟩ := S.got 39 (by kernel_rfl)
      obtain ⟨sx, hsx, bsx⟩ := (show IsS _ _ from h39)
      exact wp_eqS ((ev_of (e39 107 (by kernel_rfl))).trans hsx) rfl (done (by kernel_rfl) rbu_refl (congrArg Value.bool (eqB bsx (by rfl) k_nhalf)))
    · refine rs_plain rfl rfl fun a wr S => ?_
      have X := undrew S.ext
      obtain ⟨v36, e36, h36⟩ := S.got 36 (by kernel_rfl)
      obtain ⟨v40, e40, h40⟩ := S.got 40 (by kernel_rfl)
      exact wp_pickT ((ev_of (e36 104 (by kernel_rfl))).trans h36) ((ev_of (e40 108 (by kernel_rfl))).trans h40) (done (by kernel_rfl) rbu_refl rfl)
    · refine rs_plain rfl rfl fun a wr S => ?_
      have X := undrew S.ext
      obtain ⟨v41, e41, h41⟩ := S.got 41 (by kernel_rfl)
      exact wp_mv ((ev_of (e41 109 (by kernel_rfl))).trans h41) (done (by kernel_rfl) rbu_refl rfl)
    · refine rs_yes rfl rfl (by kernel_rfl) (by kernel_rfl : _ = some 110) (fun _ _ _ h => h) fun a wr S => ?_
      have X := undrew S.ext
      exact wp_mv (ev_of ((S.old 9 (by kernel_rfl)).trans rfl)) (done (by kernel_rfl) rbu_refl rfl)
    · refine rs_yes rfl rfl (by kernel_rfl) (by kernel_rfl : _ = some 110) (fun _ _ _ h => h) fun a wr S => ?_
      have X := undrew S.ext
      obtain ⟨v43, e43, h43⟩ := S.got 43 (by kernel_rfl)
      exact wp_not ((ev_of (e43 111 (by kernel_rfl))).trans h43) (done (by kernel_rfl) rbu_refl rfl)
    · refine rs_plain rfl rfl fun a wr S => ?_
      have X := undrew S.ext
      obtain ⟨v42, e42, h42⟩ := S.got 42 (by kernel_rfl)
      obtain ⟨v44, e44, h44⟩ := S.got 44 (by kernel_rfl)
      exact wp_pickT ((ev_of (e42 110 (by kernel_rfl))).trans h42) ((ev_of (e44 112 (by kernel_rfl))).trans h44) (done (by kernel_rfl) rbu_refl rfl)
    · refine rs_plain rfl rfl fun a wr S => ?_
      have X := undrew S.ext
      obtain ⟨v45, e45, h45⟩ := S.got 45 (by kernel_rfl)
      exact wp_mv ((ev_of (e45 113 (by kernel_rfl))).trans h45) (done (by kernel_rfl) rbu_refl rfl)
    · refine rs_yes rfl rfl (by kernel_rfl) (by kernel_rfl : _ = some 114) (fun _ _ _ h => h) fun a wr S => ?_
      have X := undrew S.ext
      exact wp_mv (ev_of ((S.old 11 (by kernel_rfl)).trans rfl)) (done (by kernel_rfl) rbu_refl rfl)
    · refine rs_yes rfl rfl (by kernel_rfl) (by kernel_rfl : _ = some 114) (fun _ _ _ h => h) fun a wr S => ?_
      have X := undrew S.ext
      obtain ⟨v47, e47, h47⟩ := S.got 47 (by kernel_rfl)
      exact wp_not ((ev_of (e47 115 (by kernel_rfl))).trans h47) (done (by kernel_rfl) rbu_refl rfl)
    · refine rs_plain rfl rfl fun a wr S => ?_
      have X := undrew S.ext
      obtain ⟨v46, e46, h46⟩ := S.got 46 (by kernel_rfl)
      obtain ⟨v48, e48, h48⟩ := S.got 48 (by kernel_rfl)
      exact wp_pickT ((ev_of (e46 114 (by kernel_rfl))).trans h46) ((ev_of (e48 116 (by kernel_rfl))).trans h48) (done (by kernel_rfl) rbu_refl rfl)
    · refine rs_plain rfl rfl fun a wr S => ?_
      have X := undrew S.ext
      obtain ⟨v49, e49, h49⟩ := S.got 49 (by kernel_rfl)
      exact wp_mv ((ev_of (e49 117 (by kernel_rfl))).trans h49) (done (by kernel_rfl) rbu_refl rfl)
    · refine rs_yes rfl rfl (by kernel_rfl) (by kernel_rfl : _ = some 118) (fun _ _ _ h => h) fun a wr S => ?_
      have X := undrew S.ext
      exact wp_mv (ev_of ((S.old 13 (by kernel_rfl)).trans rfl)) (done (by kernel_rfl) rbu_refl rfl)
    · refine rs_yes rfl rfl (by kernel_rfl) (by kernel_rfl : _ = some 118) (fun _ _ _ h => h) fun a wr S => ?_
      have X := undrew S.ext
      obtain ⟨v51, e51, h51⟩ := S.got 51 (by kernel_rfl)
      exact wp_not ((ev_of (e51 119 (by kernel_rfl))).trans h51) (done (by kernel_rfl) rbu_refl rfl)
    · refine rs_plain rfl rfl fun a wr S => ?_
      have X := undrew S.ext
      obtain ⟨v50, e50, h50⟩ := S.got 50 (by kernel_rfl)
      obtain ⟨v52, e52, h52⟩ := S.got 52 (by kernel_rfl)
      exact wp_pickT ((ev_of (e50 118 (by kernel_rfl))).trans h50) ((ev_of (e52 120 (by kernel_rfl))).trans h52) (done (by kernel_rfl) rbu_refl rfl)
    · refine rs_plain rfl rfl fun a wr S => ?_
      have X := undrew S.ext
      obtain ⟨v53, e53, h53⟩ := S.got 53 (by kernel_rfl)
      exact wp_mv ((ev_of (e53 121 (by kernel_rfl))).trans h53) (done (by kernel_rfl) rbu_refl rfl)
    · refine rs_yes rfl rfl (by kernel_rfl) (by kernel_rfl : _ = some 122) (fun _ _ _ h => h) fun a wr S => ?_
      have X := undrew S.ext
      exact wp_mv (ev_of ((S.old 15 (by kernel_rfl)).trans rfl)) (done (by kernel_rfl) rbu_refl rfl)
    · refine rs_yes rfl rfl (by kernel_rfl) (by kernel_rfl : _ = some 122) (fun _ _ _ h => h) fun a wr S => ?_
      have X := undrew S.ext
      obtain ⟨v55, e55, h55⟩ := S.got 55 (by kernel_rfl)
      exact wp_not ((ev_of (e55 123 (by kernel_rfl))).trans h55) (done (by kernel_rfl) rbu_refl rfl)
    · refine rs_plain rfl rfl fun a wr S => ?_
      have X := undrew S.ext
      obtain ⟨v54, e54, h54⟩ := S.got 54 (by kernel_rfl)
      obtain ⟨v56, e56, h56⟩ := S.got 56 (by kernel_rfl)
      exact wp_pickT ((ev_of (e54 122 (by kernel_rfl))).trans h54) ((ev_of (e56 124 (by kernel_rfl))).trans h56) (done (by kernel_rfl) rbu_refl rfl)
    · refine rs_plain rfl rfl fun a wr S => ?_
      have X := undrew S.ext
      obtain ⟨v57, e57, h57⟩ := S.got 57 (by kernel_rfl)
      exact wp_mv ((ev_of (e57 125 (by kernel_rfl))).trans h57) (done (by kernel_rfl) rbu_refl rfl)
    · refine rs_yes rfl rfl (by kernel_rfl) (by kernel_rfl : _ = some 126) (fun _ _ _ h => h) fun a wr S => ?_
      have X := undrew S.ext
      exact wp_mv (ev_of ((S.old 17 (by kernel_rfl)).trans rfl)) (done (by kernel_rfl) rbu_refl rfl)
    · refine rs_yes rfl rfl (by kernel_rfl) (by kernel_rfl : _ = some 126) (fun _ _ _ h => h) fun a wr S => ?_
      have X := undrew S.ext
      obtain ⟨v59, e59, h59⟩ := S.got 59 (by kernel_rfl)
      exact wp_not ((ev_of (e59 127 (by kernel_rfl))).trans h59) (done (by kernel_rfl) rbu_refl rfl)
    · refine rs_plain rfl rfl fun a wr S => ?_
      have X := undrew S.ext
      obtain ⟨v58, e58, h58⟩ := S.got 58 (by kernel_rfl)
      obtain ⟨v60, e60, h60⟩ := S.got 60 (by kernel_rfl)
      exact wp_pickT ((ev_of (e58 126 (by kernel_rfl))).trans h58) ((ev_of (e60 128 (by kernel_rfl))).trans h60) (done (by kernel_rfl) rbu_refl rfl)
    · refine rs_plain rfl rfl fun a wr S => ?_
      have X := undrew S.ext
      obtain ⟨v61, e61, h61⟩ := S.got 61 (by kernel_rfl)
      exact wp_mv ((ev_of (e61 129 (by kernel_rfl))).trans h61) (done (by kernel_rfl) rbu_refl rfl)
    · refine rs_yes rfl rfl (by kernel_rfl) (by kernel_rfl : _ = some 130) (fun _ _ _ h => h) fun a wr S => ?_
      have X := undrew S.ext
      exact wp_mv (ev_of ((S.old 19 (by kernel_rfl)).trans rfl)) (done (by kernel_rfl) rbu_refl rfl)
    · refine rs_plain rfl rfl fun a wr S => ?_
      have X := undrew S.ext
      obtain ⟨v62, e62, h62⟩ := S.got 62 (by kernel_rfl)
      obtain ⟨v63, e63, h63⟩ := S.got 63 (by kernel_rfl)
      exact wp_pickT ((ev_of (e62 130 (by kernel_rfl))).trans h62) ((ev_of (e63 131 (by kernel_rfl))).trans h63) (done (by kernel_rfl) rbu_refl rfl)
    · refine rs_plain rfl rfl fun a wr S => ?_
      have X := undrew S.ext
      obtain ⟨v64, e64, h64⟩ := S.got 64 (by kernel_rfl)
      exact wp_mv ((ev_of (e64 132 (by kernel_rfl))).trans h64) (done (by kernel_rfl) rbu_refl rfl)
    · refine rs_yes rfl rfl (by kernel_rfl) (by kernel_rfl : _ = some 133) (fun _ _ _ h => h) fun a wr S => ?_
      have X := undrew S.ext
      exact wp_qload (ev_of ((S.old 18 (by kernel_rfl)).trans rfl)) (P18.below X) (done (by kernel_rfl) rbu_refl rfl)
    · refine rs_yes rfl rfl (by kernel_rfl) (by kernel_rfl : _ = some 133) (fun _ _ _ h => h) fun a wr S => ?_
      have X := undrew S.ext
      obtain ⟨v66, e66, h66⟩ := S.got 66 (by kernel_rfl)
      exact st_call cf_rat_Sign (args1 ((ev_of (e66 134 (by kernel_rfl))).trans h66)) (by kernel_rfl) rb (cQSign (show IsQm _ _ _ _ from (q18.below X).m) (by omega) (by decide +kernel)) (fun _ _ _ h => h)
    · refine rs_yes rfl rfl (by kernel_rfl) (by kernel_rfl : _ = some 133) (fun _ _ _ h => h) fun a wr S => ?_
      have X := undrew S.ext
      obtain ⟨v67, e67, h67⟩ := S.got 67 (by kernel_rfl)
      exact wp_eqI ((ev_of (e67 135 (by kernel_rfl))).trans h67) rfl (Or.inl rfl) (done (by kernel_rfl) rbu_refl (congrArg Value.bool (by decide)))
    · refine rs_plain rfl rfl fun a wr S => ?_
      have X := undrew S.ext
      obtain ⟨v65, e65, h65⟩ := S.got 65 (by kernel_rfl)
      obtain ⟨v68, e68, h68⟩ := S.got 68 (by kernel_rfl)
      exact wp_pickT ((ev_of (e65 133 (by kernel_rfl))).trans h65) ((ev_of (e68 136 (by kernel_rfl))).trans h68) (done (by kernel_rfl) rbu_refl rfl)
    · refine rs_plain rfl rfl fun a wr S => ?_
      have X := undrew S.ext
      obtain ⟨v69, e69, h69⟩ := S.got 69 (by kernel_rfl)
      exact wp_mv ((ev_of (e69 137 (by kernel_rfl))).trans h69) (done (by kernel_rfl) rbu_refl rfl)
    · refine rs_yes rfl rfl (by kernel_rfl) (by kernel_rfl : _ = some 138) (fun _ _ _ h => h) fun a wr S => ?_
      have X := undrew S.ext
      exact wp_qload (ev_of ((S.old 18 (by kernel_rfl)).trans rfl)) (P18.below X) (done (by kernel_rfl) rbu_refl rfl)
    · refine rs_yes rfl rfl (by kernel_rfl) (by kernel_rfl : _ = some 138) (fun _ _ _ h => h) fun a wr S => ?_
      have X := undrew S.ext
      obtain ⟨v71, e71, h71⟩ := S.got 71 (by kernel_rfl)
      exact st_call cf_rat_Right (args1 ((ev_of (e71 139 (by kernel_rfl))).trans h71)) (by kernel_rfl) rb (cQRight (show IsQt _ _ _ _ from (q18.below X)) (by omega)) (fun _ _ _ h => h)
    · refine rs_plain rfl rfl fun a wr S => ?_
      have X := undrew S.ext
      obtain ⟨v70, e70, h70⟩ := S.got 70 (by kernel_rfl)
      obtain ⟨v72, e72, h72⟩ := S.got 72 (by kernel_rfl)
      exact wp_pickT ((ev_of (e70 138 (by kernel_rfl))).trans h70) ((ev_of (e72 140 (by kernel_rfl))).trans h72) (done (by kernel_rfl) rbu_refl rfl)
    · refine rs_plain rfl rfl fun a wr S => ?_
      have X := undrew S.ext
      obtain ⟨v73, e73, h73⟩ := S.got 73 (by kernel_rfl)
      exact wp_mv ((ev_of (e73 141 (by kernel_rfl))).trans h73) (done (by kernel_rfl) rbu_refl rfl)
    · refine rs_yes rfl rfl (by kernel_rfl) (by kernel_rfl : _ = some 142) (fun _ _ _ h => h) fun a wr S => ?_
      have X := undrew S.ext
      exact wp_build0Q (done (by kernel_rfl) rbu_refl rfl)
    · refine rs_yes rfl rfl (by kernel_rfl) (by kernel_rfl : _ = some 142) (fun _ _ _ h => h) fun a wr S => ?_
      have X := undrew S.ext
      obtain ⟨v75, e75, h75⟩ := S.got 75 (by kernel_rfl)
      exact st_call cf_rat_Right (args1 ((ev_of (e75 143 (by kernel_rfl))).trans h75)) (by kernel_rfl) rb (cQRightI ((isR_nil w22).below X) (by omega) (r := false) ⟨fun h => (by cases h), fun h => absurd h (by unfold RightQ; decide +kernel)⟩) (fun _ _ _ h => h)
    · refine rs_yes rfl rfl (by kernel_rfl) (by kernel_rfl : _ = some 142) (fun _ _ _ h => h) fun a wr S => ?_
      have X := undrew S.ext
      obtain ⟨v76, e76, h76⟩ := S.got 76 (by kernel_rfl)
      exact wp_not ((ev_of (e76 144 (by kernel_rfl))).trans h76) (done (by kernel_rfl) rbu_refl rfl)
    · refine rs_plain rfl rfl fun a wr S => ?_
      have X := undrew S.ext
      obtain ⟨v74, e74, h74⟩ := S.got 74 (by kernel_rfl)
      obtain ⟨v77, e77, h77⟩ := S.got 77 (by kernel_rfl)
      exact wp_pickT ((ev_of (e74 142 (by kernel_rfl))).trans h74) ((ev_of (e77 145 (by kernel_rfl))).trans h77) (done (by kernel_rfl) rbu_refl rfl)
    · refine rs_plain rfl rfl fun a wr S => ?_
      have X := undrew S.ext
      obtain ⟨v78, e78, h78⟩ := S.got 78 (by kernel_rfl)
      exact wp_mv ((ev_of (e78 146 (by kernel_rfl))).trans h78) (done (by kernel_rfl) rbu_refl rfl)
    · refine rs_yes rfl rfl (by kernel_rfl) (by kernel_rfl : _ = some 147) (fun _ _ _ h => h) fun a wr S => ?_
      have X := undrew S.ext
      exact wp_build0Q (done (by kernel_rfl) rbu_refl rfl)
    · refine rs_yes rfl rfl (by kernel_rfl) (by kernel_rfl : _ = some 147) (fun _ _ _ h => h) fun a wr S => ?_
      have X := undrew S.ext
      obtain ⟨v80, e80, h80⟩ := S.got 80 (by kernel_rfl)
      exact st_call cf_rat_Whole (args1 ((ev_of (e80 148 (by kernel_rfl))).trans h80)) (by kernel_rfl) rb ((cQWhole (show IsQm _ _ _ _ from ((isQm_nil w22).below X)) (by omega) (by omega)).mono (ansB (by decide +kernel))) (fun _ _ _ h => h)
    · refine rs_plain rfl rfl fun a wr S => ?_
      have X := undrew S.ext
      obtain ⟨v79, e79, h79⟩ := S.got 79 (by kernel_rfl)
      obtain ⟨v81, e81, h81⟩ := S.got 81 (by kernel_rfl)
      exact wp_pickT ((ev_of (e79 147 (by kernel_rfl))).trans h79) ((ev_of (e81 149 (by kernel_rfl))).trans h81) (done (by kernel_rfl) rbu_refl rfl)
    · refine rs_plain rfl rfl fun a wr S => ?_
      have X := undrew S.ext
      obtain ⟨v82, e82, h82⟩ := S.got 82 (by kernel_rfl)
      exact wp_mv ((ev_of (e82 150 (by kernel_rfl))).trans h82) (done (by kernel_rfl) rbu_refl rfl)
    · refine rs_yes rfl rfl (by kernel_rfl) (by kernel_rfl : _ = some 151) (fun _ _ _ h => h) fun a wr S => ?_
      have X := undrew S.ext
      exact wp_qload (ev_of ((S.old 20 (by kernel_rfl)).trans rfl)) (P20.below X) (done (by kernel_rfl) rbu_refl rfl)
    · refine rs_yes rfl rfl (by kernel_rfl) (by kernel_rfl : _ = some 151) (fun _ _ _ h => h) fun a wr S => ?_
      have X := undrew S.ext
      obtain ⟨v84, e84, h84⟩ := S.got 84 (by kernel_rfl)
      exact st_call cf_rat_Text (args1 ((ev_of (e84 152 (by kernel_rfl))).trans h84)) (by kernel_rfl) rb (cQText (show IsQm _ _ _ _ from (q20.below X).m) (by omega) (by omega)) (fun _ _ _ h => h)
    · refine rs_yes rfl rfl (by kernel_rfl) (by kernel_rfl : _ = some 151) (fun _ _ _ h => h) fun a wr S => ?_
      have X := undrew S.ext
      obtain ⟨v85, e85, h85⟩ := S.got 85 (by kernel_rfl)
      obtain ⟨sx, hsx, bsx⟩ := (show IsS _ _ from h85)
      exact wp_eqS ((ev_of (e85 153 (by kernel_rfl))).trans hsx) rfl (done (by kernel_rfl) rbu_refl (congrArg Value.bool (eqB bsx (by rfl) k_least)))
    · refine rs_plain rfl rfl fun a wr S => ?_
      have X := undrew S.ext
      obtain ⟨v83, e83, h83⟩ := S.got 83 (by kernel_rfl)
      obtain ⟨v86, e86, h86⟩ := S.got 86 (by kernel_rfl)
      exact wp_pickT ((ev_of (e83 151 (by kernel_rfl))).trans h83) ((ev_of (e86 154 (by kernel_rfl))).trans h86) (done (by kernel_rfl) rbu_refl rfl)
    · refine rs_plain rfl rfl fun a wr S => ?_
      have X := undrew S.ext
      obtain ⟨v87, e87, h87⟩ := S.got 87 (by kernel_rfl)
      exact wp_mv ((ev_of (e87 155 (by kernel_rfl))).trans h87) (done (by kernel_rfl) rbu_refl rfl)
    · refine rs_yes rfl rfl (by kernel_rfl) (by kernel_rfl : _ = some 156) (fun _ _ _ h => h) fun a wr S => ?_
      have X := undrew S.ext
      exact wp_qload (ev_of ((S.old 20 (by kernel_rfl)).trans rfl)) (P20.below X) (done (by kernel_rfl) rbu_refl rfl)
    · refine rs_yes rfl rfl (by kernel_rfl) (by kernel_rfl : _ = some 156) (fun _ _ _ h => h) fun a wr S => ?_
      have X := undrew S.ext
      exact st_call cf_rat_From (args1 rfl) (by kernel_rfl) rb ((cQFrom 1 (by omega) (by omega)).mono (ansQ_base X.size)) (fun _ _ _ h => h)
    · refine rs_yes rfl rfl (by kernel_rfl) (by kernel_rfl : _ = some 156) (fun _ _ _ h => h) fun a wr S => ?_
      have X := undrew S.ext
      obtain ⟨v89, e89, h89⟩ := S.got 89 (by kernel_rfl)
      obtain ⟨v90, e90, h90⟩ := S.got 90 (by kernel_rfl)
      exact st_call cf_rat_Sub (args2 ((ev_of (e89 157 (by kernel_rfl))).trans h89) (ev_of (e90 158 (by kernel_rfl)))) (by kernel_rfl) rb ((cQSub (show IsQm _ _ _ _ from (q20.below X).m) (show IsQm _ _ _ _ from h90.m) (by omega) (by omega) (by omega) (by omega)).mono (ansQ_base X.size)) (fun _ _ _ h => h)
    · refine rs_yes rfl rfl (by kernel_rfl) (by kernel_rfl : _ = some 156) (fun _ _ _ h => h) fun a wr S => ?_
      have X := undrew S.ext
      obtain ⟨v91, e91, h91⟩ := S.got 91 (by kernel_rfl)
      exact st_call cf_rat_Text (args1 (ev_of (e91 159 (by kernel_rfl)))) (by kernel_rfl) rb (cQText (show IsQm _ _ _ _ from h91.m) (by omega) (by omega)) (fun _ _ _ h => h)
    · refine rs_yes rfl rfl (by kernel_rfl) (by kernel_rfl : _ = some 156) (fun _ _ _ h => h) fun a wr S => ?_
      have X := undrew S.ext
      obtain ⟨v92, e92, h92⟩ := S.got 92 (by kernel_rfl)
      obtain ⟨sx, hsx, bsx⟩ := (show IsS _ _ from h92)
      exact wp_eqS ((ev_of (e92 160 (by kernel_rfl))).trans hsx) rfl (done (by kernel_rfl) rbu_refl (congrArg Value.bool (eqB bsx (by rfl) k_below)))
    · refine rs_plain rfl rfl fun a wr S => ?_
      have X := undrew S.ext
      obtain ⟨v88, e88, h88⟩ := S.got 88 (by kernel_rfl)
      obtain ⟨v93, e93, h93⟩ := S.got 93 (by kernel_rfl)
      exact wp_pickT ((ev_of (e88 156 (by kernel_rfl))).trans h88) ((ev_of (e93 161 (by kernel_rfl))).trans h93) (done (by kernel_rfl) rbu_refl rfl)
    · refine rs_plain rfl rfl fun a wr S => ?_
      have X := undrew S.ext
      obtain ⟨v94, e94, h94⟩ := S.got 94 (by kernel_rfl)
      exact wp_as ((ev_of (e94 162 (by kernel_rfl))).trans h94) (done (by kernel_rfl) rbu_refl rfl)
  · intro fw23 w23 hR hv
    replace hR := undrew hR
    have f0 : fw23 0 = Value.bool true := (hvc (hv 0 (by omega))).elim fun _ h => h
    have f1 : fw23 1 = .bool true := (hvc (hv 1 (by omega))).elim fun _ h => h
    have f2 : fw23 2 = .bool true := (hvc (hv 2 (by omega))).elim fun _ h => h
    have f3 : fw23 3 = .bool true := (hvc (hv 3 (by omega))).elim fun _ h => h
    have f4 : fw23 4 = .int .i64 3 := (hvc (hv 4 (by omega))).elim fun _ h => h
    have f5 : fw23 5 = .bool true := (hvc (hv 5 (by omega))).elim fun _ h => h
    have f6 : fw23 6 = .bool true := (hvc (hv 6 (by omega))).elim fun _ h => h
    have f7 : fw23 7 = .bool true := (hvc (hv 7 (by omega))).elim fun _ h => h
    have f8 : fw23 8 = .int .i64 3 := (hvc (hv 8 (by omega))).elim fun _ h => h
    have f9 : fw23 9 = .bool true := (hvc (hv 9 (by omega))).elim fun _ h => h
    have f10 : fw23 10 = .bool true := (hvc (hv 10 (by omega))).elim fun _ h => h
    have f11 : fw23 11 = .bool true := (hvc (hv 11 (by omega))).elim fun _ h => h
    have f12 : fw23 12 = .agg #[.bool true, .slice (some ⟨w6.heap.size, 0, none⟩) 1 1, .slice (some ⟨w6.heap.size + 1, 0, none⟩) 2 2] := (hvc (hv 12 (by omega))).elim fun _ h => h
    have f13 : fw23 13 = .bool false := (hvc (hv 13 (by omega))).elim fun _ h => h
    have f14 : fw23 14 = .bool true := (hvc (hv 14 (by omega))).elim fun _ h => h
    have f15 : fw23 15 = .bool true := (hvc (hv 15 (by omega))).elim fun _ h => h
    have f16 : fw23 16 = .bool true := (hvc (hv 16 (by omega))).elim fun _ h => h
    have f17 : fw23 17 = .agg #[.bool true, .slice (some ⟨w6.heap.size, 0, none⟩) 1 1, .slice (some ⟨w6.heap.size + 1, 0, none⟩) 2 2] := (hvc (hv 17 (by omega))).elim fun _ h => h
    have f18 : fw23 18 = .int .i64 0 := (hvc (hv 18 (by omega))).elim fun _ h => h
    have f19 : fw23 19 = .bool true := (hvc (hv 19 (by omega))).elim fun _ h => h
    have f20 : fw23 20 = .bool true := (hvc (hv 20 (by omega))).elim fun _ h => h
    have f21 : fw23 21 = .bool true := (hvc (hv 21 (by omega))).elim fun _ h => h
    have f22 : fw23 22 = .agg #[.bool true, .slice (some ⟨w6.heap.size, 0, none⟩) 1 1, .slice (some ⟨w6.heap.size + 1, 0, none⟩) 2 2] := (hvc (hv 22 (by omega))).elim fun _ h => h
    have f24 : fw23 24 = .bool true := (hvc (hv 24 (by omega))).elim fun _ h => h
    have f25 : fw23 25 = .bool true := (hvc (hv 25 (by omega))).elim fun _ h => h
    have f26 : fw23 26 = .bool true := (hvc (hv 26 (by omega))).elim fun _ h => h
    have f27 : fw23 27 = .agg #[.bool false, .slice (some ⟨w7.heap.size, 0, none⟩) 2 2, .slice (some ⟨w7.heap.size + 1, 0, none⟩) 2 2] := (hvc (hv 27 (by omega))).elim fun _ h => h
    have f28 : fw23 28 = .bool false := (hvc (hv 28 (by omega))).elim fun _ h => h
    have f29 : fw23 29 = .bool true := (hvc (hv 29 (by omega))).elim fun _ h => h
    have f30 : fw23 30 = .bool true := (hvc (hv 30 (by omega))).elim fun _ h => h
    have f31 : fw23 31 = .bool true := (hvc (hv 31 (by omega))).elim fun _ h => h
    have f32 : fw23 32 = .agg #[.bool false, .slice (some ⟨w7.heap.size, 0, none⟩) 2 2, .slice (some ⟨w7.heap.size + 1, 0, none⟩) 2 2] := (hvc (hv 32 (by omega))).elim fun _ h => h
    have f34 : fw23 34 = .bool true := (hvc (hv 34 (by omega))).elim fun _ h => h
    have f35 : fw23 35 = .bool true := (hvc (hv 35 (by omega))).elim fun _ h => h
    have f36 : fw23 36 = .bool true := (hvc (hv 36 (by omega))).elim fun _ h => h
    have f37 : fw23 37 = .agg #[.bool false, .slice (some ⟨w7.heap.size, 0, none⟩) 2 2, .slice (some ⟨w7.heap.size + 1, 0, none⟩) 2 2] := (hvc (hv 37 (by omega))).elim fun _ h => h
    have f40 : fw23 40 = .bool true := (hvc (hv 40 (by omega))).elim fun _ h => h
    have f41 : fw23 41 = .bool true := (hvc (hv 41 (by omega))).elim fun _ h => h
    have f42 : fw23 42 = .bool true := (hvc (hv 42 (by omega))).elim fun _ h => h
    have f43 : fw23 43 = .bool false := (hvc (hv 43 (by omega))).elim fun _ h => h
    have f44 : fw23 44 = .bool true := (hvc (hv 44 (by omega))).elim fun _ h => h
    have f45 : fw23 45 = .bool true := (hvc (hv 45 (by omega))).elim fun _ h => h
    have f46 : fw23 46 = .bool true := (hvc (hv 46 (by omega))).elim fun _ h => h
    have f47 : fw23 47 = .bool false := (hvc (hv 47 (by omega))).elim fun _ h => h
    have f48 : fw23 48 = .bool true := (hvc (hv 48 (by omega))).elim fun _ h => h
    have f49 : fw23 49 = .bool true := (hvc (hv 49 (by omega))).elim fun _ h => h
    have f50 : fw23 50 = .bool true := (hvc (hv 50 (by omega))).elim fun _ h => h
    have f51 : fw23 51 = .bool false := (hvc (hv 51 (by omega))).elim fun _ h => h
    have f52 : fw23 52 = .bool true := (hvc (hv 52 (by omega))).elim fun _ h => h
    have f53 : fw23 53 = .bool true := (hvc (hv 53 (by omega))).elim fun _ h => h
    have f54 : fw23 54 = .bool true := (hvc (hv 54 (by omega))).elim fun _ h => h
    have f55 : fw23 55 = .bool false := (hvc (hv 55 (by omega))).elim fun _ h => h
    have f56 : fw23 56 = .bool true := (hvc (hv 56 (by omega))).elim fun _ h => h
    have f57 : fw23 57 = .bool true := (hvc (hv 57 (by omega))).elim fun _ h => h
    have f58 : fw23 58 = .bool true := (hvc (hv 58 (by omega))).elim fun _ h => h
    have f59 : fw23 59 = .bool false := (hvc (hv 59 (by omega))).elim fun _ h => h
    have f60 : fw23 60 = .bool true := (hvc (hv 60 (by omega))).elim fun _ h => h
    have f61 : fw23 61 = .bool true := (hvc (hv 61 (by omega))).elim fun _ h => h
    have f62 : fw23 62 = .bool true := (hvc (hv 62 (by omega))).elim fun _ h => h
    have f63 : fw23 63 = .bool true := (hvc (hv 63 (by omega))).elim fun _ h => h
    have f64 : fw23 64 = .bool true := (hvc (hv 64 (by omega))).elim fun _ h => h
    have f65 : fw23 65 = .bool true := (hvc (hv 65 (by omega))).elim fun _ h => h
    have f66 : fw23 66 = .agg #[.bool b18, .slice A18 n18 c18, .slice B18 m18 d18] := (hvc (hv 66 (by omega))).elim fun _ h => h
    have f67 : fw23 67 = .int .i64 0 := (hvc (hv 67 (by omega))).elim fun _ h => h
    have f68 : fw23 68 = .bool true := (hvc (hv 68 (by omega))).elim fun _ h => h
    have f69 : fw23 69 = .bool true := (hvc (hv 69 (by omega))).elim fun _ h => h
    have f70 : fw23 70 = .bool true := (hvc (hv 70 (by omega))).elim fun _ h => h
    have f71 : fw23 71 = .agg #[.bool b18, .slice A18 n18 c18, .slice B18 m18 d18] := (hvc (hv 71 (by omega))).elim fun _ h => h
    have f72 : fw23 72 = .bool true := (hvc (hv 72 (by omega))).elim fun _ h => h
    have f73 : fw23 73 = .bool true := (hvc (hv 73 (by omega))).elim fun _ h => h
    have f74 : fw23 74 = .bool true := (hvc (hv 74 (by omega))).elim fun _ h => h
    have f75 : fw23 75 = .agg #[.bool false, .slice none 0 0, .slice none 0 0] := (hvc (hv 75 (by omega))).elim fun _ h => h
    have f76 : fw23 76 = .bool false := (hvc (hv 76 (by omega))).elim fun _ h => h
    have f77 : fw23 77 = .bool true := (hvc (hv 77 (by omega))).elim fun _ h => h
    have f78 : fw23 78 = .bool true := (hvc (hv 78 (by omega))).elim fun _ h => h
    have f79 : fw23 79 = .bool true := (hvc (hv 79 (by omega))).elim fun _ h => h
    have f80 : fw23 80 = .agg #[.bool false, .slice none 0 0, .slice none 0 0] := (hvc (hv 80 (by omega))).elim fun _ h => h
    have f81 : fw23 81 = .bool true := (hvc (hv 81 (by omega))).elim fun _ h => h
    have f82 : fw23 82 = .bool true := (hvc (hv 82 (by omega))).elim fun _ h => h
    have f83 : fw23 83 = .bool true := (hvc (hv 83 (by omega))).elim fun _ h => h
    have f84 : fw23 84 = .agg #[.bool b20, .slice A20 n20 c20, .slice B20 m20 d20] := (hvc (hv 84 (by omega))).elim fun _ h => h
    have f86 : fw23 86 = .bool true := (hvc (hv 86 (by omega))).elim fun _ h => h
    have f87 : fw23 87 = .bool true := (hvc (hv 87 (by omega))).elim fun _ h => h
    have f88 : fw23 88 = .bool true := (hvc (hv 88 (by omega))).elim fun _ h => h
    have f89 : fw23 89 = .agg #[.bool b20, .slice A20 n20 c20, .slice B20 m20 d20] := (hvc (hv 89 (by omega))).elim fun _ h => h
    have f93 : fw23 93 = .bool true := (hvc (hv 93 (by omega))).elim fun _ h => h
    have f94 : fw23 94 = .bool true := (hvc (hv 94 (by omega))).elim fun _ h => h
    have f95 : fw23 95 = .bool true := (hvc (hv 95 (by omega))).elim fun _ h => h
    simp only [putFn, Act.put, List.setIfInBounds_toArray, List.set_cons_zero, List.set_cons_succ, f0, f1, f2, f3, f4, f5, f6, f7, f8, f9, f10, f11, f12, f13, f14, f15, f16, f17, f18, f19, f20, f21, f22, f24, f25, f26, f27, f28, f29, f30, f31, f32, f34, f35, f36, f37, f40, f41, f42, f43, f44, f45, f46, f47, f48, f49, f50, f51, f52, f53, f54, f55, f56, f57, f58, f59, f60, f61, f62, f63, f64, f65, f66, f67, f68, f69, f70, f71, f72, f73, f74, f75, f76, f77, f78, f79, f80, f81, f82, f83, f84, f86, f87, f88, f89, f93, f94, f95]
    replace R6 := R6.below hR
    replace P6 := P6.below hR
    replace Q6 := Q6.below hR
    replace R7 := R7.below hR
    replace P7 := P7.below hR
    replace Q7 := Q7.below hR
    replace q18 := q18.below hR
    replace P18 := P18.below hR
    replace q20 := q20.below hR
    replace P20 := P20.below hR
    replace BB := bl_trans BB hR
    clear hR hv
    go_wp2_with fail
    go_ret
    exact ⟨rfl, BB⟩

end Go.Proofs.YtbhgbilhoonopaaGreat
