/- litmuslaw01.NatKnown answers true at every input, and changes nothing that was there: its walk. -/
import Derived.Test.YtbcceopgmkmbfaaLDiv
namespace Go.Proofs.Ytbcceopgmkmbfaa
open Go.RowKit
set_option linter.unusedVariables false

theorem txt_known {l : List Nat} {v : Nat} (h : M.Digits l) (e : M.dec 0 l = v) : M.txt v = l := by rw [← e]; exact txt_dec h

section
variable {A : Option Addr} {n c x k : Nat}
theorem smallV_yes {w : World} (h : Nm w A n c x k) (hk : k ≤ 1000) (hx : x < 18446744073709551616) : Calls Try.prog 37 #[.slice A n c] w fun e w' => e = .returned (.tuple #[.int .u64 (x : Nat), .bool true]) ∧ Below w.heap.size w w' := by
  have hl := h.le
  obtain ⟨xs, h1, rfl⟩ := h.row
  refine (small_yes _ _ _ _ _ h1 (by omega) hx).mono ?_
  rintro e w' ⟨rfl, rfl⟩
  exact ⟨rfl, Below.refl _ _⟩
theorem smallV_no {w : World} (h : Nm w A n c x k) (hk : k ≤ 1000) (hx : ¬ x < 18446744073709551616) : Calls Try.prog 37 #[.slice A n c] w fun e w' => e = .returned (.tuple #[.int .u64 0, .bool false]) ∧ Below w.heap.size w w' := by
  have hl := h.le
  obtain ⟨xs, h1, rfl⟩ := h.row
  refine (small_no _ _ _ _ _ h1 (by omega) hx).mono ?_
  rintro e w' ⟨rfl, rfl⟩
  exact ⟨rfl, Below.refl _ _⟩
end

theorem litV1 (w : World) (x0 : Nat) (i0 : Int) (v : Nat) (h0 : x0 < M.R) (hv : x0 = v) (e0 : i0 = (x0 : Int)) : Nm (w.alloc (.cells #[.int .u32 i0] 40)) (some ⟨w.heap.size, 0, none⟩) 1 1 v 1 :=
  ⟨⟨_, lit1 w x0 i0 h0 e0, by rw [← hv]; simp [M.val]⟩, Nat.le_refl _⟩
theorem litV1s {o : Obj} (w : World) (x0 : Nat) (i0 : Int) (v : Nat) (h0 : x0 < M.R) (hv : x0 = v) (e0 : i0 = (x0 : Int)) : Nm ((w.alloc o).alloc (.cells #[.int .u32 i0] 40)) (some ⟨w.heap.size + 1, 0, none⟩) 1 1 v 1 := by
  have := litV1 (w.alloc o) x0 i0 v h0 hv e0
  rw [World.size_alloc] at this
  exact this
theorem litT1k (w : World) (x0 : Nat) (i0 : Int) (v : Nat) (h0 : x0 < M.R) (hv : x0 = v) (hz : x0 ≠ 0) (e0 : i0 = (x0 : Int)) : Tm (w.alloc (.cells #[.int .u32 i0] 40)) (some ⟨w.heap.size, 0, none⟩) 1 1 v 1 := by
  refine ⟨?_, Nat.le_refl _⟩
  rw [← hv, lims_lit1 x0 h0 hz]
  exact lit1 w x0 i0 h0 e0
theorem litV2 (w : World) (x0 x1 : Nat) (i0 i1 : Int) (v : Nat) (h0 : x0 < M.R) (h1 : x1 < M.R) (hv : x0 + M.R * (x1) = v) (e0 : i0 = (x0 : Int)) (e1 : i1 = (x1 : Int)) : Nm (w.alloc (.cells #[.int .u32 i0, .int .u32 i1] 40)) (some ⟨w.heap.size, 0, none⟩) 2 2 v 2 :=
  ⟨⟨_, lit2 w x0 x1 i0 i1 h0 h1 e0 e1, by rw [← hv]; simp [M.val]⟩, Nat.le_refl _⟩
theorem litV2s {o : Obj} (w : World) (x0 x1 : Nat) (i0 i1 : Int) (v : Nat) (h0 : x0 < M.R) (h1 : x1 < M.R) (hv : x0 + M.R * (x1) = v) (e0 : i0 = (x0 : Int)) (e1 : i1 = (x1 : Int)) : Nm ((w.alloc o).alloc (.cells #[.int .u32 i0, .int .u32 i1] 40)) (some ⟨w.heap.size + 1, 0, none⟩) 2 2 v 2 := by
  have := litV2 (w.alloc o) x0 x1 i0 i1 v h0 h1 hv e0 e1
  rw [World.size_alloc] at this
  exact this
theorem litT2k (w : World) (x0 x1 : Nat) (i0 i1 : Int) (v : Nat) (h0 : x0 < M.R) (h1 : x1 < M.R) (hv : x0 + M.R * (x1) = v) (hz : x1 ≠ 0) (e0 : i0 = (x0 : Int)) (e1 : i1 = (x1 : Int)) : Tm (w.alloc (.cells #[.int .u32 i0, .int .u32 i1] 40)) (some ⟨w.heap.size, 0, none⟩) 2 2 v 2 := by
  refine ⟨?_, Nat.le_refl _⟩
  rw [show M.lims v = [x0, x1] from lims_lit2 x0 x1 v h0 h1 hz (by rw [← hv])]
  exact lit2 w x0 x1 i0 i1 h0 h1 e0 e1
theorem litV3 (w : World) (x0 x1 x2 : Nat) (i0 i1 i2 : Int) (v : Nat) (h0 : x0 < M.R) (h1 : x1 < M.R) (h2 : x2 < M.R) (hv : x0 + M.R * (x1 + M.R * (x2)) = v) (e0 : i0 = (x0 : Int)) (e1 : i1 = (x1 : Int)) (e2 : i2 = (x2 : Int)) : Nm (w.alloc (.cells #[.int .u32 i0, .int .u32 i1, .int .u32 i2] 40)) (some ⟨w.heap.size, 0, none⟩) 3 3 v 3 :=
  ⟨⟨_, lit3 w x0 x1 x2 i0 i1 i2 h0 h1 h2 e0 e1 e2, by rw [← hv]; simp [M.val]⟩, Nat.le_refl _⟩
theorem litV3s {o : Obj} (w : World) (x0 x1 x2 : Nat) (i0 i1 i2 : Int) (v : Nat) (h0 : x0 < M.R) (h1 : x1 < M.R) (h2 : x2 < M.R) (hv : x0 + M.R * (x1 + M.R * (x2)) = v) (e0 : i0 = (x0 : Int)) (e1 : i1 = (x1 : Int)) (e2 : i2 = (x2 : Int)) : Nm ((w.alloc o).alloc (.cells #[.int .u32 i0, .int .u32 i1, .int .u32 i2] 40)) (some ⟨w.heap.size + 1, 0, none⟩) 3 3 v 3 := by
  have := litV3 (w.alloc o) x0 x1 x2 i0 i1 i2 v h0 h1 h2 hv e0 e1 e2
  rw [World.size_alloc] at this
  exact this
theorem litT3k (w : World) (x0 x1 x2 : Nat) (i0 i1 i2 : Int) (v : Nat) (h0 : x0 < M.R) (h1 : x1 < M.R) (h2 : x2 < M.R) (hv : x0 + M.R * (x1 + M.R * (x2)) = v) (hz : x2 ≠ 0) (e0 : i0 = (x0 : Int)) (e1 : i1 = (x1 : Int)) (e2 : i2 = (x2 : Int)) : Tm (w.alloc (.cells #[.int .u32 i0, .int .u32 i1, .int .u32 i2] 40)) (some ⟨w.heap.size, 0, none⟩) 3 3 v 3 := by
  refine ⟨?_, Nat.le_refl _⟩
  rw [show M.lims v = [x0, x1, x2] from lims_lit3 x0 x1 x2 v h0 h1 h2 hz (by rw [← hv])]
  exact lit3 w x0 x1 x2 i0 i1 i2 h0 h1 h2 e0 e1 e2

set_option maxRecDepth 100000 in
set_option maxHeartbeats 4000000 in
theorem natKnown_walk (w : World) : Calls Try.prog 13 #[] w fun e w' => e = .returned (.bool true) ∧ Below w.heap.size w w' := by
  have BB : Below w.heap.size w w := Below.refl _ _
  go_enter Try.func13, Try.ntmps13
  go_wp2_with fail
  refine (divN ((litV3 _ 0 0 2147483648 0 0 2147483648 39614081257132168796771975168 (by decide) (by decide) (by decide) (by decide) rfl rfl rfl).alloc _) (litV2s _ 4294967295 2147483648 4294967295 2147483648 9223372041149743103 (by decide) (by decide) (by decide) rfl rfl) (by omega) (by omega) (by decide)).mono ?_
  rw [show 39614081257132168796771975168 / 9223372041149743103 = 4294967294 by decide, show 39614081257132168796771975168 % 9223372041149743103 = 12884901886 by decide]
  rintro e w1 ⟨A1, n1, c1, B1, m1, d1, rfl, Q, R, hb1⟩
  replace hb1 := bl_trans (bl_trans (bl_alloc _ _) (bl_alloc _ _)) hb1
  replace BB := bl_trans BB hb1
  clear hb1
  go_wp2_with fail
  refine (sameN_yes (Q.alloc _) (litT1k _ 4294967294 4294967294 4294967294 (by decide) (by decide) (by decide) rfl) (by omega) (by omega) rfl).mono ?_
  rintro e w2 ⟨rfl, hb2⟩
  replace hb2 := bl_trans (bl_alloc _ _) hb2
  replace Q := Q.below hb2
  replace R := R.below hb2
  replace BB := bl_trans BB hb2
  clear hb2
  go_wp2_with fail
  refine (sameN_yes (R.alloc _) (litT2k _ 4294967294 2 4294967294 2 12884901886 (by decide) (by decide) (by decide) (by decide) rfl rfl) (by omega) (by omega) rfl).mono ?_
  rintro e w3 ⟨rfl, hb3⟩
  replace hb3 := bl_trans (bl_alloc _ _) hb3
  replace Q := Q.below hb3
  replace R := R.below hb3
  replace BB := bl_trans BB hb3
  clear hb3
  clear Q R
  go_wp2_with fail
  refine (divN ((litV3 _ 0 4294967294 2147483648 0 4294967294 2147483648 39614081275578912861891592192 (by decide) (by decide) (by decide) (by decide) rfl rfl rfl).alloc _) (litV2s _ 65535 2147483648 65535 2147483648 9223372036854841343 (by decide) (by decide) (by decide) rfl rfl) (by omega) (by omega) (by decide)).mono ?_
  rw [show 39614081275578912861891592192 / 9223372036854841343 = 4294967297 by decide, show 39614081275578912861891592192 % 9223372036854841343 = 9223090557583032321 by decide]
  rintro e w4 ⟨A4, n4, c4, B4, m4, d4, rfl, Q, R, hb4⟩
  replace hb4 := bl_trans (bl_trans (bl_alloc _ _) (bl_alloc _ _)) hb4
  replace BB := bl_trans BB hb4
  clear hb4
  go_wp2_with fail
  refine (mulN (Q.nm.alloc _) (litV2 _ 65535 2147483648 65535 2147483648 9223372036854841343 (by decide) (by decide) (by decide) rfl rfl) (by omega) (by omega) (by omega)).mono ?_
  rw [show 4294967297 * 9223372036854841343 = 39614081266355822304308559871 by decide]
  rintro e w5 ⟨A5, n5, c5, rfl, P, hb5⟩
  replace hb5 := bl_trans (bl_alloc _ _) hb5
  replace Q := Q.below hb5
  replace R := R.below hb5
  replace BB := bl_trans BB hb5
  clear hb5
  go_wp2_with fail
  refine (addN P.nm R.nm (by omega) (by omega)).mono ?_
  rw [show 39614081266355822304308559871 + 9223090557583032321 = 39614081275578912861891592192 by decide]
  rintro e w6 ⟨A6, n6, c6, rfl, S, hb6⟩
  replace Q := Q.below hb6
  replace R := R.below hb6
  replace P := P.below hb6
  replace BB := bl_trans BB hb6
  clear hb6
  go_wp2_with fail
  refine (sameN_yes (S.alloc _) (litT3k _ 0 4294967294 2147483648 0 4294967294 2147483648 39614081275578912861891592192 (by decide) (by decide) (by decide) (by decide) (by decide) rfl rfl rfl) (by omega) (by omega) rfl).mono ?_
  rintro e w7 ⟨rfl, hb7⟩
  replace hb7 := bl_trans (bl_alloc _ _) hb7
  replace Q := Q.below hb7
  replace R := R.below hb7
  replace P := P.below hb7
  replace S := S.below hb7
  replace BB := bl_trans BB hb7
  clear hb7
  go_wp2_with fail
  refine (cmpN (R.nm.alloc _) (litV2 _ 65535 2147483648 65535 2147483648 9223372036854841343 (by decide) (by decide) (by decide) rfl rfl) (by omega) (by omega)).mono ?_
  rw [cmpV_lt (show 9223090557583032321 < 9223372036854841343 by decide)]
  rintro e w8 ⟨rfl, hb8⟩
  replace hb8 := bl_trans (bl_alloc _ _) hb8
  replace Q := Q.below hb8
  replace R := R.below hb8
  replace P := P.below hb8
  replace S := S.below hb8
  replace BB := bl_trans BB hb8
  clear hb8
  clear Q R P S
  go_wp2_with fail
  refine (divN_zero ((litV1 _ 5 5 5 (by decide) (by decide) rfl).alloc _) (litV2s _ 0 0 0 0 0 (by decide) (by decide) (by decide) rfl rfl) (by omega) (by omega) rfl).mono ?_
  rintro e w9 ⟨A9, n9, c9, B9, m9, d9, rfl, Q, R, hb9⟩
  replace hb9 := bl_trans (bl_trans (bl_alloc _ _) (bl_alloc _ _)) hb9
  replace BB := bl_trans BB hb9
  clear hb9
  clear Q R
  go_wp2_with fail
  refine (subN_no ((litV2 _ 4 1 4 1 4294967300 (by decide) (by decide) (by decide) rfl rfl).alloc _) (litV2s _ 5 1 5 1 4294967301 (by decide) (by decide) (by decide) rfl rfl) (by omega) (by omega) (by decide)).mono ?_
  rintro e w10 ⟨A10, n10, c10, rfl, S, hb10⟩
  replace hb10 := bl_trans (bl_trans (bl_alloc _ _) (bl_alloc _ _)) hb10
  replace BB := bl_trans BB hb10
  clear hb10
  clear S
  go_wp2_with fail
  refine (subN_yes ((litV3 _ 0 0 1 0 0 1 18446744073709551616 (by decide) (by decide) (by decide) (by decide) rfl rfl rfl).alloc _) (litV1s _ 1 1 1 (by decide) (by decide) rfl) (by omega) (by omega) (by decide)).mono ?_
  rw [show 18446744073709551616 - 1 = 18446744073709551615 by decide]
  rintro e w11 ⟨A11, n11, c11, rfl, S, hb11⟩
  replace hb11 := bl_trans (bl_trans (bl_alloc _ _) (bl_alloc _ _)) hb11
  replace BB := bl_trans BB hb11
  clear hb11
  go_wp2_with fail
  refine (smallV_yes (litV3 _ 4294967295 4294967295 0 4294967295 4294967295 0 18446744073709551615 (by decide) (by decide) (by decide) (by decide) rfl rfl rfl) (by omega) (by decide)).mono ?_
  rintro e w12 ⟨rfl, hb12⟩
  replace hb12 := bl_trans (bl_alloc _ _) hb12
  replace S := S.below hb12
  replace BB := bl_trans BB hb12
  clear hb12
  go_wp2_with fail
  refine (smallV_no (litV3 _ 0 0 1 0 0 1 18446744073709551616 (by decide) (by decide) (by decide) (by decide) rfl rfl rfl) (by omega) (by decide)).mono ?_
  rintro e w13 ⟨rfl, hb13⟩
  replace hb13 := bl_trans (bl_alloc _ _) hb13
  replace S := S.below hb13
  replace BB := bl_trans BB hb13
  clear hb13
  go_wp2_with fail
  refine (parse_no _ _ (by decide) (by decide)).mono ?_
  rintro e w14 ⟨A14, c14, rfl, _, hb14⟩
  replace S := S.below hb14
  replace BB := bl_trans BB hb14
  clear hb14
  go_wp2_with fail
  refine (parse_no _ _ (by decide) (by decide)).mono ?_
  rintro e w15 ⟨A15, c15, rfl, _, hb15⟩
  replace S := S.below hb15
  replace BB := bl_trans BB hb15
  clear hb15
  go_wp2_with fail
  refine (parse_no _ _ (by decide) (by decide)).mono ?_
  rintro e w16 ⟨A16, c16, rfl, _, hb16⟩
  replace S := S.below hb16
  replace BB := bl_trans BB hb16
  clear hb16
  go_wp2_with fail
  refine (parse_yes _ _ (by decide) (by decide)).mono ?_
  rw [show M.dec 0 (M.bytes ⟨#[48]⟩) = 0 by decide, M.lims_zero]
  rintro e w17 ⟨A17, c17, rfl, _, hb17⟩
  replace S := S.below hb17
  replace BB := bl_trans BB hb17
  clear hb17
  go_wp2_with fail
  refine (works_any _).mono ?_
  rintro e w18 ⟨rfl, hb18⟩
  replace S := S.below hb18
  replace BB := bl_trans BB hb18
  clear hb18
  go_wp2_with fail
  refine (sameN_yes (S.alloc _) (litT2k _ 4294967295 4294967295 4294967295 4294967295 18446744073709551615 (by decide) (by decide) (by decide) (by decide) rfl rfl) (by omega) (by omega) rfl).mono ?_
  rintro e w19 ⟨rfl, hb19⟩
  replace hb19 := bl_trans (bl_alloc _ _) hb19
  replace S := S.below hb19
  replace BB := bl_trans BB hb19
  clear hb19
  clear S
  go_wp2_with fail
  refine (textN (litV2 _ 1000000000 0 1000000000 0 1000000000 (by decide) (by decide) (by decide) rfl rfl) (by omega)).mono ?_
  rw [show M.txt 1000000000 = [49, 48, 48, 48, 48, 48, 48, 48, 48, 48] from txt_known (by decide) (by decide)]
  rintro e w20 ⟨s20, rfl, hs20, hb20⟩
  replace hb20 := bl_trans (bl_alloc _ _) hb20
  replace BB := bl_trans BB hb20
  clear hb20
  obtain rfl : s20 = ⟨#[49, 48, 48, 48, 48, 48, 48, 48, 48, 48]⟩ := M.bytes_inj hs20
  clear hs20
  go_wp2_with fail
  refine (textN (litV2 _ 4294967295 4294967295 4294967295 4294967295 18446744073709551615 (by decide) (by decide) (by decide) rfl rfl) (by omega)).mono ?_
  rw [show M.txt 18446744073709551615 = [49, 56, 52, 52, 54, 55, 52, 52, 48, 55, 51, 55, 48, 57, 53, 53, 49, 54, 49, 53] from txt_known (by decide) (by decide)]
  rintro e w21 ⟨s21, rfl, hs21, hb21⟩
  replace hb21 := bl_trans (bl_alloc _ _) hb21
  replace BB := bl_trans BB hb21
  clear hb21
  obtain rfl : s21 = ⟨#[49, 56, 52, 52, 54, 55, 52, 52, 48, 55, 51, 55, 48, 57, 53, 53, 49, 54, 49, 53]⟩ := M.bytes_inj hs21
  clear hs21
  go_wp2_with fail
  refine (fromN 0 _ (by decide)).mono ?_
  rintro e w22 ⟨A22, n22, c22, rfl, P, hb22⟩
  replace BB := bl_trans BB hb22
  clear hb22
  obtain rfl : n22 = 0 := by have := P.len; rw [M.lims_zero] at this; exact this.symm
  clear P
  go_wp2_with fail
  refine (cmpN ((litV2 _ 1 0 1 0 1 (by decide) (by decide) (by decide) rfl rfl).alloc _) (litV1s _ 1 1 1 (by decide) (by decide) rfl) (by omega) (by omega)).mono ?_
  rw [cmpV_eq]
  rintro e w23 ⟨rfl, hb23⟩
  replace hb23 := bl_trans (bl_trans (bl_alloc _ _) (bl_alloc _ _)) hb23
  replace BB := bl_trans BB hb23
  clear hb23
  go_wp2_with fail
  go_ret
  exact ⟨rfl, BB⟩

end Go.Proofs.Ytbcceopgmkmbfaa
