/- litmuslaw01.NatRing answers true at every input, and changes nothing that was there: its walk. -/
import Derived.Test.YtbcceopgmkmbfaaLNum
namespace Go.Proofs.Ytbcceopgmkmbfaa
open Go.RowKit
set_option linter.unusedVariables false

set_option maxRecDepth 100000 in
set_option maxHeartbeats 4000000 in
theorem natRing_walk (A : Option Addr) (la ca : Nat) (ya : List Nat) (B : Option Addr) (lb cb : Nat) (yb : List Nat) (C : Option Addr) (lc cc : Nat) (yc : List Nat) (w : World) (ha : Rd w A la ca ya) (ga : la ≤ maxLen) (hb : Rd w B lb cb yb) (gb : lb ≤ maxLen) (hc : Rd w C lc cc yc) (gc : lc ≤ maxLen) :
    Calls Try.prog 6 #[.slice A la ca, .slice B lb cb, .slice C lc cc] w fun e w' => e = .returned (.bool true) ∧ Below w.heap.size w w' := by
  have Ha := Lib.hid ha
  have La := Lib.hid ga
  have Hb := Lib.hid hb
  have Lb := Lib.hid gb
  have Hc := Lib.hid hc
  have Lc := Lib.hid gc
  clear ha ga hb gb hc gc
  go_enter Try.func6, Try.ntmps6
  go_wp2_with fail
  refine (works_any _).mono ?_
  rintro e w0 ⟨rfl, BB⟩
  replace Ha := Lib.hid (Ha.out.below BB)
  replace Hb := Lib.hid (Hb.out.below BB)
  replace Hc := Lib.hid (Hc.out.below BB)
  go_wp2_with fail
  refine (fewN Ha.out La.out 20 (by omega) (by omega)).mono ?_
  rintro e w' ⟨⟨na, xa, rfl, Na⟩, rfl⟩
  replace Na : Nm _ _ _ _ _ 20 := Na
  go_wp2_with fail
  refine (fewN Hb.out Lb.out 20 (by omega) (by omega)).mono ?_
  rintro e w' ⟨⟨nb, xb, rfl, Nb⟩, rfl⟩
  replace Nb : Nm _ _ _ _ _ 20 := Nb
  go_wp2_with fail
  refine (fewN Hc.out Lc.out 20 (by omega) (by omega)).mono ?_
  rintro e w' ⟨⟨nc, xc, rfl, Nc⟩, rfl⟩
  replace Nc : Nm _ _ _ _ _ 20 := Nc
  clear Ha La Hb Lb Hc Lc
  go_wp2_with fail
  refine (addN Na Nb (by omega) (by omega)).mono ?_
  rintro e w1 ⟨A1, n1, c1, rfl, P, hb1⟩
  replace Na := Na.below hb1
  replace Nb := Nb.below hb1
  replace Nc := Nc.below hb1
  replace BB := bl_trans BB hb1
  clear hb1
  go_wp2_with fail
  refine (subN_yes P.nm Nb (by omega) (by omega) (by omega)).mono ?_
  rintro e w2 ⟨A2, n2, c2, rfl, S, hb2⟩
  replace Na := Na.below hb2
  replace Nb := Nb.below hb2
  replace Nc := Nc.below hb2
  replace P := P.below hb2
  replace BB := bl_trans BB hb2
  clear hb2
  clear P
  go_wp2_with fail
  refine (trimN Na (by omega)).mono ?_
  rintro e w3 ⟨A3, n3, c3, rfl, T, hb3⟩
  replace Na := Na.below hb3
  replace Nb := Nb.below hb3
  replace Nc := Nc.below hb3
  replace S := S.below hb3
  replace BB := bl_trans BB hb3
  clear hb3
  go_wp2_with fail
  refine (sameN_yes S T (by omega) (by omega) (by omega)).mono ?_
  rintro e w4 ⟨rfl, hb4⟩
  replace Na := Na.below hb4
  replace Nb := Nb.below hb4
  replace Nc := Nc.below hb4
  replace S := S.below hb4
  replace T := T.below hb4
  replace BB := bl_trans BB hb4
  clear hb4
  clear S T
  go_wp2_with fail
  refine (addN Na Nb (by omega) (by omega)).mono ?_
  rintro e w5 ⟨A5, n5, c5, rfl, P, hb5⟩
  replace Na := Na.below hb5
  replace Nb := Nb.below hb5
  replace Nc := Nc.below hb5
  replace BB := bl_trans BB hb5
  clear hb5
  go_wp2_with fail
  refine (addN Nb Na (by omega) (by omega)).mono ?_
  rintro e w6 ⟨A6, n6, c6, rfl, Q, hb6⟩
  replace Na := Na.below hb6
  replace Nb := Nb.below hb6
  replace Nc := Nc.below hb6
  replace P := P.below hb6
  replace BB := bl_trans BB hb6
  clear hb6
  go_wp2_with fail
  refine (sameN_yes P Q (by omega) (by omega) (Nat.add_comm _ _)).mono ?_
  rintro e w7 ⟨rfl, hb7⟩
  replace Na := Na.below hb7
  replace Nb := Nb.below hb7
  replace Nc := Nc.below hb7
  replace P := P.below hb7
  replace Q := Q.below hb7
  replace BB := bl_trans BB hb7
  clear hb7
  clear P Q
  go_wp2_with fail
  refine (mulN Na Nb (by omega) (by omega) (by omega)).mono ?_
  rintro e w8 ⟨A8, n8, c8, rfl, P, hb8⟩
  replace Na := Na.below hb8
  replace Nb := Nb.below hb8
  replace Nc := Nc.below hb8
  replace BB := bl_trans BB hb8
  clear hb8
  go_wp2_with fail
  refine (mulN Nb Na (by omega) (by omega) (by omega)).mono ?_
  rintro e w9 ⟨A9, n9, c9, rfl, Q, hb9⟩
  replace Na := Na.below hb9
  replace Nb := Nb.below hb9
  replace Nc := Nc.below hb9
  replace P := P.below hb9
  replace BB := bl_trans BB hb9
  clear hb9
  go_wp2_with fail
  refine (sameN_yes P Q (by omega) (by omega) (Nat.mul_comm _ _)).mono ?_
  rintro e w10 ⟨rfl, hb10⟩
  replace Na := Na.below hb10
  replace Nb := Nb.below hb10
  replace Nc := Nc.below hb10
  replace P := P.below hb10
  replace Q := Q.below hb10
  replace BB := bl_trans BB hb10
  clear hb10
  clear P Q
  go_wp2_with fail
  refine (addN Na Nb (by omega) (by omega)).mono ?_
  rintro e w11 ⟨A11, n11, c11, rfl, P, hb11⟩
  replace Na := Na.below hb11
  replace Nb := Nb.below hb11
  replace Nc := Nc.below hb11
  replace BB := bl_trans BB hb11
  clear hb11
  go_wp2_with fail
  refine (addN P.nm Nc (by omega) (by omega)).mono ?_
  rintro e w12 ⟨A12, n12, c12, rfl, Q, hb12⟩
  replace Na := Na.below hb12
  replace Nb := Nb.below hb12
  replace Nc := Nc.below hb12
  replace P := P.below hb12
  replace BB := bl_trans BB hb12
  clear hb12
  clear P
  go_wp2_with fail
  refine (addN Nb Nc (by omega) (by omega)).mono ?_
  rintro e w13 ⟨A13, n13, c13, rfl, P, hb13⟩
  replace Na := Na.below hb13
  replace Nb := Nb.below hb13
  replace Nc := Nc.below hb13
  replace Q := Q.below hb13
  replace BB := bl_trans BB hb13
  clear hb13
  go_wp2_with fail
  refine (addN Na P.nm (by omega) (by omega)).mono ?_
  rintro e w14 ⟨A14, n14, c14, rfl, U, hb14⟩
  replace Na := Na.below hb14
  replace Nb := Nb.below hb14
  replace Nc := Nc.below hb14
  replace Q := Q.below hb14
  replace P := P.below hb14
  replace BB := bl_trans BB hb14
  clear hb14
  go_wp2_with fail
  refine (sameN_yes Q U (by omega) (by omega) (Nat.add_assoc _ _ _)).mono ?_
  rintro e w15 ⟨rfl, hb15⟩
  replace Na := Na.below hb15
  replace Nb := Nb.below hb15
  replace Nc := Nc.below hb15
  replace Q := Q.below hb15
  replace P := P.below hb15
  replace U := U.below hb15
  replace BB := bl_trans BB hb15
  clear hb15
  clear P Q U
  go_wp2_with fail
  refine (mulN Na Nb (by omega) (by omega) (by omega)).mono ?_
  rintro e w16 ⟨A16, n16, c16, rfl, P, hb16⟩
  replace Na := Na.below hb16
  replace Nb := Nb.below hb16
  replace Nc := Nc.below hb16
  replace BB := bl_trans BB hb16
  clear hb16
  go_wp2_with fail
  refine (mulN P.nm Nc (by omega) (by omega) (by omega)).mono ?_
  rintro e w17 ⟨A17, n17, c17, rfl, Q, hb17⟩
  replace Na := Na.below hb17
  replace Nb := Nb.below hb17
  replace Nc := Nc.below hb17
  replace P := P.below hb17
  replace BB := bl_trans BB hb17
  clear hb17
  clear P
  go_wp2_with fail
  refine (mulN Nb Nc (by omega) (by omega) (by omega)).mono ?_
  rintro e w18 ⟨A18, n18, c18, rfl, P, hb18⟩
  replace Na := Na.below hb18
  replace Nb := Nb.below hb18
  replace Nc := Nc.below hb18
  replace Q := Q.below hb18
  replace BB := bl_trans BB hb18
  clear hb18
  go_wp2_with fail
  refine (mulN Na P.nm (by omega) (by omega) (by omega)).mono ?_
  rintro e w19 ⟨A19, n19, c19, rfl, U, hb19⟩
  replace Na := Na.below hb19
  replace Nb := Nb.below hb19
  replace Nc := Nc.below hb19
  replace Q := Q.below hb19
  replace P := P.below hb19
  replace BB := bl_trans BB hb19
  clear hb19
  go_wp2_with fail
  refine (sameN_yes Q U (by omega) (by omega) (Nat.mul_assoc _ _ _)).mono ?_
  rintro e w20 ⟨rfl, hb20⟩
  replace Na := Na.below hb20
  replace Nb := Nb.below hb20
  replace Nc := Nc.below hb20
  replace Q := Q.below hb20
  replace P := P.below hb20
  replace U := U.below hb20
  replace BB := bl_trans BB hb20
  clear hb20
  clear P Q U
  go_wp2_with fail
  refine (addN Nb Nc (by omega) (by omega)).mono ?_
  rintro e w21 ⟨A21, n21, c21, rfl, P, hb21⟩
  replace Na := Na.below hb21
  replace Nb := Nb.below hb21
  replace Nc := Nc.below hb21
  replace BB := bl_trans BB hb21
  clear hb21
  go_wp2_with fail
  refine (mulN Na P.nm (by omega) (by omega) (by omega)).mono ?_
  rintro e w22 ⟨A22, n22, c22, rfl, Q, hb22⟩
  replace Na := Na.below hb22
  replace Nb := Nb.below hb22
  replace Nc := Nc.below hb22
  replace P := P.below hb22
  replace BB := bl_trans BB hb22
  clear hb22
  clear P
  go_wp2_with fail
  refine (mulN Na Nb (by omega) (by omega) (by omega)).mono ?_
  rintro e w23 ⟨A23, n23, c23, rfl, P, hb23⟩
  replace Na := Na.below hb23
  replace Nb := Nb.below hb23
  replace Nc := Nc.below hb23
  replace Q := Q.below hb23
  replace BB := bl_trans BB hb23
  clear hb23
  go_wp2_with fail
  refine (mulN Na Nc (by omega) (by omega) (by omega)).mono ?_
  rintro e w24 ⟨A24, n24, c24, rfl, U, hb24⟩
  replace Na := Na.below hb24
  replace Nb := Nb.below hb24
  replace Nc := Nc.below hb24
  replace Q := Q.below hb24
  replace P := P.below hb24
  replace BB := bl_trans BB hb24
  clear hb24
  go_wp2_with fail
  refine (addN P.nm U.nm (by omega) (by omega)).mono ?_
  rintro e w25 ⟨A25, n25, c25, rfl, V, hb25⟩
  replace Na := Na.below hb25
  replace Nb := Nb.below hb25
  replace Nc := Nc.below hb25
  replace Q := Q.below hb25
  replace P := P.below hb25
  replace U := U.below hb25
  replace BB := bl_trans BB hb25
  clear hb25
  clear P U
  go_wp2_with fail
  refine (sameN_yes Q V (by omega) (by omega) (Nat.mul_add _ _ _)).mono ?_
  rintro e w26 ⟨rfl, hb26⟩
  replace Na := Na.below hb26
  replace Nb := Nb.below hb26
  replace Nc := Nc.below hb26
  replace Q := Q.below hb26
  replace V := V.below hb26
  replace BB := bl_trans BB hb26
  clear hb26
  clear Q V
  go_wp2_with fail
  refine (addN Na (nilN _) (by omega) (by omega)).mono ?_
  rintro e w27 ⟨A27, n27, c27, rfl, P, hb27⟩
  replace Na := Na.below hb27
  replace Nb := Nb.below hb27
  replace Nc := Nc.below hb27
  replace BB := bl_trans BB hb27
  clear hb27
  go_wp2_with fail
  refine (trimN Na (by omega)).mono ?_
  rintro e w28 ⟨A28, n28, c28, rfl, T, hb28⟩
  replace Na := Na.below hb28
  replace Nb := Nb.below hb28
  replace Nc := Nc.below hb28
  replace P := P.below hb28
  replace BB := bl_trans BB hb28
  clear hb28
  go_wp2_with fail
  refine (sameN_yes P T (by omega) (by omega) (Nat.add_zero _)).mono ?_
  rintro e w29 ⟨rfl, hb29⟩
  replace Na := Na.below hb29
  replace Nb := Nb.below hb29
  replace Nc := Nc.below hb29
  replace P := P.below hb29
  replace T := T.below hb29
  replace BB := bl_trans BB hb29
  clear hb29
  clear P T
  go_wp2_with fail
  refine (mulN (Na.alloc _) (litN2 _ 1 0 1 0 (by decide) (by decide) rfl rfl) (by omega) (by omega) (by omega)).mono ?_
  rintro e w30 ⟨A30, n30, c30, rfl, P, hb30⟩
  replace hb30 := bl_trans (bl_alloc _ _) hb30
  replace Na := Na.below hb30
  replace Nb := Nb.below hb30
  replace Nc := Nc.below hb30
  replace BB := bl_trans BB hb30
  clear hb30
  go_wp2_with fail
  refine (trimN Na (by omega)).mono ?_
  rintro e w31 ⟨A31, n31, c31, rfl, T, hb31⟩
  replace Na := Na.below hb31
  replace Nb := Nb.below hb31
  replace Nc := Nc.below hb31
  replace P := P.below hb31
  replace BB := bl_trans BB hb31
  clear hb31
  go_wp2_with fail
  refine (sameN_yes P T (by omega) (by omega) (by simp)).mono ?_
  rintro e w32 ⟨rfl, hb32⟩
  replace Na := Na.below hb32
  replace Nb := Nb.below hb32
  replace Nc := Nc.below hb32
  replace P := P.below hb32
  replace T := T.below hb32
  replace BB := bl_trans BB hb32
  clear hb32
  clear P T
  go_wp2_with fail
  refine (mulN (Na.alloc _) (litN1 _ 0 0 (by decide) rfl) (by omega) (by omega) (by omega)).mono ?_
  rw [Nat.mul_zero]
  rintro e w33 ⟨A33, n33, c33, rfl, P, hb33⟩
  replace hb33 := bl_trans (bl_alloc _ _) hb33
  replace Na := Na.below hb33
  replace Nb := Nb.below hb33
  replace Nc := Nc.below hb33
  replace BB := bl_trans BB hb33
  clear hb33
  have hP : n33 = 0 := by have := P.len; rw [M.lims_zero] at this; exact this.symm
  subst hP
  clear P
  go_wp2_with fail
  go_ret
  exact ⟨rfl, BB⟩

end Go.Proofs.Ytbcceopgmkmbfaa
