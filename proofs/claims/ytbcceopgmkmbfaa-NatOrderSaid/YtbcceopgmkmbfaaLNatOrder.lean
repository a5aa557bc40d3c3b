/- litmuslaw01.NatOrder answers true at every input, and changes nothing that was there: its walk. -/
import Derived.Test.YtbcceopgmkmbfaaLNum
namespace Go.Proofs.Ytbcceopgmkmbfaa
open Go.RowKit
set_option linter.unusedVariables false

set_option maxRecDepth 100000 in
set_option maxHeartbeats 4000000 in
theorem natOrder_walk (A : Option Addr) (la ca : Nat) (ya : List Nat) (B : Option Addr) (lb cb : Nat) (yb : List Nat) (C : Option Addr) (lc cc : Nat) (yc : List Nat) (w : World) (ha : Rd w A la ca ya) (ga : la ≤ maxLen) (hb : Rd w B lb cb yb) (gb : lb ≤ maxLen) (hc : Rd w C lc cc yc) (gc : lc ≤ maxLen) :
    Calls Try.prog 8 #[.slice A la ca, .slice B lb cb, .slice C lc cc] w fun e w' => e = .returned (.bool true) ∧ Below w.heap.size w w' := by
  have Ha := Lib.hid ha
  have La := Lib.hid ga
  have Hb := Lib.hid hb
  have Lb := Lib.hid gb
  have Hc := Lib.hid hc
  have Lc := Lib.hid gc
  clear ha ga hb gb hc gc
  go_enter Try.func8, Try.ntmps8
  go_wp2_with fail
  refine (works_any _).mono ?_
  rintro e w0 ⟨rfl, BB⟩
  replace Ha := Lib.hid (Ha.out.below BB)
  replace Hb := Lib.hid (Hb.out.below BB)
  replace Hc := Lib.hid (Hc.out.below BB)
  go_wp2_with fail
  refine (fewN Ha.out La.out 20 (by omega) (by omega)).mono ?_
  rintro e w' ⟨⟨na, xa, rfl, Na⟩, rfl⟩
  replace Na : Nm _ _ _ _ _ 20 := Na
  go_wp2_with fail
  refine (fewN Hb.out Lb.out 20 (by omega) (by omega)).mono ?_
  rintro e w' ⟨⟨nb, xb, rfl, Nb⟩, rfl⟩
  replace Nb : Nm _ _ _ _ _ 20 := Nb
  go_wp2_with fail
  refine (fewN Hc.out Lc.out 20 (by omega) (by omega)).mono ?_
  rintro e w' ⟨⟨nc, xc, rfl, Nc⟩, rfl⟩
  replace Nc : Nm _ _ _ _ _ 20 := Nc
  clear Ha La Hb Lb Hc Lc
  rcases Nat.lt_trichotomy xa xb with hab | hab | hab
  · go_wp2_with fail
    refine (cmpN Na Nb (by omega) (by omega)).mono ?_
    rw [cmpV_lt hab]
    rintro e w1 ⟨rfl, hb1⟩
    replace Na := Na.below hb1
    replace Nb := Nb.below hb1
    replace Nc := Nc.below hb1
    replace BB := bl_trans BB hb1
    clear hb1
    go_wp2_with fail
    refine (subN_no Na Nb (by omega) (by omega) hab).mono ?_
    rintro e w2 ⟨A2, n2, c2, rfl, S1, hb2⟩
    replace Na := Na.below hb2
    replace Nb := Nb.below hb2
    replace Nc := Nc.below hb2
    replace BB := bl_trans BB hb2
    clear hb2
    clear S1
    go_wp2_with fail
    refine (cmpN Nb Na (by omega) (by omega)).mono ?_
    rw [cmpV_gt hab]
    rintro e w3 ⟨rfl, hb3⟩
    replace Na := Na.below hb3
    replace Nb := Nb.below hb3
    replace Nc := Nc.below hb3
    replace BB := bl_trans BB hb3
    clear hb3
    go_wp2_with fail
    refine (trimN Na (by omega)).mono ?_
    rintro e w4 ⟨A4, n4, c4, rfl, Ta, hb4⟩
    replace Na := Na.below hb4
    replace Nb := Nb.below hb4
    replace Nc := Nc.below hb4
    replace BB := bl_trans BB hb4
    clear hb4
    go_wp2_with fail
    refine (trimN Nb (by omega)).mono ?_
    rintro e w5 ⟨A5, n5, c5, rfl, Tb, hb5⟩
    replace Na := Na.below hb5
    replace Nb := Nb.below hb5
    replace Nc := Nc.below hb5
    replace Ta := Ta.below hb5
    replace BB := bl_trans BB hb5
    clear hb5
    go_wp2_with fail
    refine (sameN_no Ta Tb (by omega) (by omega) (by omega)).mono ?_
    rintro e w6 ⟨rfl, hb6⟩
    replace Na := Na.below hb6
    replace Nb := Nb.below hb6
    replace Nc := Nc.below hb6
    replace Ta := Ta.below hb6
    replace Tb := Tb.below hb6
    replace BB := bl_trans BB hb6
    clear hb6
    clear Ta Tb
    go_wp2_with fail
    refine (addN Na Nc (by omega) (by omega)).mono ?_
    rintro e w7 ⟨A7, n7, c7, rfl, P, hb7⟩
    replace Na := Na.below hb7
    replace Nb := Nb.below hb7
    replace Nc := Nc.below hb7
    replace BB := bl_trans BB hb7
    clear hb7
    go_wp2_with fail
    refine (addN Nb Nc (by omega) (by omega)).mono ?_
    rintro e w8 ⟨A8, n8, c8, rfl, Q, hb8⟩
    replace Na := Na.below hb8
    replace Nb := Nb.below hb8
    replace Nc := Nc.below hb8
    replace P := P.below hb8
    replace BB := bl_trans BB hb8
    clear hb8
    go_wp2_with fail
    refine (cmpN P.nm Q.nm (by omega) (by omega)).mono ?_
    rw [cmpV_lt (show xa + xc < xb + xc by omega)]
    rintro e w9 ⟨rfl, hb9⟩
    replace Na := Na.below hb9
    replace Nb := Nb.below hb9
    replace Nc := Nc.below hb9
    replace P := P.below hb9
    replace Q := Q.below hb9
    replace BB := bl_trans BB hb9
    clear hb9
    clear P Q
    rcases Nat.lt_trichotomy xb xc with hbc | hbc | hbc
    · go_wp2_with fail
      refine (cmpN Nb Nc (by omega) (by omega)).mono ?_
      rw [cmpV_lt hbc]
      rintro e w10 ⟨rfl, hb10⟩
      replace Na := Na.below hb10
      replace Nb := Nb.below hb10
      replace Nc := Nc.below hb10
      replace BB := bl_trans BB hb10
      clear hb10
      go_wp2_with fail
      refine (cmpN Na Nc (by omega) (by omega)).mono ?_
      rw [cmpV_lt (show xa < xc by omega)]
      rintro e w11 ⟨rfl, hb11⟩
      replace Na := Na.below hb11
      replace Nb := Nb.below hb11
      replace Nc := Nc.below hb11
      replace BB := bl_trans BB hb11
      clear hb11
      go_wp2_with fail
      go_ret
      exact ⟨rfl, BB⟩
    · subst hbc
      go_wp2_with fail
      refine (cmpN Nb Nc (by omega) (by omega)).mono ?_
      rw [cmpV_eq]
      rintro e w12 ⟨rfl, hb12⟩
      replace Na := Na.below hb12
      replace Nb := Nb.below hb12
      replace Nc := Nc.below hb12
      replace BB := bl_trans BB hb12
      clear hb12
      go_wp2_with fail
      refine (cmpN Na Nc (by omega) (by omega)).mono ?_
      rw [cmpV_lt hab]
      rintro e w13 ⟨rfl, hb13⟩
      replace Na := Na.below hb13
      replace Nb := Nb.below hb13
      replace Nc := Nc.below hb13
      replace BB := bl_trans BB hb13
      clear hb13
      go_wp2_with fail
      go_ret
      exact ⟨rfl, BB⟩
    · go_wp2_with fail
      refine (cmpN Nb Nc (by omega) (by omega)).mono ?_
      rw [cmpV_gt hbc]
      rintro e w14 ⟨rfl, hb14⟩
      replace Na := Na.below hb14
      replace Nb := Nb.below hb14
      replace Nc := Nc.below hb14
      replace BB := bl_trans BB hb14
      clear hb14
      go_wp2_with fail
      go_ret
      exact ⟨rfl, BB⟩
  · subst hab
    go_wp2_with fail
    refine (cmpN Na Nb (by omega) (by omega)).mono ?_
    rw [cmpV_eq]
    rintro e w15 ⟨rfl, hb15⟩
    replace Na := Na.below hb15
    replace Nb := Nb.below hb15
    replace Nc := Nc.below hb15
    replace BB := bl_trans BB hb15
    clear hb15
    go_wp2_with fail
    refine (subN_yes Na Nb (by omega) (by omega) (by omega)).mono ?_
    rintro e w16 ⟨A16, n16, c16, rfl, S1, hb16⟩
    replace Na := Na.below hb16
    replace Nb := Nb.below hb16
    replace Nc := Nc.below hb16
    replace BB := bl_trans BB hb16
    clear hb16
    clear S1
    go_wp2_with fail
    refine (cmpN Nb Na (by omega) (by omega)).mono ?_
    rw [cmpV_eq]
    rintro e w17 ⟨rfl, hb17⟩
    replace Na := Na.below hb17
    replace Nb := Nb.below hb17
    replace Nc := Nc.below hb17
    replace BB := bl_trans BB hb17
    clear hb17
    go_wp2_with fail
    refine (trimN Na (by omega)).mono ?_
    rintro e w18 ⟨A18, n18, c18, rfl, Ta, hb18⟩
    replace Na := Na.below hb18
    replace Nb := Nb.below hb18
    replace Nc := Nc.below hb18
    replace BB := bl_trans BB hb18
    clear hb18
    go_wp2_with fail
    refine (trimN Nb (by omega)).mono ?_
    rintro e w19 ⟨A19, n19, c19, rfl, Tb, hb19⟩
    replace Na := Na.below hb19
    replace Nb := Nb.below hb19
    replace Nc := Nc.below hb19
    replace Ta := Ta.below hb19
    replace BB := bl_trans BB hb19
    clear hb19
    go_wp2_with fail
    refine (sameN_yes Ta Tb (by omega) (by omega) rfl).mono ?_
    rintro e w20 ⟨rfl, hb20⟩
    replace Na := Na.below hb20
    replace Nb := Nb.below hb20
    replace Nc := Nc.below hb20
    replace Ta := Ta.below hb20
    replace Tb := Tb.below hb20
    replace BB := bl_trans BB hb20
    clear hb20
    clear Ta Tb
    go_wp2_with fail
    refine (addN Na Nc (by omega) (by omega)).mono ?_
    rintro e w21 ⟨A21, n21, c21, rfl, P, hb21⟩
    replace Na := Na.below hb21
    replace Nb := Nb.below hb21
    replace Nc := Nc.below hb21
    replace BB := bl_trans BB hb21
    clear hb21
    go_wp2_with fail
    refine (addN Nb Nc (by omega) (by omega)).mono ?_
    rintro e w22 ⟨A22, n22, c22, rfl, Q, hb22⟩
    replace Na := Na.below hb22
    replace Nb := Nb.below hb22
    replace Nc := Nc.below hb22
    replace P := P.below hb22
    replace BB := bl_trans BB hb22
    clear hb22
    go_wp2_with fail
    refine (cmpN P.nm Q.nm (by omega) (by omega)).mono ?_
    rw [cmpV_eq]
    rintro e w23 ⟨rfl, hb23⟩
    replace Na := Na.below hb23
    replace Nb := Nb.below hb23
    replace Nc := Nc.below hb23
    replace P := P.below hb23
    replace Q := Q.below hb23
    replace BB := bl_trans BB hb23
    clear hb23
    clear P Q
    rcases Nat.lt_trichotomy xa xc with hbc | hbc | hbc
    · go_wp2_with fail
      refine (cmpN Nb Nc (by omega) (by omega)).mono ?_
      rw [cmpV_lt hbc]
      rintro e w24 ⟨rfl, hb24⟩
      replace Na := Na.below hb24
      replace Nb := Nb.below hb24
      replace Nc := Nc.below hb24
      replace BB := bl_trans BB hb24
      clear hb24
      go_wp2_with fail
      refine (cmpN Na Nc (by omega) (by omega)).mono ?_
      rw [cmpV_lt hbc]
      rintro e w25 ⟨rfl, hb25⟩
      replace Na := Na.below hb25
      replace Nb := Nb.below hb25
      replace Nc := Nc.below hb25
      replace BB := bl_trans BB hb25
      clear hb25
      go_wp2_with fail
      go_ret
      exact ⟨rfl, BB⟩
    · subst hbc
      go_wp2_with fail
      refine (cmpN Nb Nc (by omega) (by omega)).mono ?_
      rw [cmpV_eq]
      rintro e w26 ⟨rfl, hb26⟩
      replace Na := Na.below hb26
      replace Nb := Nb.below hb26
      replace Nc := Nc.below hb26
      replace BB := bl_trans BB hb26
      clear hb26
      go_wp2_with fail
      refine (cmpN Na Nc (by omega) (by omega)).mono ?_
      rw [cmpV_eq]
      rintro e w27 ⟨rfl, hb27⟩
      replace Na := Na.below hb27
      replace Nb := Nb.below hb27
      replace Nc := Nc.below hb27
      replace BB := bl_trans BB hb27
      clear hb27
      go_wp2_with fail
      go_ret
      exact ⟨rfl, BB⟩
    · go_wp2_with fail
      refine (cmpN Nb Nc (by omega) (by omega)).mono ?_
      rw [cmpV_gt hbc]
      rintro e w28 ⟨rfl, hb28⟩
      replace Na := Na.below hb28
      replace Nb := Nb.below hb28
      replace Nc := Nc.below hb28
      replace BB := bl_trans BB hb28
      clear hb28
      go_wp2_with fail
      go_ret
      exact ⟨rfl, BB⟩
  · go_wp2_with fail
    refine (cmpN Na Nb (by omega) (by omega)).mono ?_
    rw [cmpV_gt hab]
    rintro e w29 ⟨rfl, hb29⟩
    replace Na := Na.below hb29
    replace Nb := Nb.below hb29
    replace Nc := Nc.below hb29
    replace BB := bl_trans BB hb29
    clear hb29
    go_wp2_with fail
    refine (subN_yes Na Nb (by omega) (by omega) (by omega)).mono ?_
    rintro e w30 ⟨A30, n30, c30, rfl, S1, hb30⟩
    replace Na := Na.below hb30
    replace Nb := Nb.below hb30
    replace Nc := Nc.below hb30
    replace BB := bl_trans BB hb30
    clear hb30
    clear S1
    go_wp2_with fail
    refine (cmpN Nb Na (by omega) (by omega)).mono ?_
    rw [cmpV_lt hab]
    rintro e w31 ⟨rfl, hb31⟩
    replace Na := Na.below hb31
    replace Nb := Nb.below hb31
    replace Nc := Nc.below hb31
    replace BB := bl_trans BB hb31
    clear hb31
    go_wp2_with fail
    refine (trimN Na (by omega)).mono ?_
    rintro e w32 ⟨A32, n32, c32, rfl, Ta, hb32⟩
    replace Na := Na.below hb32
    replace Nb := Nb.below hb32
    replace Nc := Nc.below hb32
    replace BB := bl_trans BB hb32
    clear hb32
    go_wp2_with fail
    refine (trimN Nb (by omega)).mono ?_
    rintro e w33 ⟨A33, n33, c33, rfl, Tb, hb33⟩
    replace Na := Na.below hb33
    replace Nb := Nb.below hb33
    replace Nc := Nc.below hb33
    replace Ta := Ta.below hb33
    replace BB := bl_trans BB hb33
    clear hb33
    go_wp2_with fail
    refine (sameN_no Ta Tb (by omega) (by omega) (by omega)).mono ?_
    rintro e w34 ⟨rfl, hb34⟩
    replace Na := Na.below hb34
    replace Nb := Nb.below hb34
    replace Nc := Nc.below hb34
    replace Ta := Ta.below hb34
    replace Tb := Tb.below hb34
    replace BB := bl_trans BB hb34
    clear hb34
    clear Ta Tb
    go_wp2_with fail
    refine (addN Na Nc (by omega) (by omega)).mono ?_
    rintro e w35 ⟨A35, n35, c35, rfl, P, hb35⟩
    replace Na := Na.below hb35
    replace Nb := Nb.below hb35
    replace Nc := Nc.below hb35
    replace BB := bl_trans BB hb35
    clear hb35
    go_wp2_with fail
    refine (addN Nb Nc (by omega) (by omega)).mono ?_
    rintro e w36 ⟨A36, n36, c36, rfl, Q, hb36⟩
    replace Na := Na.below hb36
    replace Nb := Nb.below hb36
    replace Nc := Nc.below hb36
    replace P := P.below hb36
    replace BB := bl_trans BB hb36
    clear hb36
    go_wp2_with fail
    refine (cmpN P.nm Q.nm (by omega) (by omega)).mono ?_
    rw [cmpV_gt (show xb + xc < xa + xc by omega)]
    rintro e w37 ⟨rfl, hb37⟩
    replace Na := Na.below hb37
    replace Nb := Nb.below hb37
    replace Nc := Nc.below hb37
    replace P := P.below hb37
    replace Q := Q.below hb37
    replace BB := bl_trans BB hb37
    clear hb37
    clear P Q
    go_wp2_with fail
    go_ret
    exact ⟨rfl, BB⟩

end Go.Proofs.Ytbcceopgmkmbfaa
