/- litmuslaw01.NatTells answers true at every input, and changes nothing that was there: its walk. -/
import Derived.Test.YtbcceopgmkmbfaaWTextR
namespace Go.Proofs.Ytbcceopgmkmbfaa
open Go.RowKit
set_option linter.unusedVariables false

theorem textRN {w : World} {A : Option Addr} {n c x k : Nat} (h : Nm w A n c x k) (hk : k ≤ 1000) : Calls Try.prog 29 #[.slice A n c] w (GivesT w (M.txt x)) := by
  have hl := h.le
  obtain ⟨xs, hx, rfl⟩ := h.row
  exact textR_any _ _ _ _ _ hx (by omega)

set_option maxRecDepth 100000 in
set_option maxHeartbeats 8000000 in
theorem natTells_walk (A : Option Addr) (la ca : Nat) (ya : List Nat) (B : Option Addr) (lb cb : Nat) (yb : List Nat) (w : World) (ha : Rd w A la ca ya) (ga : la ≤ maxLen) (hb : Rd w B lb cb yb) (gb : lb ≤ maxLen) :
    Calls Try.prog 3 #[.slice A la ca, .slice B lb cb] w fun e w' => e = .returned (.bool true) ∧ Below w.heap.size w w' := by
  have BB : Below w.heap.size w w := Below.refl _ _
  have Ha := Lib.hid ha
  have La := Lib.hid ga
  have Hb := Lib.hid hb
  have Lb := Lib.hid gb
  clear ha ga hb gb
  go_enter Try.func3, Try.ntmps3
  go_wp2_with fail
  refine (fewN Ha.out La.out 12 (by omega) (by omega)).mono ?_
  rintro e w' ⟨⟨na, xa, rfl, Na⟩, rfl⟩
  replace Na : Nm _ _ _ _ _ 12 := Na
  go_wp2_with fail
  refine (fewN Hb.out Lb.out 12 (by omega) (by omega)).mono ?_
  rintro e w' ⟨⟨nb, xb, rfl, Nb⟩, rfl⟩
  replace Nb : Nm _ _ _ _ _ 12 := Nb
  clear Ha La Hb Lb
  rcases Nat.lt_trichotomy xa xb with hab | hab | hab
  · have hy : xb ≠ 0 := by omega
    go_wp2_with fail
    refine (subN_no Na Nb (by omega) (by omega) hab).mono ?_
    rintro e w1 ⟨A1, n1, c1, rfl, S, hb1⟩
    replace Na := Na.below hb1
    replace Nb := Nb.below hb1
    replace BB := bl_trans BB hb1
    clear hb1
    go_wp2_with fail
    refine (subRN_no Na Nb (by omega) (by omega) hab).mono ?_
    rintro e w2 ⟨A2, n2, c2, rfl, T, hb2⟩
    replace Na := Na.below hb2
    replace Nb := Nb.below hb2
    replace S := S.below hb2
    replace BB := bl_trans BB hb2
    clear hb2
    go_wp2_with fail
    refine (divN Na Nb (by omega) (by omega) hy).mono ?_
    rintro e w3 ⟨A3, n3, c3, B3, m3, d3, rfl, Q, R, hb3⟩
    replace Na := Na.below hb3
    replace Nb := Nb.below hb3
    replace S := S.below hb3
    replace T := T.below hb3
    replace BB := bl_trans BB hb3
    clear hb3
    go_wp2_with fail
    refine (divRN Na Nb (by omega) (by omega) hy).mono ?_
    rintro e w4 ⟨A4, n4, c4, B4, m4, d4, rfl, X, Y, hb4⟩
    replace Na := Na.below hb4
    replace Nb := Nb.below hb4
    replace S := S.below hb4
    replace T := T.below hb4
    replace Q := Q.below hb4
    replace R := R.below hb4
    replace BB := bl_trans BB hb4
    clear hb4
    go_wp2_with fail
    refine (SameN_yes S T (by omega) (by omega) rfl).mono ?_
    rintro e w5 ⟨rfl, hb5⟩
    replace Na := Na.below hb5
    replace Nb := Nb.below hb5
    replace S := S.below hb5
    replace T := T.below hb5
    replace Q := Q.below hb5
    replace R := R.below hb5
    replace X := X.below hb5
    replace Y := Y.below hb5
    replace BB := bl_trans BB hb5
    clear hb5
    go_wp2_with fail
    refine (SameN_yes Q X (by omega) (by omega) rfl).mono ?_
    rintro e w6 ⟨rfl, hb6⟩
    replace Na := Na.below hb6
    replace Nb := Nb.below hb6
    replace S := S.below hb6
    replace T := T.below hb6
    replace Q := Q.below hb6
    replace R := R.below hb6
    replace X := X.below hb6
    replace Y := Y.below hb6
    replace BB := bl_trans BB hb6
    clear hb6
    go_wp2_with fail
    refine (SameN_yes R Y (by omega) (by omega) rfl).mono ?_
    rintro e w7 ⟨rfl, hb7⟩
    replace Na := Na.below hb7
    replace Nb := Nb.below hb7
    replace S := S.below hb7
    replace T := T.below hb7
    replace Q := Q.below hb7
    replace R := R.below hb7
    replace X := X.below hb7
    replace Y := Y.below hb7
    replace BB := bl_trans BB hb7
    clear hb7
    clear S T Q R X Y
    go_wp2_with fail
    refine (trimN Na (by omega)).mono ?_
    rintro e w8 ⟨A8, n8, c8, rfl, T, hb8⟩
    replace Na := Na.below hb8
    replace Nb := Nb.below hb8
    replace BB := bl_trans BB hb8
    clear hb8
    go_wp2_with fail
    refine (trimRN Na (by omega)).mono ?_
    rintro e w9 ⟨A9, n9, c9, rfl, S, hb9⟩
    replace Na := Na.below hb9
    replace Nb := Nb.below hb9
    replace T := T.below hb9
    replace BB := bl_trans BB hb9
    clear hb9
    go_wp2_with fail
    refine (SameN_yes T S (by omega) (by omega) rfl).mono ?_
    rintro e w10 ⟨rfl, hb10⟩
    replace Na := Na.below hb10
    replace Nb := Nb.below hb10
    replace T := T.below hb10
    replace S := S.below hb10
    replace BB := bl_trans BB hb10
    clear hb10
    clear T S
    go_wp2_with fail
    refine (cmpN Na Nb (by omega) (by omega)).mono ?_
    rw [cmpV_lt hab]
    rintro e w11 ⟨rfl, hb11⟩
    replace Na := Na.below hb11
    replace Nb := Nb.below hb11
    replace BB := bl_trans BB hb11
    clear hb11
    go_wp2_with fail
    refine (cmpRN_lt Na Nb (by omega) (by omega) hab).mono ?_
    rw [cmpV_lt hab]
    rintro e w12 ⟨rfl, hb12⟩
    replace Na := Na.below hb12
    replace Nb := Nb.below hb12
    replace BB := bl_trans BB hb12
    clear hb12
    go_wp2_with fail
    refine (addN Na Nb (by omega) (by omega)).mono ?_
    rintro e w13 ⟨A13, n13, c13, rfl, T, hb13⟩
    replace Na := Na.below hb13
    replace Nb := Nb.below hb13
    replace BB := bl_trans BB hb13
    clear hb13
    go_wp2_with fail
    refine (addRN Na Nb (by omega) (by omega)).mono ?_
    rintro e w14 ⟨A14, n14, c14, rfl, S, hb14⟩
    replace Na := Na.below hb14
    replace Nb := Nb.below hb14
    replace T := T.below hb14
    replace BB := bl_trans BB hb14
    clear hb14
    go_wp2_with fail
    refine (SameN_yes T S (by omega) (by omega) rfl).mono ?_
    rintro e w15 ⟨rfl, hb15⟩
    replace Na := Na.below hb15
    replace Nb := Nb.below hb15
    replace T := T.below hb15
    replace S := S.below hb15
    replace BB := bl_trans BB hb15
    clear hb15
    clear T S
    go_wp2_with fail
    refine (mulN Na Nb (by omega) (by omega) (by omega)).mono ?_
    rintro e w16 ⟨A16, n16, c16, rfl, T, hb16⟩
    replace Na := Na.below hb16
    replace Nb := Nb.below hb16
    replace BB := bl_trans BB hb16
    clear hb16
    go_wp2_with fail
    refine (mulRN Na Nb (by omega) (by omega)).mono ?_
    rintro e w17 ⟨A17, n17, c17, rfl, S, hb17⟩
    replace Na := Na.below hb17
    replace Nb := Nb.below hb17
    replace T := T.below hb17
    replace BB := bl_trans BB hb17
    clear hb17
    go_wp2_with fail
    refine (SameN_yes T S (by omega) (by omega) rfl).mono ?_
    rintro e w18 ⟨rfl, hb18⟩
    replace Na := Na.below hb18
    replace Nb := Nb.below hb18
    replace T := T.below hb18
    replace S := S.below hb18
    replace BB := bl_trans BB hb18
    clear hb18
    clear T S
    go_wp2_with fail
    refine (textN Na (by omega)).mono ?_
    rintro e w19 ⟨s19, rfl, hs19, hb19⟩
    replace Na := Na.below hb19
    replace Nb := Nb.below hb19
    replace BB := bl_trans BB hb19
    clear hb19
    go_wp2_with fail
    refine (textRN Na (by omega)).mono ?_
    rintro e w20 ⟨s20, rfl, hs20, hb20⟩
    replace Na := Na.below hb20
    replace Nb := Nb.below hb20
    replace BB := bl_trans BB hb20
    clear hb20
    obtain rfl : s19 = s20 := M.bytes_inj (hs19.trans hs20.symm)
    have hself : (s19.toList == s19.toList) = true := by simp
    go_wp2_with fail
    refine (works_any _).mono ?_
    rintro e w21 ⟨rfl, hb21⟩
    replace BB := bl_trans BB hb21
    clear hb21
    go_wp2_with fail
    go_ret
    exact ⟨rfl, BB⟩
  · have HEQ := Lib.hid (show cmpV xa xb = 0 by rw [hab]; exact cmpV_eq _)
    by_cases hy : xb = 0
    · go_wp2_with fail
      refine (subN_yes Na Nb (by omega) (by omega) (by omega)).mono ?_
      rintro e w22 ⟨A22, n22, c22, rfl, S, hb22⟩
      replace Na := Na.below hb22
      replace Nb := Nb.below hb22
      replace BB := bl_trans BB hb22
      clear hb22
      go_wp2_with fail
      refine (subRN_yes Na Nb (by omega) (by omega) (by omega)).mono ?_
      rintro e w23 ⟨A23, n23, c23, rfl, T, hb23⟩
      replace Na := Na.below hb23
      replace Nb := Nb.below hb23
      replace S := S.below hb23
      replace BB := bl_trans BB hb23
      clear hb23
      go_wp2_with fail
      refine (divN_zero Na Nb (by omega) (by omega) hy).mono ?_
      rintro e w24 ⟨A24, n24, c24, B24, m24, d24, rfl, Q, R, hb24⟩
      replace Na := Na.below hb24
      replace Nb := Nb.below hb24
      replace S := S.below hb24
      replace T := T.below hb24
      replace BB := bl_trans BB hb24
      clear hb24
      go_wp2_with fail
      refine (divRN_zero Na Nb (by omega) (by omega) hy).mono ?_
      rintro e w25 ⟨A25, n25, c25, B25, m25, d25, rfl, X, Y, hb25⟩
      replace Na := Na.below hb25
      replace Nb := Nb.below hb25
      replace S := S.below hb25
      replace T := T.below hb25
      replace Q := Q.below hb25
      replace R := R.below hb25
      replace BB := bl_trans BB hb25
      clear hb25
      go_wp2_with fail
      refine (SameN_yes S T (by omega) (by omega) rfl).mono ?_
      rintro e w26 ⟨rfl, hb26⟩
      replace Na := Na.below hb26
      replace Nb := Nb.below hb26
      replace S := S.below hb26
      replace T := T.below hb26
      replace Q := Q.below hb26
      replace R := R.below hb26
      replace X := X.below hb26
      replace Y := Y.below hb26
      replace BB := bl_trans BB hb26
      clear hb26
      go_wp2_with fail
      refine (SameN_yes Q X (by omega) (by omega) rfl).mono ?_
      rintro e w27 ⟨rfl, hb27⟩
      replace Na := Na.below hb27
      replace Nb := Nb.below hb27
      replace S := S.below hb27
      replace T := T.below hb27
      replace Q := Q.below hb27
      replace R := R.below hb27
      replace X := X.below hb27
      replace Y := Y.below hb27
      replace BB := bl_trans BB hb27
      clear hb27
      go_wp2_with fail
      refine (SameN_yes R Y (by omega) (by omega) rfl).mono ?_
      rintro e w28 ⟨rfl, hb28⟩
      replace Na := Na.below hb28
      replace Nb := Nb.below hb28
      replace S := S.below hb28
      replace T := T.below hb28
      replace Q := Q.below hb28
      replace R := R.below hb28
      replace X := X.below hb28
      replace Y := Y.below hb28
      replace BB := bl_trans BB hb28
      clear hb28
      clear S T Q R X Y
      go_wp2_with fail
      refine (trimN Na (by omega)).mono ?_
      rintro e w29 ⟨A29, n29, c29, rfl, T, hb29⟩
      replace Na := Na.below hb29
      replace Nb := Nb.below hb29
      replace BB := bl_trans BB hb29
      clear hb29
      go_wp2_with fail
      refine (trimRN Na (by omega)).mono ?_
      rintro e w30 ⟨A30, n30, c30, rfl, S, hb30⟩
      replace Na := Na.below hb30
      replace Nb := Nb.below hb30
      replace T := T.below hb30
      replace BB := bl_trans BB hb30
      clear hb30
      go_wp2_with fail
      refine (SameN_yes T S (by omega) (by omega) rfl).mono ?_
      rintro e w31 ⟨rfl, hb31⟩
      replace Na := Na.below hb31
      replace Nb := Nb.below hb31
      replace T := T.below hb31
      replace S := S.below hb31
      replace BB := bl_trans BB hb31
      clear hb31
      clear T S
      go_wp2_with fail
      refine (cmpN Na Nb (by omega) (by omega)).mono ?_
      rw [HEQ.out]
      rintro e w32 ⟨rfl, hb32⟩
      replace Na := Na.below hb32
      replace Nb := Nb.below hb32
      replace BB := bl_trans BB hb32
      clear hb32
      go_wp2_with fail
      refine (cmpRN_eq Na Nb (by omega) (by omega) hab).mono ?_
      rw [HEQ.out]
      rintro e w33 ⟨rfl, hb33⟩
      replace Na := Na.below hb33
      replace Nb := Nb.below hb33
      replace BB := bl_trans BB hb33
      clear hb33
      go_wp2_with fail
      refine (addN Na Nb (by omega) (by omega)).mono ?_
      rintro e w34 ⟨A34, n34, c34, rfl, T, hb34⟩
      replace Na := Na.below hb34
      replace Nb := Nb.below hb34
      replace BB := bl_trans BB hb34
      clear hb34
      go_wp2_with fail
      refine (addRN Na Nb (by omega) (by omega)).mono ?_
      rintro e w35 ⟨A35, n35, c35, rfl, S, hb35⟩
      replace Na := Na.below hb35
      replace Nb := Nb.below hb35
      replace T := T.below hb35
      replace BB := bl_trans BB hb35
      clear hb35
      go_wp2_with fail
      refine (SameN_yes T S (by omega) (by omega) rfl).mono ?_
      rintro e w36 ⟨rfl, hb36⟩
      replace Na := Na.below hb36
      replace Nb := Nb.below hb36
      replace T := T.below hb36
      replace S := S.below hb36
      replace BB := bl_trans BB hb36
      clear hb36
      clear T S
      go_wp2_with fail
      refine (mulN Na Nb (by omega) (by omega) (by omega)).mono ?_
      rintro e w37 ⟨A37, n37, c37, rfl, T, hb37⟩
      replace Na := Na.below hb37
      replace Nb := Nb.below hb37
      replace BB := bl_trans BB hb37
      clear hb37
      go_wp2_with fail
      refine (mulRN Na Nb (by omega) (by omega)).mono ?_
      rintro e w38 ⟨A38, n38, c38, rfl, S, hb38⟩
      replace Na := Na.below hb38
      replace Nb := Nb.below hb38
      replace T := T.below hb38
      replace BB := bl_trans BB hb38
      clear hb38
      go_wp2_with fail
      refine (SameN_yes T S (by omega) (by omega) rfl).mono ?_
      rintro e w39 ⟨rfl, hb39⟩
      replace Na := Na.below hb39
      replace Nb := Nb.below hb39
      replace T := T.below hb39
      replace S := S.below hb39
      replace BB := bl_trans BB hb39
      clear hb39
      clear T S
      go_wp2_with fail
      refine (textN Na (by omega)).mono ?_
      rintro e w40 ⟨s40, rfl, hs40, hb40⟩
      replace Na := Na.below hb40
      replace Nb := Nb.below hb40
      replace BB := bl_trans BB hb40
      clear hb40
      go_wp2_with fail
      refine (textRN Na (by omega)).mono ?_
      rintro e w41 ⟨s41, rfl, hs41, hb41⟩
      replace Na := Na.below hb41
      replace Nb := Nb.below hb41
      replace BB := bl_trans BB hb41
      clear hb41
      obtain rfl : s40 = s41 := M.bytes_inj (hs40.trans hs41.symm)
      have hself : (s40.toList == s40.toList) = true := by simp
      go_wp2_with fail
      refine (works_any _).mono ?_
      rintro e w42 ⟨rfl, hb42⟩
      replace BB := bl_trans BB hb42
      clear hb42
      go_wp2_with fail
      go_ret
      exact ⟨rfl, BB⟩
    · go_wp2_with fail
      refine (subN_yes Na Nb (by omega) (by omega) (by omega)).mono ?_
      rintro e w43 ⟨A43, n43, c43, rfl, S, hb43⟩
      replace Na := Na.below hb43
      replace Nb := Nb.below hb43
      replace BB := bl_trans BB hb43
      clear hb43
      go_wp2_with fail
      refine (subRN_yes Na Nb (by omega) (by omega) (by omega)).mono ?_
      rintro e w44 ⟨A44, n44, c44, rfl, T, hb44⟩
      replace Na := Na.below hb44
      replace Nb := Nb.below hb44
      replace S := S.below hb44
      replace BB := bl_trans BB hb44
      clear hb44
      go_wp2_with fail
      refine (divN Na Nb (by omega) (by omega) hy).mono ?_
      rintro e w45 ⟨A45, n45, c45, B45, m45, d45, rfl, Q, R, hb45⟩
      replace Na := Na.below hb45
      replace Nb := Nb.below hb45
      replace S := S.below hb45
      replace T := T.below hb45
      replace BB := bl_trans BB hb45
      clear hb45
      go_wp2_with fail
      refine (divRN Na Nb (by omega) (by omega) hy).mono ?_
      rintro e w46 ⟨A46, n46, c46, B46, m46, d46, rfl, X, Y, hb46⟩
      replace Na := Na.below hb46
      replace Nb := Nb.below hb46
      replace S := S.below hb46
      replace T := T.below hb46
      replace Q := Q.below hb46
      replace R := R.below hb46
      replace BB := bl_trans BB hb46
      clear hb46
      go_wp2_with fail
      refine (SameN_yes S T (by omega) (by omega) rfl).mono ?_
      rintro e w47 ⟨rfl, hb47⟩
      replace Na := Na.below hb47
      replace Nb := Nb.below hb47
      replace S := S.below hb47
      replace T := T.below hb47
      replace Q := Q.below hb47
      replace R := R.below hb47
      replace X := X.below hb47
      replace Y := Y.below hb47
      replace BB := bl_trans BB hb47
      clear hb47
      go_wp2_with fail
      refine (SameN_yes Q X (by omega) (by omega) rfl).mono ?_
      rintro e w48 ⟨rfl, hb48⟩
      replace Na := Na.below hb48
      replace Nb := Nb.below hb48
      replace S := S.below hb48
      replace T := T.below hb48
      replace Q := Q.below hb48
      replace R := R.below hb48
      replace X := X.below hb48
      replace Y := Y.below hb48
      replace BB := bl_trans BB hb48
      clear hb48
      go_wp2_with fail
      refine (SameN_yes R Y (by omega) (by omega) rfl).mono ?_
      rintro e w49 ⟨rfl, hb49⟩
      replace Na := Na.below hb49
      replace Nb := Nb.below hb49
      replace S := S.below hb49
      replace T := T.below hb49
      replace Q := Q.below hb49
      replace R := R.below hb49
      replace X := X.below hb49
      replace Y := Y.below hb49
      replace BB := bl_trans BB hb49
      clear hb49
      clear S T Q R X Y
      go_wp2_with fail
      refine (trimN Na (by omega)).mono ?_
      rintro e w50 ⟨A50, n50, c50, rfl, T, hb50⟩
      replace Na := Na.below hb50
      replace Nb := Nb.below hb50
      replace BB := bl_trans BB hb50
      clear hb50
      go_wp2_with fail
      refine (trimRN Na (by omega)).mono ?_
      rintro e w51 ⟨A51, n51, c51, rfl, S, hb51⟩
      replace Na := Na.below hb51
      replace Nb := Nb.below hb51
      replace T := T.below hb51
      replace BB := bl_trans BB hb51
      clear hb51
      go_wp2_with fail
      refine (SameN_yes T S (by omega) (by omega) rfl).mono ?_
      rintro e w52 ⟨rfl, hb52⟩
      replace Na := Na.below hb52
      replace Nb := Nb.below hb52
      replace T := T.below hb52
      replace S := S.below hb52
      replace BB := bl_trans BB hb52
      clear hb52
      clear T S
      go_wp2_with fail
      refine (cmpN Na Nb (by omega) (by omega)).mono ?_
      rw [HEQ.out]
      rintro e w53 ⟨rfl, hb53⟩
      replace Na := Na.below hb53
      replace Nb := Nb.below hb53
      replace BB := bl_trans BB hb53
      clear hb53
      go_wp2_with fail
      refine (cmpRN_eq Na Nb (by omega) (by omega) hab).mono ?_
      rw [HEQ.out]
      rintro e w54 ⟨rfl, hb54⟩
      replace Na := Na.below hb54
      replace Nb := Nb.below hb54
      replace BB := bl_trans BB hb54
      clear hb54
      go_wp2_with fail
      refine (addN Na Nb (by omega) (by omega)).mono ?_
      rintro e w55 ⟨A55, n55, c55, rfl, T, hb55⟩
      replace Na := Na.below hb55
      replace Nb := Nb.below hb55
      replace BB := bl_trans BB hb55
      clear hb55
      go_wp2_with fail
      refine (addRN Na Nb (by omega) (by omega)).mono ?_
      rintro e w56 ⟨A56, n56, c56, rfl, S, hb56⟩
      replace Na := Na.below hb56
      replace Nb := Nb.below hb56
      replace T := T.below hb56
      replace BB := bl_trans BB hb56
      clear hb56
      go_wp2_with fail
      refine (SameN_yes T S (by omega) (by omega) rfl).mono ?_
      rintro e w57 ⟨rfl, hb57⟩
      replace Na := Na.below hb57
      replace Nb := Nb.below hb57
      replace T := T.below hb57
      replace S := S.below hb57
      replace BB := bl_trans BB hb57
      clear hb57
      clear T S
      go_wp2_with fail
      refine (mulN Na Nb (by omega) (by omega) (by omega)).mono ?_
      rintro e w58 ⟨A58, n58, c58, rfl, T, hb58⟩
      replace Na := Na.below hb58
      replace Nb := Nb.below hb58
      replace BB := bl_trans BB hb58
      clear hb58
      go_wp2_with fail
      refine (mulRN Na Nb (by omega) (by omega)).mono ?_
      rintro e w59 ⟨A59, n59, c59, rfl, S, hb59⟩
      replace Na := Na.below hb59
      replace Nb := Nb.below hb59
      replace T := T.below hb59
      replace BB := bl_trans BB hb59
      clear hb59
      go_wp2_with fail
      refine (SameN_yes T S (by omega) (by omega) rfl).mono ?_
      rintro e w60 ⟨rfl, hb60⟩
      replace Na := Na.below hb60
      replace Nb := Nb.below hb60
      replace T := T.below hb60
      replace S := S.below hb60
      replace BB := bl_trans BB hb60
      clear hb60
      clear T S
      go_wp2_with fail
      refine (textN Na (by omega)).mono ?_
      rintro e w61 ⟨s61, rfl, hs61, hb61⟩
      replace Na := Na.below hb61
      replace Nb := Nb.below hb61
      replace BB := bl_trans BB hb61
      clear hb61
      go_wp2_with fail
      refine (textRN Na (by omega)).mono ?_
      rintro e w62 ⟨s62, rfl, hs62, hb62⟩
      replace Na := Na.below hb62
      replace Nb := Nb.below hb62
      replace BB := bl_trans BB hb62
      clear hb62
      obtain rfl : s61 = s62 := M.bytes_inj (hs61.trans hs62.symm)
      have hself : (s61.toList == s61.toList) = true := by simp
      go_wp2_with fail
      refine (works_any _).mono ?_
      rintro e w63 ⟨rfl, hb63⟩
      replace BB := bl_trans BB hb63
      clear hb63
      go_wp2_with fail
      go_ret
      exact ⟨rfl, BB⟩
  · by_cases hy : xb = 0
    · go_wp2_with fail
      refine (subN_yes Na Nb (by omega) (by omega) (by omega)).mono ?_
      rintro e w64 ⟨A64, n64, c64, rfl, S, hb64⟩
      replace Na := Na.below hb64
      replace Nb := Nb.below hb64
      replace BB := bl_trans BB hb64
      clear hb64
      go_wp2_with fail
      refine (subRN_yes Na Nb (by omega) (by omega) (by omega)).mono ?_
      rintro e w65 ⟨A65, n65, c65, rfl, T, hb65⟩
      replace Na := Na.below hb65
      replace Nb := Nb.below hb65
      replace S := S.below hb65
      replace BB := bl_trans BB hb65
      clear hb65
      go_wp2_with fail
      refine (divN_zero Na Nb (by omega) (by omega) hy).mono ?_
      rintro e w66 ⟨A66, n66, c66, B66, m66, d66, rfl, Q, R, hb66⟩
      replace Na := Na.below hb66
      replace Nb := Nb.below hb66
      replace S := S.below hb66
      replace T := T.below hb66
      replace BB := bl_trans BB hb66
      clear hb66
      go_wp2_with fail
      refine (divRN_zero Na Nb (by omega) (by omega) hy).mono ?_
      rintro e w67 ⟨A67, n67, c67, B67, m67, d67, rfl, X, Y, hb67⟩
      replace Na := Na.below hb67
      replace Nb := Nb.below hb67
      replace S := S.below hb67
      replace T := T.below hb67
      replace Q := Q.below hb67
      replace R := R.below hb67
      replace BB := bl_trans BB hb67
      clear hb67
      go_wp2_with fail
      refine (SameN_yes S T (by omega) (by omega) rfl).mono ?_
      rintro e w68 ⟨rfl, hb68⟩
      replace Na := Na.below hb68
      replace Nb := Nb.below hb68
      replace S := S.below hb68
      replace T := T.below hb68
      replace Q := Q.below hb68
      replace R := R.below hb68
      replace X := X.below hb68
      replace Y := Y.below hb68
      replace BB := bl_trans BB hb68
      clear hb68
      go_wp2_with fail
      refine (SameN_yes Q X (by omega) (by omega) rfl).mono ?_
      rintro e w69 ⟨rfl, hb69⟩
      replace Na := Na.below hb69
      replace Nb := Nb.below hb69
      replace S := S.below hb69
      replace T := T.below hb69
      replace Q := Q.below hb69
      replace R := R.below hb69
      replace X := X.below hb69
      replace Y := Y.below hb69
      replace BB := bl_trans BB hb69
      clear hb69
      go_wp2_with fail
      refine (SameN_yes R Y (by omega) (by omega) rfl).mono ?_
      rintro e w70 ⟨rfl, hb70⟩
      replace Na := Na.below hb70
      replace Nb := Nb.below hb70
      replace S := S.below hb70
      replace T := T.below hb70
      replace Q := Q.below hb70
      replace R := R.below hb70
      replace X := X.below hb70
      replace Y := Y.below hb70
      replace BB := bl_trans BB hb70
      clear hb70
      clear S T Q R X Y
      go_wp2_with fail
      refine (trimN Na (by omega)).mono ?_
      rintro e w71 ⟨A71, n71, c71, rfl, T, hb71⟩
      replace Na := Na.below hb71
      replace Nb := Nb.below hb71
      replace BB := bl_trans BB hb71
      clear hb71
      go_wp2_with fail
      refine (trimRN Na (by omega)).mono ?_
      rintro e w72 ⟨A72, n72, c72, rfl, S, hb72⟩
      replace Na := Na.below hb72
      replace Nb := Nb.below hb72
      replace T := T.below hb72
      replace BB := bl_trans BB hb72
      clear hb72
      go_wp2_with fail
      refine (SameN_yes T S (by omega) (by omega) rfl).mono ?_
      rintro e w73 ⟨rfl, hb73⟩
      replace Na := Na.below hb73
      replace Nb := Nb.below hb73
      replace T := T.below hb73
      replace S := S.below hb73
      replace BB := bl_trans BB hb73
      clear hb73
      clear T S
      go_wp2_with fail
      refine (cmpN Na Nb (by omega) (by omega)).mono ?_
      rw [cmpV_gt hab]
      rintro e w74 ⟨rfl, hb74⟩
      replace Na := Na.below hb74
      replace Nb := Nb.below hb74
      replace BB := bl_trans BB hb74
      clear hb74
      go_wp2_with fail
      refine (cmpRN_gt Na Nb (by omega) (by omega) hab).mono ?_
      rw [cmpV_gt hab]
      rintro e w75 ⟨rfl, hb75⟩
      replace Na := Na.below hb75
      replace Nb := Nb.below hb75
      replace BB := bl_trans BB hb75
      clear hb75
      go_wp2_with fail
      refine (addN Na Nb (by omega) (by omega)).mono ?_
      rintro e w76 ⟨A76, n76, c76, rfl, T, hb76⟩
      replace Na := Na.below hb76
      replace Nb := Nb.below hb76
      replace BB := bl_trans BB hb76
      clear hb76
      go_wp2_with fail
      refine (addRN Na Nb (by omega) (by omega)).mono ?_
      rintro e w77 ⟨A77, n77, c77, rfl, S, hb77⟩
      replace Na := Na.below hb77
      replace Nb := Nb.below hb77
      replace T := T.below hb77
      replace BB := bl_trans BB hb77
      clear hb77
      go_wp2_with fail
      refine (SameN_yes T S (by omega) (by omega) rfl).mono ?_
      rintro e w78 ⟨rfl, hb78⟩
      replace Na := Na.below hb78
      replace Nb := Nb.below hb78
      replace T := T.below hb78
      replace S := S.below hb78
      replace BB := bl_trans BB hb78
      clear hb78
      clear T S
      go_wp2_with fail
      refine (mulN Na Nb (by omega) (by omega) (by omega)).mono ?_
      rintro e w79 ⟨A79, n79, c79, rfl, T, hb79⟩
      replace Na := Na.below hb79
      replace Nb := Nb.below hb79
      replace BB := bl_trans BB hb79
      clear hb79
      go_wp2_with fail
      refine (mulRN Na Nb (by omega) (by omega)).mono ?_
      rintro e w80 ⟨A80, n80, c80, rfl, S, hb80⟩
      replace Na := Na.below hb80
      replace Nb := Nb.below hb80
      replace T := T.below hb80
      replace BB := bl_trans BB hb80
      clear hb80
      go_wp2_with fail
      refine (SameN_yes T S (by omega) (by omega) rfl).mono ?_
      rintro e w81 ⟨rfl, hb81⟩
      replace Na := Na.below hb81
      replace Nb := Nb.below hb81
      replace T := T.below hb81
      replace S := S.below hb81
      replace BB := bl_trans BB hb81
      clear hb81
      clear T S
      go_wp2_with fail
      refine (textN Na (by omega)).mono ?_
      rintro e w82 ⟨s82, rfl, hs82, hb82⟩
      replace Na := Na.below hb82
      replace Nb := Nb.below hb82
      replace BB := bl_trans BB hb82
      clear hb82
      go_wp2_with fail
      refine (textRN Na (by omega)).mono ?_
      rintro e w83 ⟨s83, rfl, hs83, hb83⟩
      replace Na := Na.below hb83
      replace Nb := Nb.below hb83
      replace BB := bl_trans BB hb83
      clear hb83
      obtain rfl : s82 = s83 := M.bytes_inj (hs82.trans hs83.symm)
      have hself : (s82.toList == s82.toList) = true := by simp
      go_wp2_with fail
      refine (works_any _).mono ?_
      rintro e w84 ⟨rfl, hb84⟩
      replace BB := bl_trans BB hb84
      clear hb84
      go_wp2_with fail
      go_ret
      exact ⟨rfl, BB⟩
    · go_wp2_with fail
      refine (subN_yes Na Nb (by omega) (by omega) (by omega)).mono ?_
      rintro e w85 ⟨A85, n85, c85, rfl, S, hb85⟩
      replace Na := Na.below hb85
      replace Nb := Nb.below hb85
      replace BB := bl_trans BB hb85
      clear hb85
      go_wp2_with fail
      refine (subRN_yes Na Nb (by omega) (by omega) (by omega)).mono ?_
      rintro e w86 ⟨A86, n86, c86, rfl, T, hb86⟩
      replace Na := Na.below hb86
      replace Nb := Nb.below hb86
      replace S := S.below hb86
      replace BB := bl_trans BB hb86
      clear hb86
      go_wp2_with fail
      refine (divN Na Nb (by omega) (by omega) hy).mono ?_
      rintro e w87 ⟨A87, n87, c87, B87, m87, d87, rfl, Q, R, hb87⟩
      replace Na := Na.below hb87
      replace Nb := Nb.below hb87
      replace S := S.below hb87
      replace T := T.below hb87
      replace BB := bl_trans BB hb87
      clear hb87
      go_wp2_with fail
      refine (divRN Na Nb (by omega) (by omega) hy).mono ?_
      rintro e w88 ⟨A88, n88, c88, B88, m88, d88, rfl, X, Y, hb88⟩
      replace Na := Na.below hb88
      replace Nb := Nb.below hb88
      replace S := S.below hb88
      replace T := T.below hb88
      replace Q := Q.below hb88
      replace R := R.below hb88
      replace BB := bl_trans BB hb88
      clear hb88
      go_wp2_with fail
      refine (SameN_yes S T (by omega) (by omega) rfl).mono ?_
      rintro e w89 ⟨rfl, hb89⟩
      replace Na := Na.below hb89
      replace Nb := Nb.below hb89
      replace S := S.below hb89
      replace T := T.below hb89
      replace Q := Q.below hb89
      replace R := R.below hb89
      replace X := X.below hb89
      replace Y := Y.below hb89
      replace BB := bl_trans BB hb89
      clear hb89
      go_wp2_with fail
      refine (SameN_yes Q X (by omega) (by omega) rfl).mono ?_
      rintro e w90 ⟨rfl, hb90⟩
      replace Na := Na.below hb90
      replace Nb := Nb.below hb90
      replace S := S.below hb90
      replace T := T.below hb90
      replace Q := Q.below hb90
      replace R := R.below hb90
      replace X := X.below hb90
      replace Y := Y.below hb90
      replace BB := bl_trans BB hb90
      clear hb90
      go_wp2_with fail
      refine (SameN_yes R Y (by omega) (by omega) rfl).mono ?_
      rintro e w91 ⟨rfl, hb91⟩
      replace Na := Na.below hb91
      replace Nb := Nb.below hb91
      replace S := S.below hb91
      replace T := T.below hb91
      replace Q := Q.below hb91
      replace R := R.below hb91
      replace X := X.below hb91
      replace Y := Y.below hb91
      replace BB := bl_trans BB hb91
      clear hb91
      clear S T Q R X Y
      go_wp2_with fail
      refine (trimN Na (by omega)).mono ?_
      rintro e w92 ⟨A92, n92, c92, rfl, T, hb92⟩
      replace Na := Na.below hb92
      replace Nb := Nb.below hb92
      replace BB := bl_trans BB hb92
      clear hb92
      go_wp2_with fail
      refine (trimRN Na (by omega)).mono ?_
      rintro e w93 ⟨A93, n93, c93, rfl, S, hb93⟩
      replace Na := Na.below hb93
      replace Nb := Nb.below hb93
      replace T := T.below hb93
      replace BB := bl_trans BB hb93
      clear hb93
      go_wp2_with fail
      refine (SameN_yes T S (by omega) (by omega) rfl).mono ?_
      rintro e w94 ⟨rfl, hb94⟩
      replace Na := Na.below hb94
      replace Nb := Nb.below hb94
      replace T := T.below hb94
      replace S := S.below hb94
      replace BB := bl_trans BB hb94
      clear hb94
      clear T S
      go_wp2_with fail
      refine (cmpN Na Nb (by omega) (by omega)).mono ?_
      rw [cmpV_gt hab]
      rintro e w95 ⟨rfl, hb95⟩
      replace Na := Na.below hb95
      replace Nb := Nb.below hb95
      replace BB := bl_trans BB hb95
      clear hb95
      go_wp2_with fail
      refine (cmpRN_gt Na Nb (by omega) (by omega) hab).mono ?_
      rw [cmpV_gt hab]
      rintro e w96 ⟨rfl, hb96⟩
      replace Na := Na.below hb96
      replace Nb := Nb.below hb96
      replace BB := bl_trans BB hb96
      clear hb96
      go_wp2_with fail
      refine (addN Na Nb (by omega) (by omega)).mono ?_
      rintro e w97 ⟨A97, n97, c97, rfl, T, hb97⟩
      replace Na := Na.below hb97
      replace Nb := Nb.below hb97
      replace BB := bl_trans BB hb97
      clear hb97
      go_wp2_with fail
      refine (addRN Na Nb (by omega) (by omega)).mono ?_
      rintro e w98 ⟨A98, n98, c98, rfl, S, hb98⟩
      replace Na := Na.below hb98
      replace Nb := Nb.below hb98
      replace T := T.below hb98
      replace BB := bl_trans BB hb98
      clear hb98
      go_wp2_with fail
      refine (SameN_yes T S (by omega) (by omega) rfl).mono ?_
      rintro e w99 ⟨rfl, hb99⟩
      replace Na := Na.below hb99
      replace Nb := Nb.below hb99
      replace T := T.below hb99
      replace S := S.below hb99
      replace BB := bl_trans BB hb99
      clear hb99
      clear T S
      go_wp2_with fail
      refine (mulN Na Nb (by omega) (by omega) (by omega)).mono ?_
      rintro e w100 ⟨A100, n100, c100, rfl, T, hb100⟩
      replace Na := Na.below hb100
      replace Nb := Nb.below hb100
      replace BB := bl_trans BB hb100
      clear hb100
      go_wp2_with fail
      refine (mulRN Na Nb (by omega) (by omega)).mono ?_
      rintro e w101 ⟨A101, n101, c101, rfl, S, hb101⟩
      replace Na := Na.below hb101
      replace Nb := Nb.below hb101
      replace T := T.below hb101
      replace BB := bl_trans BB hb101
      clear hb101
      go_wp2_with fail
      refine (SameN_yes T S (by omega) (by omega) rfl).mono ?_
      rintro e w102 ⟨rfl, hb102⟩
      replace Na := Na.below hb102
      replace Nb := Nb.below hb102
      replace T := T.below hb102
      replace S := S.below hb102
      replace BB := bl_trans BB hb102
      clear hb102
      clear T S
      go_wp2_with fail
      refine (textN Na (by omega)).mono ?_
      rintro e w103 ⟨s103, rfl, hs103, hb103⟩
      replace Na := Na.below hb103
      replace Nb := Nb.below hb103
      replace BB := bl_trans BB hb103
      clear hb103
      go_wp2_with fail
      refine (textRN Na (by omega)).mono ?_
      rintro e w104 ⟨s104, rfl, hs104, hb104⟩
      replace Na := Na.below hb104
      replace Nb := Nb.below hb104
      replace BB := bl_trans BB hb104
      clear hb104
      obtain rfl : s103 = s104 := M.bytes_inj (hs103.trans hs104.symm)
      have hself : (s103.toList == s103.toList) = true := by simp
      go_wp2_with fail
      refine (works_any _).mono ?_
      rintro e w105 ⟨rfl, hb105⟩
      replace BB := bl_trans BB hb105
      clear hb105
      go_wp2_with fail
      go_ret
      exact ⟨rfl, BB⟩

end Go.Proofs.Ytbcceopgmkmbfaa
