/- litmuslaw01.NatDivides answers true at every input, and changes nothing that was there: its walk. -/
import Derived.Test.YtbcceopgmkmbfaaWKara
namespace Go.Proofs.Ytbcceopgmkmbfaa
open Go.RowKit
set_option linter.unusedVariables false

set_option maxRecDepth 100000 in
set_option maxHeartbeats 4000000 in
theorem natDivides_walk (A : Option Addr) (la ca : Nat) (ya : List Nat) (B : Option Addr) (lb cb : Nat) (yb : List Nat) (C : Option Addr) (lc cc : Nat) (yc : List Nat) (w : World) (ha : Rd w A la ca ya) (ga : la ≤ maxLen) (hb : Rd w B lb cb yb) (gb : lb ≤ maxLen) (hc : Rd w C lc cc yc) (gc : lc ≤ maxLen) :
    Calls Try.prog 7 #[.slice A la ca, .slice B lb cb, .slice C lc cc] w fun e w' => e = .returned (.bool true) ∧ Below w.heap.size w w' := by
  have Ha := Lib.hid ha
  have La := Lib.hid ga
  have Hb := Lib.hid hb
  have Lb := Lib.hid gb
  have Hc := Lib.hid hc
  have Lc := Lib.hid gc
  clear ha ga hb gb hc gc
  go_enter Try.func7, Try.ntmps7
  go_wp2_with fail
  refine (works_any _).mono ?_
  rintro e w0 ⟨rfl, BB⟩
  replace Ha := Lib.hid (Ha.out.below BB)
  replace Hb := Lib.hid (Hb.out.below BB)
  replace Hc := Lib.hid (Hc.out.below BB)
  go_wp2_with fail
  refine (fewN Ha.out La.out 40 (by omega) (by omega)).mono ?_
  rintro e w' ⟨⟨na, xa, rfl, Na⟩, rfl⟩
  replace Na : Nm _ _ _ _ _ 40 := Na
  go_wp2_with fail
  refine (fewN Hb.out Lb.out 40 (by omega) (by omega)).mono ?_
  rintro e w' ⟨⟨nb, xb, rfl, Nb⟩, rfl⟩
  replace Nb : Nm _ _ _ _ _ 40 := Nb
  go_wp2_with fail
  refine (fewN Hc.out Lc.out 40 (by omega) (by omega)).mono ?_
  rintro e w' ⟨⟨nc, xc, rfl, Nc⟩, rfl⟩
  replace Nc : Nm _ _ _ _ _ 40 := Nc
  clear Ha La Hb Lb Hc Lc
  by_cases hb0 : xb = 0
  · go_wp2_with fail
    refine (divN_zero Na Nb (by omega) (by omega) hb0).mono ?_
    rintro e w1 ⟨A1, n1, c1, B1, m1, d1, rfl, Q, R, hb1⟩
    replace Na := Na.below hb1
    replace Nb := Nb.below hb1
    replace Nc := Nc.below hb1
    replace BB := bl_trans BB hb1
    clear hb1
    obtain rfl : n1 = 0 := by have := Q.len; rw [M.lims_zero] at this; exact this.symm
    obtain rfl : m1 = 0 := by have := R.len; rw [M.lims_zero] at this; exact this.symm
    clear Q R
    go_wp2_with fail
    refine (trimN Nb (by omega)).mono ?_
    rw [hb0]
    rintro e w2 ⟨A2, n2, c2, rfl, T, hb2⟩
    replace Na := Na.below hb2
    replace Nb := Nb.below hb2
    replace Nc := Nc.below hb2
    replace BB := bl_trans BB hb2
    clear hb2
    obtain rfl : n2 = 0 := by have := T.len; rw [M.lims_zero] at this; exact this.symm
    clear T
    go_wp2_with fail
    go_ret
    exact ⟨rfl, BB⟩
  · have hpos : 0 < xb := Nat.pos_of_ne_zero hb0
    have HLT := Lib.hid (Nat.mod_lt xa hpos)
    have HX := Lib.hid (show (xa * xb + xc % xb) / xb = xa by
      rw [Nat.mul_comm, Nat.mul_add_div hpos, Nat.div_eq_of_lt (Nat.mod_lt _ hpos), Nat.add_zero])
    have HY := Lib.hid (show (xa * xb + xc % xb) % xb = xc % xb by
      rw [Nat.mul_comm, Nat.mul_add_mod, Nat.mod_mod])
    have HB0 := Lib.hid hb0
    clear hb0 hpos
    go_wp2_with fail
    refine (divN Na Nb (by omega) (by omega) HB0.out).mono ?_
    rintro e w3 ⟨A3, n3, c3, B3, m3, d3, rfl, Q, R, hb3⟩
    replace Na := Na.below hb3
    replace Nb := Nb.below hb3
    replace Nc := Nc.below hb3
    replace BB := bl_trans BB hb3
    clear hb3
    go_wp2_with fail
    refine (trimN Nb (by omega)).mono ?_
    rintro e w4 ⟨A4, n4, c4, rfl, T, hb4⟩
    replace Na := Na.below hb4
    replace Nb := Nb.below hb4
    replace Nc := Nc.below hb4
    replace Q := Q.below hb4
    replace R := R.below hb4
    replace BB := bl_trans BB hb4
    clear hb4
    have hlen : ((n4 : Int) == 0) = false := by
      have h1 := T.len
      have h2 : 0 < (M.lims xb).length := List.length_pos_iff.2 (fun h => HB0.out (M.lims_eq_nil.1 h))
      simp
      omega
    clear T
    go_wp2_with fail
    refine (cmpN R.nm Nb (by omega) (by omega)).mono ?_
    rw [cmpV_lt HLT.out]
    rintro e w5 ⟨rfl, hb5⟩
    replace Na := Na.below hb5
    replace Nb := Nb.below hb5
    replace Nc := Nc.below hb5
    replace Q := Q.below hb5
    replace R := R.below hb5
    replace BB := bl_trans BB hb5
    clear hb5
    go_wp2_with fail
    refine (mulN40 Q.nm Nb (by omega) (by omega)).mono ?_
    rintro e w6 ⟨A6, n6, c6, rfl, P, hb6⟩
    replace Na := Na.below hb6
    replace Nb := Nb.below hb6
    replace Nc := Nc.below hb6
    replace Q := Q.below hb6
    replace R := R.below hb6
    replace BB := bl_trans BB hb6
    clear hb6
    go_wp2_with fail
    refine (addN P.nm R.nm (by omega) (by omega)).mono ?_
    rintro e w7 ⟨A7, n7, c7, rfl, S, hb7⟩
    replace Na := Na.below hb7
    replace Nb := Nb.below hb7
    replace Nc := Nc.below hb7
    replace Q := Q.below hb7
    replace R := R.below hb7
    replace P := P.below hb7
    replace BB := bl_trans BB hb7
    clear hb7
    clear P Q R
    go_wp2_with fail
    refine (trimN Na (by omega)).mono ?_
    rintro e w8 ⟨A8, n8, c8, rfl, T, hb8⟩
    replace Na := Na.below hb8
    replace Nb := Nb.below hb8
    replace Nc := Nc.below hb8
    replace S := S.below hb8
    replace BB := bl_trans BB hb8
    clear hb8
    go_wp2_with fail
    refine (sameN_yes S T (by omega) (by omega) (Nat.div_add_mod' _ _)).mono ?_
    rintro e w9 ⟨rfl, hb9⟩
    replace Na := Na.below hb9
    replace Nb := Nb.below hb9
    replace Nc := Nc.below hb9
    replace S := S.below hb9
    replace T := T.below hb9
    replace BB := bl_trans BB hb9
    clear hb9
    clear S
    go_wp2_with fail
    refine (divN Nc Nb (by omega) (by omega) HB0.out).mono ?_
    rintro e w10 ⟨A10, n10, c10, B10, m10, d10, rfl, Q, L, hb10⟩
    replace Na := Na.below hb10
    replace Nb := Nb.below hb10
    replace Nc := Nc.below hb10
    replace T := T.below hb10
    replace BB := bl_trans BB hb10
    clear hb10
    clear Q
    go_wp2_with fail
    refine (mulN40 Na Nb (by omega) (by omega)).mono ?_
    rintro e w11 ⟨A11, n11, c11, rfl, P, hb11⟩
    replace Na := Na.below hb11
    replace Nb := Nb.below hb11
    replace Nc := Nc.below hb11
    replace T := T.below hb11
    replace L := L.below hb11
    replace BB := bl_trans BB hb11
    clear hb11
    go_wp2_with fail
    refine (addN P.nm L.nm (by omega) (by omega)).mono ?_
    rintro e w12 ⟨A12, n12, c12, rfl, S, hb12⟩
    replace Na := Na.below hb12
    replace Nb := Nb.below hb12
    replace Nc := Nc.below hb12
    replace T := T.below hb12
    replace L := L.below hb12
    replace P := P.below hb12
    replace BB := bl_trans BB hb12
    clear hb12
    clear P
    go_wp2_with fail
    refine (divN S.nm Nb (by omega) (by omega) HB0.out).mono ?_
    rintro e w13 ⟨A13, n13, c13, B13, m13, d13, rfl, X, Y, hb13⟩
    replace Na := Na.below hb13
    replace Nb := Nb.below hb13
    replace Nc := Nc.below hb13
    replace T := T.below hb13
    replace L := L.below hb13
    replace S := S.below hb13
    replace BB := bl_trans BB hb13
    clear hb13
    clear S
    clear T
    go_wp2_with fail
    refine (trimN Na (by omega)).mono ?_
    rintro e w14 ⟨A14, n14, c14, rfl, T, hb14⟩
    replace Na := Na.below hb14
    replace Nb := Nb.below hb14
    replace Nc := Nc.below hb14
    replace L := L.below hb14
    replace X := X.below hb14
    replace Y := Y.below hb14
    replace BB := bl_trans BB hb14
    clear hb14
    go_wp2_with fail
    refine (sameN_yes X T (by omega) (by omega) HX.out).mono ?_
    rintro e w15 ⟨rfl, hb15⟩
    replace Na := Na.below hb15
    replace Nb := Nb.below hb15
    replace Nc := Nc.below hb15
    replace L := L.below hb15
    replace X := X.below hb15
    replace Y := Y.below hb15
    replace T := T.below hb15
    replace BB := bl_trans BB hb15
    clear hb15
    clear X T
    go_wp2_with fail
    refine (sameN_yes Y L (by omega) (by omega) HY.out).mono ?_
    rintro e w16 ⟨rfl, hb16⟩
    replace Na := Na.below hb16
    replace Nb := Nb.below hb16
    replace Nc := Nc.below hb16
    replace L := L.below hb16
    replace Y := Y.below hb16
    replace BB := bl_trans BB hb16
    clear hb16
    go_wp2_with fail
    go_ret
    exact ⟨rfl, BB⟩

end Go.Proofs.Ytbcceopgmkmbfaa
