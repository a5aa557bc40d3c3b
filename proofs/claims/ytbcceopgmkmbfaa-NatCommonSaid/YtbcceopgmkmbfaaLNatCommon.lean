/- litmuslaw01.NatCommon answers true at every input, and changes nothing that was there: its walk. -/
import Derived.Test.YtbcceopgmkmbfaaLDiv
namespace Go.Proofs.Ytbcceopgmkmbfaa
open Go.RowKit
set_option linter.unusedVariables false

set_option maxRecDepth 100000 in
set_option maxHeartbeats 4000000 in
theorem natCommon_walk (A : Option Addr) (la ca : Nat) (ya : List Nat) (B : Option Addr) (lb cb : Nat) (yb : List Nat) (C : Option Addr) (lc cc : Nat) (yc : List Nat) (w : World) (ha : Rd w A la ca ya) (ga : la ≤ maxLen) (hb : Rd w B lb cb yb) (gb : lb ≤ maxLen) (hc : Rd w C lc cc yc) (gc : lc ≤ maxLen) :
    Calls Try.prog 9 #[.slice A la ca, .slice B lb cb, .slice C lc cc] w fun e w' => e = .returned (.bool true) ∧ Below w.heap.size w w' := by
  have Ha := Lib.hid ha
  have La := Lib.hid ga
  have Hb := Lib.hid hb
  have Lb := Lib.hid gb
  have Hc := Lib.hid hc
  have Lc := Lib.hid gc
  clear ha ga hb gb hc gc
  go_enter Try.func9, Try.ntmps9
  go_wp2_with fail
  refine (works_any _).mono ?_
  rintro e w0 ⟨rfl, BB⟩
  replace Ha := Lib.hid (Ha.out.below BB)
  replace Hb := Lib.hid (Hb.out.below BB)
  replace Hc := Lib.hid (Hc.out.below BB)
  go_wp2_with fail
  refine (fewN Ha.out La.out 8 (by omega) (by omega)).mono ?_
  rintro e w' ⟨⟨na, xa, rfl, Na⟩, rfl⟩
  replace Na : Nm _ _ _ _ _ 8 := Na
  go_wp2_with fail
  refine (fewN Hb.out Lb.out 8 (by omega) (by omega)).mono ?_
  rintro e w' ⟨⟨nb, xb, rfl, Nb⟩, rfl⟩
  replace Nb : Nm _ _ _ _ _ 8 := Nb
  go_wp2_with fail
  refine (fewN Hc.out Lc.out 8 (by omega) (by omega)).mono ?_
  rintro e w' ⟨⟨nc, xc, rfl, Nc⟩, rfl⟩
  replace Nc : Nm _ _ _ _ _ 8 := Nc
  clear Ha La Hb Lb Hc Lc
  go_wp2_with fail
  refine (gcdN Na Nb (by omega) (by omega)).mono ?_
  rintro e w1 ⟨A1, n1, c1, rfl, G, hb1⟩
  replace Na := Na.below hb1
  replace Nb := Nb.below hb1
  replace Nc := Nc.below hb1
  replace BB := bl_trans BB hb1
  clear hb1
  go_wp2_with fail
  refine (gcdN Nb Na (by omega) (by omega)).mono ?_
  rintro e w2 ⟨A2, n2, c2, rfl, P, hb2⟩
  replace Na := Na.below hb2
  replace Nb := Nb.below hb2
  replace Nc := Nc.below hb2
  replace G := G.below hb2
  replace BB := bl_trans BB hb2
  clear hb2
  go_wp2_with fail
  refine (sameN_yes G P (by omega) (by omega) (Nat.gcd_comm _ _)).mono ?_
  rintro e w3 ⟨rfl, hb3⟩
  replace Na := Na.below hb3
  replace Nb := Nb.below hb3
  replace Nc := Nc.below hb3
  replace G := G.below hb3
  replace P := P.below hb3
  replace BB := bl_trans BB hb3
  clear hb3
  clear P
  go_wp2_with fail
  refine (mulN Na Nc (by omega) (by omega) (by omega)).mono ?_
  rintro e w4 ⟨A4, n4, c4, rfl, P, hb4⟩
  replace Na := Na.below hb4
  replace Nb := Nb.below hb4
  replace Nc := Nc.below hb4
  replace G := G.below hb4
  replace BB := bl_trans BB hb4
  clear hb4
  go_wp2_with fail
  refine (mulN Nb Nc (by omega) (by omega) (by omega)).mono ?_
  rintro e w5 ⟨A5, n5, c5, rfl, Q, hb5⟩
  replace Na := Na.below hb5
  replace Nb := Nb.below hb5
  replace Nc := Nc.below hb5
  replace G := G.below hb5
  replace P := P.below hb5
  replace BB := bl_trans BB hb5
  clear hb5
  go_wp2_with fail
  refine (gcdN P.nm Q.nm (by omega) (by omega)).mono ?_
  rintro e w6 ⟨A6, n6, c6, rfl, U, hb6⟩
  replace Na := Na.below hb6
  replace Nb := Nb.below hb6
  replace Nc := Nc.below hb6
  replace G := G.below hb6
  replace P := P.below hb6
  replace Q := Q.below hb6
  replace BB := bl_trans BB hb6
  clear hb6
  clear P Q
  go_wp2_with fail
  refine (mulN G.nm Nc (by omega) (by omega) (by omega)).mono ?_
  rintro e w7 ⟨A7, n7, c7, rfl, V, hb7⟩
  replace Na := Na.below hb7
  replace Nb := Nb.below hb7
  replace Nc := Nc.below hb7
  replace G := G.below hb7
  replace U := U.below hb7
  replace BB := bl_trans BB hb7
  clear hb7
  go_wp2_with fail
  refine (sameN_yes U V (by omega) (by omega) (Nat.gcd_mul_right _ _ _)).mono ?_
  rintro e w8 ⟨rfl, hb8⟩
  replace Na := Na.below hb8
  replace Nb := Nb.below hb8
  replace Nc := Nc.below hb8
  replace G := G.below hb8
  replace U := U.below hb8
  replace V := V.below hb8
  replace BB := bl_trans BB hb8
  clear hb8
  clear U V
  go_wp2_with fail
  refine (gcdN Na (nilN _) (by omega) (by omega)).mono ?_
  rintro e w9 ⟨A9, n9, c9, rfl, P, hb9⟩
  replace Na := Na.below hb9
  replace Nb := Nb.below hb9
  replace Nc := Nc.below hb9
  replace G := G.below hb9
  replace BB := bl_trans BB hb9
  clear hb9
  go_wp2_with fail
  refine (trimN Na (by omega)).mono ?_
  rintro e w10 ⟨A10, n10, c10, rfl, T, hb10⟩
  replace Na := Na.below hb10
  replace Nb := Nb.below hb10
  replace Nc := Nc.below hb10
  replace G := G.below hb10
  replace P := P.below hb10
  replace BB := bl_trans BB hb10
  clear hb10
  go_wp2_with fail
  refine (sameN_yes P T (by omega) (by omega) (Nat.gcd_zero_right _)).mono ?_
  rintro e w11 ⟨rfl, hb11⟩
  replace Na := Na.below hb11
  replace Nb := Nb.below hb11
  replace Nc := Nc.below hb11
  replace G := G.below hb11
  replace P := P.below hb11
  replace T := T.below hb11
  replace BB := bl_trans BB hb11
  clear hb11
  clear P T
  by_cases hG0 : Nat.gcd xa xb = 0
  · have ha0 : xa = 0 := Nat.eq_zero_of_gcd_eq_zero_left hG0
    have hb0 : xb = 0 := Nat.eq_zero_of_gcd_eq_zero_right hG0
    have hlen := G.len
    rw [hG0, M.lims_zero] at hlen
    obtain rfl := hlen
    clear G hG0
    go_wp2_with fail
    refine (trimN Na (by omega)).mono ?_
    rw [ha0]
    rintro e w12 ⟨A12, n12, c12, rfl, T, hb12⟩
    replace Na := Na.below hb12
    replace Nb := Nb.below hb12
    replace Nc := Nc.below hb12
    replace BB := bl_trans BB hb12
    clear hb12
    obtain rfl : n12 = 0 := by have := T.len; rw [M.lims_zero] at this; exact this.symm
    clear T
    go_wp2_with fail
    refine (trimN Nb (by omega)).mono ?_
    rw [hb0]
    rintro e w13 ⟨A13, n13, c13, rfl, T, hb13⟩
    replace Na := Na.below hb13
    replace Nb := Nb.below hb13
    replace Nc := Nc.below hb13
    replace BB := bl_trans BB hb13
    clear hb13
    obtain rfl : n13 = 0 := by have := T.len; rw [M.lims_zero] at this; exact this.symm
    clear T
    go_wp2_with fail
    go_ret
    exact ⟨rfl, BB⟩
  · have hlen : ((n1 : Int) == 0) = false := by
      have h1 := G.len
      have h2 : 0 < (M.lims (Nat.gcd xa xb)).length := List.length_pos_iff.2 (fun h => hG0 (M.lims_eq_nil.1 h))
      simp
      omega
    have hma : xa % Nat.gcd xa xb = 0 := Nat.mod_eq_zero_of_dvd (Nat.gcd_dvd_left _ _)
    have hmb : xb % Nat.gcd xa xb = 0 := Nat.mod_eq_zero_of_dvd (Nat.gcd_dvd_right _ _)
    have HG1 := Lib.hid (show Nat.gcd (xa / Nat.gcd xa xb) (xb / Nat.gcd xa xb) = 1 by
      rw [Nat.gcd_div (Nat.gcd_dvd_left _ _) (Nat.gcd_dvd_right _ _)]
      exact Nat.div_self (Nat.pos_of_ne_zero hG0))
    have HG0 := Lib.hid hG0
    have HMA := Lib.hid hma
    have HMB := Lib.hid hmb
    clear hG0 hma hmb
    go_wp2_with fail
    refine (divN Na G.nm (by omega) (by omega) HG0.out).mono ?_
    rw [HMA.out]
    rintro e w14 ⟨A14, n14, c14, B14, m14, d14, rfl, X, R1, hb14⟩
    replace Na := Na.below hb14
    replace Nb := Nb.below hb14
    replace Nc := Nc.below hb14
    replace G := G.below hb14
    replace BB := bl_trans BB hb14
    clear hb14
    obtain rfl : m14 = 0 := by have := R1.len; rw [M.lims_zero] at this; exact this.symm
    clear R1
    go_wp2_with fail
    refine (divN Nb G.nm (by omega) (by omega) HG0.out).mono ?_
    rw [HMB.out]
    rintro e w15 ⟨A15, n15, c15, B15, m15, d15, rfl, Y, R2, hb15⟩
    replace Na := Na.below hb15
    replace Nb := Nb.below hb15
    replace Nc := Nc.below hb15
    replace G := G.below hb15
    replace X := X.below hb15
    replace BB := bl_trans BB hb15
    clear hb15
    obtain rfl : m15 = 0 := by have := R2.len; rw [M.lims_zero] at this; exact this.symm
    clear R2
    go_wp2_with fail
    refine (gcdN X.nm Y.nm (by omega) (by omega)).mono ?_
    rw [HG1.out]
    rintro e w16 ⟨A16, n16, c16, rfl, P, hb16⟩
    replace Na := Na.below hb16
    replace Nb := Nb.below hb16
    replace Nc := Nc.below hb16
    replace G := G.below hb16
    replace X := X.below hb16
    replace Y := Y.below hb16
    replace BB := bl_trans BB hb16
    clear hb16
    go_wp2_with fail
    refine (sameN_yes (P.alloc _) (litT1 _ 1 1 (by decide) (by decide) rfl) (by omega) (by omega) rfl).mono ?_
    rintro e w17 ⟨rfl, hb17⟩
    replace hb17 := bl_trans (bl_alloc _ _) hb17
    replace Na := Na.below hb17
    replace Nb := Nb.below hb17
    replace Nc := Nc.below hb17
    replace G := G.below hb17
    replace X := X.below hb17
    replace Y := Y.below hb17
    replace P := P.below hb17
    replace BB := bl_trans BB hb17
    clear hb17
    go_wp2_with fail
    go_ret
    exact ⟨rfl, BB⟩

end Go.Proofs.Ytbcceopgmkmbfaa
