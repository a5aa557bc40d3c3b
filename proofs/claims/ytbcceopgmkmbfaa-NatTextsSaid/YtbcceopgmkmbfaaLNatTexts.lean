/- litmuslaw01.NatTexts answers true at every input, and changes nothing that was there: its walk. -/
import Derived.Test.YtbcceopgmkmbfaaLText
namespace Go.Proofs.Ytbcceopgmkmbfaa
open Go.RowKit
set_option linter.unusedVariables false

set_option maxRecDepth 100000 in
set_option maxHeartbeats 4000000 in
theorem natTexts_walk (A : Option Addr) (la ca : Nat) (ya : List Nat) (B : Option Addr) (lb cb : Nat) (yb : List Nat) (w : World) (ha : Rd w A la ca ya) (ga : la ≤ maxLen) (hb : Rd w B lb cb yb) (gb : lb ≤ maxLen) :
    Calls Try.prog 10 #[.slice A la ca, .slice B lb cb] w fun e w' => e = .returned (.bool true) ∧ Below w.heap.size w w' := by
  have Ha := Lib.hid ha
  have La := Lib.hid ga
  have Hb := Lib.hid hb
  have Lb := Lib.hid gb
  clear ha ga hb gb
  go_enter Try.func10, Try.ntmps10
  go_wp2_with fail
  refine (works_any _).mono ?_
  rintro e w0 ⟨rfl, BB⟩
  replace Ha := Lib.hid (Ha.out.below BB)
  replace Hb := Lib.hid (Hb.out.below BB)
  go_wp2_with fail
  refine (fewN Ha.out La.out 30 (by omega) (by omega)).mono ?_
  rintro e w' ⟨⟨na, xa, rfl, Na⟩, rfl⟩
  replace Na : Nm _ _ _ _ _ 30 := Na
  go_wp2_with fail
  refine (fewN Hb.out Lb.out 30 (by omega) (by omega)).mono ?_
  rintro e w' ⟨⟨nb, xb, rfl, Nb⟩, rfl⟩
  replace Nb : Nm _ _ _ _ _ 30 := Nb
  clear Ha La Hb Lb
  go_wp2_with fail
  refine (textN Na (by omega)).mono ?_
  rintro e w1 ⟨s1, rfl, hs1, hb1⟩
  replace Na := Na.below hb1
  replace Nb := Nb.below hb1
  replace BB := bl_trans BB hb1
  clear hb1
  have hsz1 : s1.size ≤ 1048576 := by have := txt_size hs1 Na.lt; omega
  go_wp2_with fail
  refine (parseN hs1 hsz1 Na.lt).mono ?_
  rintro e w2 ⟨A2, n2, c2, rfl, X, hb2⟩
  replace Na := Na.below hb2
  replace Nb := Nb.below hb2
  replace BB := bl_trans BB hb2
  clear hb2
  go_wp2_with fail
  refine (trimN Na (by omega)).mono ?_
  rintro e w3 ⟨A3, n3, c3, rfl, T, hb3⟩
  replace Na := Na.below hb3
  replace Nb := Nb.below hb3
  replace X := X.below hb3
  replace BB := bl_trans BB hb3
  clear hb3
  go_wp2_with fail
  refine (sameN_yes X T (by omega) (by omega) rfl).mono ?_
  rintro e w4 ⟨rfl, hb4⟩
  replace Na := Na.below hb4
  replace Nb := Nb.below hb4
  replace X := X.below hb4
  replace T := T.below hb4
  replace BB := bl_trans BB hb4
  clear hb4
  clear T
  go_wp2_with fail
  refine (textN Nb (by omega)).mono ?_
  rintro e w5 ⟨s5, rfl, hs5, hb5⟩
  replace Na := Na.below hb5
  replace Nb := Nb.below hb5
  replace X := X.below hb5
  replace BB := bl_trans BB hb5
  clear hb5
  by_cases hab : xa = xb
  · subst hab
    obtain rfl : s1 = s5 := M.bytes_inj (hs1.trans hs5.symm)
    have hself : (s1.toList == s1.toList) = true := by simp
    go_wp2_with fail
    refine (cmpN Na Nb (by omega) (by omega)).mono ?_
    rw [cmpV_eq]
    rintro e w6 ⟨rfl, hb6⟩
    replace Na := Na.below hb6
    replace Nb := Nb.below hb6
    replace X := X.below hb6
    replace BB := bl_trans BB hb6
    clear hb6
    by_cases hx0 : xa = 0
    · have hlen := X.len
      rw [hx0, M.lims_zero] at hlen
      obtain rfl := hlen
      clear hx0
      go_wp2_with fail
      go_ret
      exact ⟨rfl, BB⟩
    · have hlen : ((n2 : Int) == 0) = false := by
        have h1 := X.len
        have h2 : 0 < (M.lims xa).length := List.length_pos_iff.2 (fun h => hx0 (M.lims_eq_nil.1 h))
        simp
        omega
      go_wp2_with fail
      refine (mulN (Na.alloc _) (litN1 _ 10 10 (by decide) rfl) (by omega) (by omega) (by omega)).mono ?_
      rintro e w7 ⟨A7, n7, c7, rfl, P, hb7⟩
      replace hb7 := bl_trans (bl_alloc _ _) hb7
      replace Na := Na.below hb7
      replace Nb := Nb.below hb7
      replace X := X.below hb7
      replace BB := bl_trans BB hb7
      clear hb7
      go_wp2_with fail
      refine (textN P.nm (by omega)).mono ?_
      rintro e w8 ⟨s8, rfl, hs8, hb8⟩
      replace Na := Na.below hb8
      replace Nb := Nb.below hb8
      replace X := X.below hb8
      replace P := P.below hb8
      replace BB := bl_trans BB hb8
      clear hb8
      have hten : (s8.toList == (s1 ++ ⟨#[48]⟩).toList) = true := text_ten hx0 hs1 hs8
      have hszz : s1.size ≤ 1048576 := hsz1
      go_wp2_with fail
      go_ret
      exact ⟨rfl, BB⟩
  · have hne : (s1.toList == s5.toList) = false := by
      rw [beq_eq_false_iff_ne]
      intro e
      apply hab
      rw [Lib.toList_data, Lib.toList_data] at e
      have e2 : M.bytes s1 = M.bytes s5 := by unfold M.bytes; rw [e]
      rw [hs1, hs5] at e2
      exact M.txt_inj e2
    rcases Nat.lt_or_gt_of_ne hab with hlt | hlt
    · go_wp2_with fail
      refine (cmpN Na Nb (by omega) (by omega)).mono ?_
      rw [cmpV_lt hlt]
      rintro e w9 ⟨rfl, hb9⟩
      replace Na := Na.below hb9
      replace Nb := Nb.below hb9
      replace X := X.below hb9
      replace BB := bl_trans BB hb9
      clear hb9
      by_cases hx0 : xa = 0
      · have hlen := X.len
        rw [hx0, M.lims_zero] at hlen
        obtain rfl := hlen
        clear hx0
        go_wp2_with fail
        go_ret
        exact ⟨rfl, BB⟩
      · have hlen : ((n2 : Int) == 0) = false := by
          have h1 := X.len
          have h2 : 0 < (M.lims xa).length := List.length_pos_iff.2 (fun h => hx0 (M.lims_eq_nil.1 h))
          simp
          omega
        go_wp2_with fail
        refine (mulN (Na.alloc _) (litN1 _ 10 10 (by decide) rfl) (by omega) (by omega) (by omega)).mono ?_
        rintro e w10 ⟨A10, n10, c10, rfl, P, hb10⟩
        replace hb10 := bl_trans (bl_alloc _ _) hb10
        replace Na := Na.below hb10
        replace Nb := Nb.below hb10
        replace X := X.below hb10
        replace BB := bl_trans BB hb10
        clear hb10
        go_wp2_with fail
        refine (textN P.nm (by omega)).mono ?_
        rintro e w11 ⟨s11, rfl, hs11, hb11⟩
        replace Na := Na.below hb11
        replace Nb := Nb.below hb11
        replace X := X.below hb11
        replace P := P.below hb11
        replace BB := bl_trans BB hb11
        clear hb11
        have hten : (s11.toList == (s1 ++ ⟨#[48]⟩).toList) = true := text_ten hx0 hs1 hs11
        have hszz : s1.size ≤ 1048576 := hsz1
        go_wp2_with fail
        go_ret
        exact ⟨rfl, BB⟩
    · go_wp2_with fail
      refine (cmpN Na Nb (by omega) (by omega)).mono ?_
      rw [cmpV_gt hlt]
      rintro e w12 ⟨rfl, hb12⟩
      replace Na := Na.below hb12
      replace Nb := Nb.below hb12
      replace X := X.below hb12
      replace BB := bl_trans BB hb12
      clear hb12
      by_cases hx0 : xa = 0
      · have hlen := X.len
        rw [hx0, M.lims_zero] at hlen
        obtain rfl := hlen
        clear hx0
        go_wp2_with fail
        go_ret
        exact ⟨rfl, BB⟩
      · have hlen : ((n2 : Int) == 0) = false := by
          have h1 := X.len
          have h2 : 0 < (M.lims xa).length := List.length_pos_iff.2 (fun h => hx0 (M.lims_eq_nil.1 h))
          simp
          omega
        go_wp2_with fail
        refine (mulN (Na.alloc _) (litN1 _ 10 10 (by decide) rfl) (by omega) (by omega) (by omega)).mono ?_
        rintro e w13 ⟨A13, n13, c13, rfl, P, hb13⟩
        replace hb13 := bl_trans (bl_alloc _ _) hb13
        replace Na := Na.below hb13
        replace Nb := Nb.below hb13
        replace X := X.below hb13
        replace BB := bl_trans BB hb13
        clear hb13
        go_wp2_with fail
        refine (textN P.nm (by omega)).mono ?_
        rintro e w14 ⟨s14, rfl, hs14, hb14⟩
        replace Na := Na.below hb14
        replace Nb := Nb.below hb14
        replace X := X.below hb14
        replace P := P.below hb14
        replace BB := bl_trans BB hb14
        clear hb14
        have hten : (s14.toList == (s1 ++ ⟨#[48]⟩).toList) = true := text_ten hx0 hs1 hs14
        have hszz : s1.size ≤ 1048576 := hsz1
        go_wp2_with fail
        go_ret
        exact ⟨rfl, BB⟩

end Go.Proofs.Ytbcceopgmkmbfaa
