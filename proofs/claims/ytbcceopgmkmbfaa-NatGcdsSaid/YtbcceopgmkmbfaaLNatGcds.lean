/- litmuslaw01.NatGcds answers true at every input, and changes nothing that was there: its walk. -/
import Derived.Test.YtbcceopgmkmbfaaLRef
namespace Go.Proofs.Ytbcceopgmkmbfaa
open Go.RowKit
set_option linter.unusedVariables false

set_option maxRecDepth 100000 in
set_option maxHeartbeats 4000000 in
theorem natGcds_walk (A : Option Addr) (la ca : Nat) (ya : List Nat) (B : Option Addr) (lb cb : Nat) (yb : List Nat) (w : World) (ha : Rd w A la ca ya) (ga : la ≤ maxLen) (hb : Rd w B lb cb yb) (gb : lb ≤ maxLen) :
    Calls Try.prog 4 #[.slice A la ca, .slice B lb cb] w fun e w' => e = .returned (.bool true) ∧ Below w.heap.size w w' := by
  have BB : Below w.heap.size w w := Below.refl _ _
  have Ha := Lib.hid ha
  have La := Lib.hid ga
  have Hb := Lib.hid hb
  have Lb := Lib.hid gb
  clear ha ga hb gb
  go_enter Try.func4, Try.ntmps4
  go_wp2_with fail
  refine (fewN Ha.out La.out 5 (by omega) (by omega)).mono ?_
  rintro e w' ⟨⟨na, xa, rfl, Na⟩, rfl⟩
  replace Na : Nm _ _ _ _ _ 5 := Na
  go_wp2_with fail
  refine (fewN Hb.out Lb.out 5 (by omega) (by omega)).mono ?_
  rintro e w' ⟨⟨nb, xb, rfl, Nb⟩, rfl⟩
  replace Nb : Nm _ _ _ _ _ 5 := Nb
  clear Ha La Hb Lb
  go_wp2_with fail
  refine (gcdN Na Nb (by omega) (by omega)).mono ?_
  rintro e w1 ⟨A1, n1, c1, rfl, G, hb1⟩
  replace Na := Na.below hb1
  replace Nb := Nb.below hb1
  replace BB := bl_trans BB hb1
  clear hb1
  go_wp2_with fail
  refine (gcdRN Na Nb (by omega) (by omega)).mono ?_
  rintro e w2 ⟨A2, n2, c2, rfl, G2, hb2⟩
  replace Na := Na.below hb2
  replace Nb := Nb.below hb2
  replace G := G.below hb2
  replace BB := bl_trans BB hb2
  clear hb2
  go_wp2_with fail
  refine (SameN_yes G G2 (by omega) (by omega) rfl).mono ?_
  rintro e w3 ⟨rfl, hb3⟩
  replace Na := Na.below hb3
  replace Nb := Nb.below hb3
  replace G := G.below hb3
  replace G2 := G2.below hb3
  replace BB := bl_trans BB hb3
  clear hb3
  go_wp2_with fail
  refine (works_any _).mono ?_
  rintro e w4 ⟨rfl, hb4⟩
  replace BB := bl_trans BB hb4
  clear hb4
  go_wp2_with fail
  go_ret
  exact ⟨rfl, BB⟩

end Go.Proofs.Ytbcceopgmkmbfaa
