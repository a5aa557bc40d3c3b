/- litmuslaw03.RatOrder: its walk, with the chapter's examples. -/
import Derived.Test.YtbhgbilhoonopaaGreatLRatOrder
import Derived.Test.YtbhgbilhoonopaaGreatQWorks
namespace Go.Proofs.YtbhgbilhoonopaaGreat
open Go.RowKit
theorem ratOrder_walk (sa : Bool) (Aa : Option Addr) (na ca : Nat) (xa : List Nat) (Ba : Option Addr) (ma da : Nat) (ya : List Nat) (sb : Bool) (Ab : Option Addr) (nb cb : Nat) (xb : List Nat) (Bb : Option Addr) (mb db : Nat) (yb : List Nat) (sc : Bool) (Ac : Option Addr) (nc cc : Nat) (xc : List Nat) (Bc : Option Addr) (mc dc : Nat) (yc : List Nat) (w : World) (h : (Rd w Aa na ca xa ∧ na ≤ maxLen) ∧ (Rd w Ba ma da ya ∧ ma ≤ maxLen)) (g : (Rd w Ab nb cb xb ∧ nb ≤ maxLen) ∧ (Rd w Bb mb db yb ∧ mb ≤ maxLen)) (k : (Rd w Ac nc cc xc ∧ nc ≤ maxLen) ∧ (Rd w Bc mc dc yc ∧ mc ≤ maxLen)) :
    Calls Tryz.prog 7 #[.agg #[.bool sa, .slice Aa na ca, .slice Ba ma da], .agg #[.bool sb, .slice Ab nb cb, .slice Bb mb db], .agg #[.bool sc, .slice Ac nc cc, .slice Bc mc dc]] w fun e w' => e = .returned (.bool true) ∧ Below w.heap.size w w' :=
  ratOrder_walkW sa Aa na ca xa Ba ma da ya sb Ab nb cb xb Bb mb db yb sc Ac nc cc xc Bc mc dc yc w cWorks3 h.1.1 h.1.2 h.2.1 h.2.2 g.1.1 g.1.2 g.2.1 g.2.2 k.1.1 k.1.2 k.2.1 k.2.2
end Go.Proofs.YtbhgbilhoonopaaGreat
