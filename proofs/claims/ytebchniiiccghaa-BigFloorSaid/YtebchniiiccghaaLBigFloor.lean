/- litmuslaw02.BigFloor answers true at every input, and changes nothing that was there: its walk. -/
import Derived.Test.YtebchniiiccghaaLBigFloorN0
import Derived.Test.YtebchniiiccghaaLBigFloorN1
import Derived.Test.YtebchniiiccghaaLBigFloorP0
import Derived.Test.YtebchniiiccghaaLBigFloorP1
namespace Go.Proofs.Ytebchniiiccghaa
open Go.RowKit
set_option linter.unusedVariables false
set_option maxRecDepth 100000

theorem bigFloor_walk (sa : Bool) (Aa : Option Addr) (na ca : Nat) (xa : List Nat) (sb : Bool) (Ab : Option Addr) (nb cb : Nat) (xb : List Nat) (sc : Bool) (Ac : Option Addr) (nc cc : Nat) (xc : List Nat) (w : World) (ha : Rd w Aa na ca xa) (ma : na ≤ maxLen) (hb : Rd w Ab nb cb xb) (mb : nb ≤ maxLen) (hc : Rd w Ac nc cc xc) (mc : nc ≤ maxLen) : Calls Try.prog 8 #[.agg #[.bool sa, .slice Aa na ca, .bool sb, .slice Ab nb cb, .bool sc, .slice Ac nc cc]] w fun e w' => e = .returned (.bool true) ∧ Below w.heap.size w w' := by
  obtain ⟨za, hza⟩ : ∃ z, z = zv sa (M.val (xa.take (min na 20))) := ⟨_, rfl⟩
  obtain ⟨zb, hzb⟩ : ∃ z, z = zv sb (M.val (xb.take (min nb 20))) := ⟨_, rfl⟩
  obtain ⟨zc, hzc⟩ : ∃ z, z = zv sc (M.val (xc.take (min nc 20))) := ⟨_, rfl⟩
  have Ma : Zm w sa Aa (min na 20) ca za 20 := by rw [hza]; exact few_zm ha 20
  have Mb : Zm w sb Ab (min nb 20) cb zb 20 := by rw [hzb]; exact few_zm hb 20
  have Mc : Zm w sc Ac (min nc 20) cc zc 20 := by rw [hzc]; exact few_zm hc 20
  have Ha := Lib.hid ha
  have Hb := Lib.hid hb
  have Hc := Lib.hid hc
  have Ga := Lib.hid ma
  have Gb := Lib.hid mb
  have Gc := Lib.hid mc
  clear ha ma hza hb mb hzb hc mc hzc
  have BB := bl_alloc w (.cells #[.bool sa, .slice Aa na ca, .bool sb, .slice Ab nb cb, .bool sc, .slice Ac nc cc] 59)
  have PV := Ar.new w #[.bool sa, .slice Aa na ca, .bool sb, .slice Ab nb cb, .bool sc, .slice Ac nc cc] 59
  have Qa : IsM (w.alloc (.cells #[.bool sa, .slice Aa na ca, .bool sb, .slice Ab nb cb, .bool sc, .slice Ac nc cc] 59)) (.agg #[.bool sa, .slice Aa (min na 20) ca]) za 20 := ⟨_, _, _, _, rfl, Ma.alloc _⟩
  have Qb : IsM (w.alloc (.cells #[.bool sa, .slice Aa na ca, .bool sb, .slice Ab nb cb, .bool sc, .slice Ac nc cc] 59)) (.agg #[.bool sb, .slice Ab (min nb 20) cb]) zb 20 := ⟨_, _, _, _, rfl, Mb.alloc _⟩
  have Qc : IsM (w.alloc (.cells #[.bool sa, .slice Aa na ca, .bool sb, .slice Ab nb cb, .bool sc, .slice Ac nc cc] 59)) (.agg #[.bool sc, .slice Ac (min nc 20) cc]) zc 20 := ⟨_, _, _, _, rfl, Mc.alloc _⟩
  clear Ma Mb Mc
  by_cases hb0 : zb = 0
  · exact bigFloor_Z sa Aa na ca xa sb Ab nb cb xb sc Ac nc cc xc za zb zc w Ha Hb Hc Ga Gb Gc BB PV Qa Qb Qc (Lib.hid hb0)
  have HB := Lib.hid hb0
  have FA := FD.of za hb0
  have FC := FD.of zc hb0
  have HE := Lib.hid (show zb * dq za zb + dr za zb = za from FA.eq.symm)
  have FG : FD (za * zb + dr zc zb) zb za (dr zc zb) := ⟨by rw [Int.mul_comm], FC.pos, FC.neg⟩
  have HP := Lib.hid (FG.dq hb0).symm
  have HL := Lib.hid (FG.dr hb0).symm
  have HAG := Lib.hid (fd_scale za zb zc hb0)
  rcases Int.lt_or_gt_of_ne hb0 with hn | hp
  · have hr2 := FA.neg hn
    by_cases hr : dr za zb = 0
    · exact bigFloor_N0 sa Aa na ca xa sb Ab nb cb xb sc Ac nc cc xc za zb zc w Ha Hb Hc Ga Gb Gc BB PV Qa Qb Qc HB HE HP HL HAG (Lib.hid (sgn_neg hn)) (Lib.hid (sgn_zero hr)) (Lib.hid (cmpI_gt hr2.1))
    · exact bigFloor_N1 sa Aa na ca xa sb Ab nb cb xb sc Ac nc cc xc za zb zc w Ha Hb Hc Ga Gb Gc BB PV Qa Qb Qc HB HE HP HL HAG (Lib.hid (sgn_neg hn)) (Lib.hid (sgn_neg (by omega))) (Lib.hid (cmpI_gt hr2.1))
  · have hr2 := FA.pos hp
    by_cases hr : dr za zb = 0
    · exact bigFloor_P0 sa Aa na ca xa sb Ab nb cb xb sc Ac nc cc xc za zb zc w Ha Hb Hc Ga Gb Gc BB PV Qa Qb Qc HB HE HP HL HAG (Lib.hid (sgn_pos hp)) (Lib.hid (sgn_zero hr)) (Lib.hid (cmpI_lt hr2.2))
    · exact bigFloor_P1 sa Aa na ca xa sb Ab nb cb xb sc Ac nc cc xc za zb zc w Ha Hb Hc Ga Gb Gc BB PV Qa Qb Qc HB HE HP HL HAG (Lib.hid (sgn_pos hp)) (Lib.hid (sgn_pos (by omega))) (Lib.hid (cmpI_lt hr2.2))

end Go.Proofs.Ytebchniiiccghaa
