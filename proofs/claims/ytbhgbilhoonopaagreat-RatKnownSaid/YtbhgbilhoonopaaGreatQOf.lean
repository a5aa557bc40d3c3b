/- litmuslaw03.of; rat.Parse of a fraction's text. -/
import Derived.Test.YtbhgbilhoonopaaGreatQLaw
namespace Go.Proofs.YtbhgbilhoonopaaGreat
open Go.RowKit
set_option linter.unusedVariables false
set_option maxRecDepth 100000

set_option maxHeartbeats 2000000 in
theorem cOf3 {w : World} (x y : Int) (x0 : -9223372036854775808 ≤ x) (x1 : x < 9223372036854775808) (y0 : -9223372036854775808 ≤ y) (y1 : y < 9223372036854775808) : Calls Tryz.prog 87 #[.int .i64 x, .int .i64 y] w (Ans w fun w' v => IsQ w.heap.size w' v (((x : Int) : Rat) / ((y : Int) : Rat)) 4) := by
  have PR := Bq.new w false none 0 0 none 0 0
  have BB := bl_alloc w (.cells #[.bool false, .slice none 0 0, .slice none 0 0] 26)
  go_enter Tryz.func87, Tryz.ntmps87
  go_wp2_with fail
  refine (cQFrom x x0 x1).mono ?_
  rintro e w1 ⟨_, rfl, hb1, q1⟩
  obtain ⟨b1, A1, n1, c1, B1, m1, d1, rfl, yy⟩ := id q1
  clear yy
  replace PR := PR.below hb1
  replace BB := bl_trans BB hb1
  clear hb1
  go_wp2_with fail
  refine (cQFrom y y0 y1).mono ?_
  rintro e w2 ⟨_, rfl, hb2, q2⟩
  obtain ⟨b2, A2, n2, c2, B2, m2, d2, rfl, yy⟩ := id q2
  clear yy
  have hs2 := hb2.size
  replace q1 := q1.below hb2
  replace PR := PR.below hb2
  replace BB := bl_trans BB hb2
  clear hb2
  go_wp2_with fail
  refine (cQDiv q1.m q2.m (by omega) (by omega) (by omega) (by omega)).mono ?_
  rintro e w3 ⟨_, rfl, hb3, b3, A3, n3, c3, B3, m3, d3, rfl, q3⟩
  have hl := PR.lt
  replace PR := PR.below hb3
  replace BB := bl_trans BB hb3
  clear hb3 q1 q2
  have PQ := Bq.new w3 b3 A3 n3 c3 B3 m3 d3
  have OO : Below w3.heap.size w3 (w3.alloc (.cells #[.bool b3, .slice A3 n3 c3, .slice B3 m3 d3] 26)) := bl_alloc _ _
  replace q3 := q3.below OO
  replace PR := PR.below OO
  replace BB := bl_trans BB OO
  have p0 := PQ.c0
  have p1 := PQ.c1
  have p2 := PQ.c2
  have r0 := PR.c0
  have r1 := PR.c1
  have r2 := PR.c2
  have f0 := PR.f 0
  have f1 := PR.f 1
  have f2 := PR.f 2
  clear OO
  go_wp2_with fail
  have PF := PR.set3 (b' := b3) (A' := A3) (n' := n3) (c' := c3) (B' := B3) (m' := m3) (d' := d3)
  obtain ⟨_, e1, fb, fq⟩ := fin_q (g := w.heap.size) q3 BB (by omega) (by omega) (.bool b3) (.slice A3 n3 c3) (.slice B3 m3 d3)
  cases e1
  clear p0 p1 p2 r0 r1 r2 f0 f1 f2 PQ BB q3 PR
  generalize World.setCell _ ⟨w.heap.size, 2, none⟩ _ = W9 at PF fq fb ⊢
  have z0 := PF.c0
  have z1 := PF.c1
  have z2 := PF.c2
  exact bodyPost_ret (v := .agg #[.bool b3, .slice A3 n3 c3, .slice B3 m3 d3]) (by simp [results, Tryz.results87, go_sem, z0, z1, z2]) rfl ⟨_, rfl, fb, fq⟩

end Go.Proofs.YtbhgbilhoonopaaGreat
