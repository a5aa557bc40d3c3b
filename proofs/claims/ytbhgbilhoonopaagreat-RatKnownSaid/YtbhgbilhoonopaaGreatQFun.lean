/- rat.Add, Sub, Mul, Cmp, Neg. -/
import Derived.Test.YtbhgbilhoonopaaGreatQTwo
namespace Go.Proofs.YtbhgbilhoonopaaGreat
open Go.RowKit
set_option linter.unusedVariables false
set_option maxRecDepth 100000

set_option maxHeartbeats 4000000 in
theorem two1_Cmp {w : World} {v : Value} {p q : Rat} {k j N gb gt : Nat} {b2 : Bool} {A2 B2 : Option Addr} {n2 c2 m2 d2 : Nat} (hp : IsQ N w v p k) (PB : Bq w gb b2 A2 n2 c2 B2 m2 d2) (QB : IsQm w (.agg #[.bool b2, .slice A2 n2 c2, .slice B2 m2 d2]) q j) (PT : Bf w gt (.func (Fn.func 70) #[] #[]) 71) (hk : k ≤ 18) (hj : j ≤ 18) (hj1 : 1 ≤ j) : Calls Tryz.prog 113 #[v, .pointer (some ⟨gb, 0, none⟩), .pointer (some ⟨gt, 0, none⟩)] w (Ans w fun _ v => v = .int .i64 (cmpQ p q)) := by
  have hpt := hp.t
  obtain ⟨b0, A0, n0, c0, B0, m0, d0, rfl, _⟩ := hp
  have PA := Bq.new w b0 A0 n0 c0 B0 m0 d0
  have BB := bl_alloc w (.cells #[.bool b0, .slice A0 n0 c0, .slice B0 m0 d0] 26)
  have HP := Lib.hid (hpt.below BB)
  have HA := Lib.hid PA
  replace PB := PB.below BB
  have HT := Lib.hid (PT.below BB)
  have HB := Lib.hid (QB.below BB)
  clear hpt QB PT PA
  have y0 := PB.c0
  have y1 := PB.c1
  have y2 := PB.c2
  go_enter Tryz.func113, Tryz.ntmps113
  go_wp2_with fail
  refine (madeI_ofTwoI2 (Post := fun v => v = .int .i64 (cmpQ p q)) HB.out (by omega) hj1 fun W u hW hsz hu => (two2_Cmp hu (HA.out.below hW) (HP.out.below hW) (HT.out.below hW) hk hj).mono fun e w' r => ?_).mono ?_
  · exact r
  clear y0 y1 y2 PB HA HB HT HP
  rintro e w1 ⟨_, rfl, hb1, rfl⟩
  replace BB := bl_trans BB hb1
  clear hb1
  go_wp2_with fail
  go_ret
  exact ⟨_, rfl, BB, rfl⟩

set_option maxHeartbeats 4000000 in
theorem two0_Cmp {w : World} {v v' : Value} {p q : Rat} {k j : Nat} (ha : IsQm w v p k) (hb : IsQm w v' q j) (hk : k ≤ 18) (hj : j ≤ 18) (hk1 : 1 ≤ k) (hj1 : 1 ≤ j) : Calls Tryz.prog 69 #[v, v', .func (Fn.func 70) #[] #[]] w (Ans w fun _ v => v = .int .i64 (cmpQ p q)) := by
  obtain ⟨b2, A2, n2, c2, B2, m2, d2, rfl, _⟩ := id ha
  obtain ⟨b3, A3, n3, c3, B3, m3, d3, rfl, _⟩ := id hb
  have BB := (bl_trans (bl_trans (bl_alloc w (.cells #[.bool b2, .slice A2 n2 c2, .slice B2 m2 d2] 26)) (bl_alloc _ (.cells #[.bool b3, .slice A3 n3 c3, .slice B3 m3 d3] 26))) (bl_alloc _ (.cells #[.func (Fn.func 70) #[] #[]] 71)))
  have PA := ((Bq.new w b2 A2 n2 c2 B2 m2 d2).alloc (.cells #[.bool b3, .slice A3 n3 c3, .slice B3 m3 d3] 26)).alloc (.cells #[.func (Fn.func 70) #[] #[]] 71)
  have PB := (Bq.new2 w (.cells #[.bool b2, .slice A2 n2 c2, .slice B2 m2 d2] 26) b3 A3 n3 c3 B3 m3 d3).alloc (.cells #[.func (Fn.func 70) #[] #[]] 71)
  have PT := Bf.new3 w (.cells #[.bool b2, .slice A2 n2 c2, .slice B2 m2 d2] 26) (.cells #[.bool b3, .slice A3 n3 c3, .slice B3 m3 d3] 26) (.func (Fn.func 70) #[] #[]) 71
  have HA := Lib.hid (ha.below BB)
  have HB := Lib.hid (hb.below BB)
  have HPB := Lib.hid PB
  have HPT := Lib.hid PT
  clear ha hb PB PT
  have x0 := PA.c0
  have x1 := PA.c1
  have x2 := PA.c2
  go_enter Tryz.func69, Tryz.ntmps69
  go_wp2_with fail
  refine (madeI_ofTwoI1 (Post := fun v => v = .int .i64 (cmpQ p q)) HA.out (by omega) hk1 fun W u hW hsz hu => (two1_Cmp hu (HPB.out.below hW) (HB.out.below hW) (HPT.out.below hW) hk hj hj1).mono fun e w' r => ?_).mono ?_
  · exact r
  clear x0 x1 x2 PA HA HB HPB HPT
  rintro e w1 ⟨_, rfl, hb1, rfl⟩
  replace BB := bl_trans BB hb1
  clear hb1
  go_wp2_with fail
  go_ret
  exact ⟨_, rfl, BB, rfl⟩

set_option maxHeartbeats 4000000 in
theorem cQCmp {w : World} {v v' : Value} {p q : Rat} {k j : Nat} (ha : IsQm w v p k) (hb : IsQm w v' q j) (hk : k ≤ 18) (hj : j ≤ 18) (hk1 : 1 ≤ k) (hj1 : 1 ≤ j) : Calls Tryz.prog 28 #[v, v'] w (Ans w fun _ v => v = .int .i64 (cmpQ p q)) := by
  obtain ⟨b2, A2, n2, c2, B2, m2, d2, rfl, _⟩ := id ha
  obtain ⟨b3, A3, n3, c3, B3, m3, d3, rfl, _⟩ := id hb
  have BB := (bl_trans (bl_alloc w (.cells #[.bool b2, .slice A2 n2 c2, .slice B2 m2 d2] 26)) (bl_alloc _ (.cells #[.bool b3, .slice A3 n3 c3, .slice B3 m3 d3] 26)))
  have PA := (Bq.new w b2 A2 n2 c2 B2 m2 d2).alloc (.cells #[.bool b3, .slice A3 n3 c3, .slice B3 m3 d3] 26)
  have PB := Bq.new2 w (.cells #[.bool b2, .slice A2 n2 c2, .slice B2 m2 d2] 26) b3 A3 n3 c3 B3 m3 d3
  have HA := Lib.hid (ha.below BB)
  have HB := Lib.hid (hb.below BB)
  clear ha hb
  have x0 := PA.c0
  have x1 := PA.c1
  have x2 := PA.c2
  have y0 := PB.c0
  have y1 := PB.c1
  have y2 := PB.c2
  go_enter Tryz.func28, Tryz.ntmps28
  go_wp2_with fail
  refine (two0_Cmp HA.out HB.out hk hj hk1 hj1).mono ?_
  clear x0 x1 x2 y0 y1 y2 PA PB HA HB
  rintro e w1 ⟨_, rfl, hb1, rfl⟩
  replace BB := bl_trans BB hb1
  clear hb1
  go_wp2_with fail
  go_ret
  exact ⟨_, rfl, BB, rfl⟩

set_option maxHeartbeats 4000000 in
theorem two1_Add {w : World} {v : Value} {p q : Rat} {k j N gb gt : Nat} {b2 : Bool} {A2 B2 : Option Addr} {n2 c2 m2 d2 : Nat} (hp : IsQ N w v p k) (PB : Bq w gb b2 A2 n2 c2 B2 m2 d2) (QB : IsQm w (.agg #[.bool b2, .slice A2 n2 c2, .slice B2 m2 d2]) q j) (PT : Bf w gt (.func (Fn.func 61) #[] #[]) 58) (hk : k ≤ 18) (hj : j ≤ 18) (hj1 : 1 ≤ j) : Calls Tryz.prog 97 #[v, .pointer (some ⟨gb, 0, none⟩), .pointer (some ⟨gt, 0, none⟩)] w (Ans w fun w' v => IsQ w.heap.size w' v (p + q) (k + j + 1)) := by
  have hpt := hp.t
  obtain ⟨b0, A0, n0, c0, B0, m0, d0, rfl, _⟩ := hp
  have PA := (Bq.new w b0 A0 n0 c0 B0 m0 d0).alloc (.cells #[.bool false, .slice none 0 0, .slice none 0 0] 26)
  have PR := Bq.new2 w (.cells #[.bool b0, .slice A0 n0 c0, .slice B0 m0 d0] 26) false none 0 0 none 0 0
  have BB := bl_trans (bl_alloc w (.cells #[.bool b0, .slice A0 n0 c0, .slice B0 m0 d0] 26)) (bl_alloc _ (.cells #[.bool false, .slice none 0 0, .slice none 0 0] 26))
  have HP := Lib.hid (hpt.below BB)
  have HA := Lib.hid PA
  replace PB := PB.below BB
  have HT := Lib.hid (PT.below BB)
  have HB := Lib.hid (QB.below BB)
  clear hpt QB PT PA
  have y0 := PB.c0
  have y1 := PB.c1
  have y2 := PB.c2
  go_enter Tryz.func97, Tryz.ntmps97
  go_wp2_with fail
  refine (madeR_ofTwoR2 (q' := (p + q)) (k' := (k + j + 1)) HB.out (by omega) hj1 fun W u hW hsz hu => (two2_Add hu (HA.out.below hW) (HP.out.below hW) (HT.out.below hW) hk hj).mono fun e w' r => ?_).mono ?_
  · exact ansQ_base hsz e w' r
  clear y0 y1 y2 PB HA HB HT HP
  rintro e w1 ⟨_, rfl, hb1, q1⟩
  obtain ⟨b1, A1, n1, c1, B1, m1, d1, rfl, _⟩ := id q1
  replace PR := PR.below hb1
  replace BB := bl_trans BB hb1
  have r0 := PR.c0
  have f0 := PR.f 0
  have r1 := PR.c1
  have f1 := PR.f 1
  have r2 := PR.c2
  have f2 := PR.f 2
  clear hb1
  go_wp2_with fail
  exact bodyPost_ret (v := .agg #[.bool b1, .slice A1 n1 c1, .slice B1 m1 d1]) (by simp [results, Tryz.results97, go_sem, *]) rfl (fin_q (N := w.heap.size + 1 + 1) (q1.base (by simp)) BB (by omega) (by omega) _ _ _)

set_option maxHeartbeats 4000000 in
theorem two0_Add {w : World} {v v' : Value} {p q : Rat} {k j : Nat} (ha : IsQm w v p k) (hb : IsQm w v' q j) (hk : k ≤ 18) (hj : j ≤ 18) (hk1 : 1 ≤ k) (hj1 : 1 ≤ j) : Calls Tryz.prog 48 #[v, v', .func (Fn.func 61) #[] #[]] w (Ans w fun w' v => IsQ w.heap.size w' v (p + q) (k + j + 1)) := by
  obtain ⟨b2, A2, n2, c2, B2, m2, d2, rfl, _⟩ := id ha
  obtain ⟨b3, A3, n3, c3, B3, m3, d3, rfl, _⟩ := id hb
  have BB := (bl_trans (bl_trans (bl_trans (bl_alloc w (.cells #[.bool b2, .slice A2 n2 c2, .slice B2 m2 d2] 26)) (bl_alloc _ (.cells #[.bool b3, .slice A3 n3 c3, .slice B3 m3 d3] 26))) (bl_alloc _ (.cells #[.func (Fn.func 61) #[] #[]] 58))) (bl_alloc _ (.cells #[.bool false, .slice none 0 0, .slice none 0 0] 26)))
  have PA := ((Bq.new w b2 A2 n2 c2 B2 m2 d2).alloc (.cells #[.bool b3, .slice A3 n3 c3, .slice B3 m3 d3] 26)).alloc (.cells #[.func (Fn.func 61) #[] #[]] 58)
  have PB := (Bq.new2 w (.cells #[.bool b2, .slice A2 n2 c2, .slice B2 m2 d2] 26) b3 A3 n3 c3 B3 m3 d3).alloc (.cells #[.func (Fn.func 61) #[] #[]] 58)
  have PT := Bf.new3 w (.cells #[.bool b2, .slice A2 n2 c2, .slice B2 m2 d2] 26) (.cells #[.bool b3, .slice A3 n3 c3, .slice B3 m3 d3] 26) (.func (Fn.func 61) #[] #[]) 58
  replace PA := PA.alloc (.cells #[.bool false, .slice none 0 0, .slice none 0 0] 26)
  replace PB := PB.alloc (.cells #[.bool false, .slice none 0 0, .slice none 0 0] 26)
  replace PT := PT.below (bl_alloc _ (.cells #[.bool false, .slice none 0 0, .slice none 0 0] 26))
  have PR := Bq.new4 w (.cells #[.bool b2, .slice A2 n2 c2, .slice B2 m2 d2] 26) (.cells #[.bool b3, .slice A3 n3 c3, .slice B3 m3 d3] 26) (.cells #[.func (Fn.func 61) #[] #[]] 58) false none 0 0 none 0 0
  have HA := Lib.hid (ha.below BB)
  have HB := Lib.hid (hb.below BB)
  have HPB := Lib.hid PB
  have HPT := Lib.hid PT
  clear ha hb PB PT
  have x0 := PA.c0
  have x1 := PA.c1
  have x2 := PA.c2
  go_enter Tryz.func48, Tryz.ntmps48
  go_wp2_with fail
  refine (madeR_ofTwoR1 (q' := (p + q)) (k' := (k + j + 1)) HA.out (by omega) hk1 fun W u hW hsz hu => (two1_Add hu (HPB.out.below hW) (HB.out.below hW) (HPT.out.below hW) hk hj hj1).mono fun e w' r => ?_).mono ?_
  · exact ansQ_base hsz e w' r
  clear x0 x1 x2 PA HA HB HPB HPT
  rintro e w1 ⟨_, rfl, hb1, q1⟩
  obtain ⟨b1, A1, n1, c1, B1, m1, d1, rfl, _⟩ := id q1
  replace PR := PR.below hb1
  replace BB := bl_trans BB hb1
  have r0 := PR.c0
  have f0 := PR.f 0
  have r1 := PR.c1
  have f1 := PR.f 1
  have r2 := PR.c2
  have f2 := PR.f 2
  clear hb1
  go_wp2_with fail
  exact bodyPost_ret (v := .agg #[.bool b1, .slice A1 n1 c1, .slice B1 m1 d1]) (by simp [results, Tryz.results48, go_sem, *]) rfl (fin_q (N := w.heap.size + 1 + 1 + 1 + 1) (q1.base (by simp)) BB (by omega) (by omega) _ _ _)

set_option maxHeartbeats 4000000 in
theorem cQAdd {w : World} {v v' : Value} {p q : Rat} {k j : Nat} (ha : IsQm w v p k) (hb : IsQm w v' q j) (hk : k ≤ 18) (hj : j ≤ 18) (hk1 : 1 ≤ k) (hj1 : 1 ≤ j) : Calls Tryz.prog 22 #[v, v'] w (Ans w fun w' v => IsQ w.heap.size w' v (p + q) (k + j + 1)) := by
  obtain ⟨b2, A2, n2, c2, B2, m2, d2, rfl, _⟩ := id ha
  obtain ⟨b3, A3, n3, c3, B3, m3, d3, rfl, _⟩ := id hb
  have BB := (bl_trans (bl_trans (bl_alloc w (.cells #[.bool b2, .slice A2 n2 c2, .slice B2 m2 d2] 26)) (bl_alloc _ (.cells #[.bool b3, .slice A3 n3 c3, .slice B3 m3 d3] 26))) (bl_alloc _ (.cells #[.bool false, .slice none 0 0, .slice none 0 0] 26)))
  have PA := (Bq.new w b2 A2 n2 c2 B2 m2 d2).alloc (.cells #[.bool b3, .slice A3 n3 c3, .slice B3 m3 d3] 26)
  have PB := Bq.new2 w (.cells #[.bool b2, .slice A2 n2 c2, .slice B2 m2 d2] 26) b3 A3 n3 c3 B3 m3 d3
  replace PA := PA.alloc (.cells #[.bool false, .slice none 0 0, .slice none 0 0] 26)
  replace PB := PB.alloc (.cells #[.bool false, .slice none 0 0, .slice none 0 0] 26)
  have PR := Bq.new3 w (.cells #[.bool b2, .slice A2 n2 c2, .slice B2 m2 d2] 26) (.cells #[.bool b3, .slice A3 n3 c3, .slice B3 m3 d3] 26) false none 0 0 none 0 0
  have HA := Lib.hid (ha.below BB)
  have HB := Lib.hid (hb.below BB)
  clear ha hb
  have x0 := PA.c0
  have x1 := PA.c1
  have x2 := PA.c2
  have y0 := PB.c0
  have y1 := PB.c1
  have y2 := PB.c2
  go_enter Tryz.func22, Tryz.ntmps22
  go_wp2_with fail
  refine (two0_Add HA.out HB.out hk hj hk1 hj1).mono ?_
  clear x0 x1 x2 y0 y1 y2 PA PB HA HB
  rintro e w1 ⟨_, rfl, hb1, q1⟩
  obtain ⟨b1, A1, n1, c1, B1, m1, d1, rfl, _⟩ := id q1
  replace PR := PR.below hb1
  replace BB := bl_trans BB hb1
  have r0 := PR.c0
  have f0 := PR.f 0
  have r1 := PR.c1
  have f1 := PR.f 1
  have r2 := PR.c2
  have f2 := PR.f 2
  clear hb1
  go_wp2_with fail
  exact bodyPost_ret (v := .agg #[.bool b1, .slice A1 n1 c1, .slice B1 m1 d1]) (by simp [results, Tryz.results22, go_sem, *]) rfl (fin_q (N := w.heap.size + 1 + 1 + 1) (q1.base (by simp)) BB (by omega) (by omega) _ _ _)

set_option maxHeartbeats 4000000 in
theorem two1_Sub {w : World} {v : Value} {p q : Rat} {k j N gb gt : Nat} {b2 : Bool} {A2 B2 : Option Addr} {n2 c2 m2 d2 : Nat} (hp : IsQ N w v p k) (PB : Bq w gb b2 A2 n2 c2 B2 m2 d2) (QB : IsQm w (.agg #[.bool b2, .slice A2 n2 c2, .slice B2 m2 d2]) q j) (PT : Bf w gt (.func (Fn.func 64) #[] #[]) 58) (hk : k ≤ 18) (hj : j ≤ 18) (hj1 : 1 ≤ j) : Calls Tryz.prog 97 #[v, .pointer (some ⟨gb, 0, none⟩), .pointer (some ⟨gt, 0, none⟩)] w (Ans w fun w' v => IsQ w.heap.size w' v (p - q) (k + j + 1)) := by
  have hpt := hp.t
  obtain ⟨b0, A0, n0, c0, B0, m0, d0, rfl, _⟩ := hp
  have PA := (Bq.new w b0 A0 n0 c0 B0 m0 d0).alloc (.cells #[.bool false, .slice none 0 0, .slice none 0 0] 26)
  have PR := Bq.new2 w (.cells #[.bool b0, .slice A0 n0 c0, .slice B0 m0 d0] 26) false none 0 0 none 0 0
  have BB := bl_trans (bl_alloc w (.cells #[.bool b0, .slice A0 n0 c0, .slice B0 m0 d0] 26)) (bl_alloc _ (.cells #[.bool false, .slice none 0 0, .slice none 0 0] 26))
  have HP := Lib.hid (hpt.below BB)
  have HA := Lib.hid PA
  replace PB := PB.below BB
  have HT := Lib.hid (PT.below BB)
  have HB := Lib.hid (QB.below BB)
  clear hpt QB PT PA
  have y0 := PB.c0
  have y1 := PB.c1
  have y2 := PB.c2
  go_enter Tryz.func97, Tryz.ntmps97
  go_wp2_with fail
  refine (madeR_ofTwoR2 (q' := (p - q)) (k' := (k + j + 1)) HB.out (by omega) hj1 fun W u hW hsz hu => (two2_Sub hu (HA.out.below hW) (HP.out.below hW) (HT.out.below hW) hk hj).mono fun e w' r => ?_).mono ?_
  · exact ansQ_base hsz e w' r
  clear y0 y1 y2 PB HA HB HT HP
  rintro e w1 ⟨_, rfl, hb1, q1⟩
  obtain ⟨b1, A1, n1, c1, B1, m1, d1, rfl, _⟩ := id q1
  replace PR := PR.below hb1
  replace BB := bl_trans BB hb1
  have r0 := PR.c0
  have f0 := PR.f 0
  have r1 := PR.c1
  have f1 := PR.f 1
  have r2 := PR.c2
  have f2 := PR.f 2
  clear hb1
  go_wp2_with fail
  exact bodyPost_ret (v := .agg #[.bool b1, .slice A1 n1 c1, .slice B1 m1 d1]) (by simp [results, Tryz.results97, go_sem, *]) rfl (fin_q (N := w.heap.size + 1 + 1) (q1.base (by simp)) BB (by omega) (by omega) _ _ _)

set_option maxHeartbeats 4000000 in
theorem two0_Sub {w : World} {v v' : Value} {p q : Rat} {k j : Nat} (ha : IsQm w v p k) (hb : IsQm w v' q j) (hk : k ≤ 18) (hj : j ≤ 18) (hk1 : 1 ≤ k) (hj1 : 1 ≤ j) : Calls Tryz.prog 48 #[v, v', .func (Fn.func 64) #[] #[]] w (Ans w fun w' v => IsQ w.heap.size w' v (p - q) (k + j + 1)) := by
  obtain ⟨b2, A2, n2, c2, B2, m2, d2, rfl, _⟩ := id ha
  obtain ⟨b3, A3, n3, c3, B3, m3, d3, rfl, _⟩ := id hb
  have BB := (bl_trans (bl_trans (bl_trans (bl_alloc w (.cells #[.bool b2, .slice A2 n2 c2, .slice B2 m2 d2] 26)) (bl_alloc _ (.cells #[.bool b3, .slice A3 n3 c3, .slice B3 m3 d3] 26))) (bl_alloc _ (.cells #[.func (Fn.func 64) #[] #[]] 58))) (bl_alloc _ (.cells #[.bool false, .slice none 0 0, .slice none 0 0] 26)))
  have PA := ((Bq.new w b2 A2 n2 c2 B2 m2 d2).alloc (.cells #[.bool b3, .slice A3 n3 c3, .slice B3 m3 d3] 26)).alloc (.cells #[.func (Fn.func 64) #[] #[]] 58)
  have PB := (Bq.new2 w (.cells #[.bool b2, .slice A2 n2 c2, .slice B2 m2 d2] 26) b3 A3 n3 c3 B3 m3 d3).alloc (.cells #[.func (Fn.func 64) #[] #[]] 58)
  have PT := Bf.new3 w (.cells #[.bool b2, .slice A2 n2 c2, .slice B2 m2 d2] 26) (.cells #[.bool b3, .slice A3 n3 c3, .slice B3 m3 d3] 26) (.func (Fn.func 64) #[] #[]) 58
  replace PA := PA.alloc (.cells #[.bool false, .slice none 0 0, .slice none 0 0] 26)
  replace PB := PB.alloc (.cells #[.bool false, .slice none 0 0, .slice none 0 0] 26)
  replace PT := PT.below (bl_alloc _ (.cells #[.bool false, .slice none 0 0, .slice none 0 0] 26))
  have PR := Bq.new4 w (.cells #[.bool b2, .slice A2 n2 c2, .slice B2 m2 d2] 26) (.cells #[.bool b3, .slice A3 n3 c3, .slice B3 m3 d3] 26) (.cells #[.func (Fn.func 64) #[] #[]] 58) false none 0 0 none 0 0
  have HA := Lib.hid (ha.below BB)
  have HB := Lib.hid (hb.below BB)
  have HPB := Lib.hid PB
  have HPT := Lib.hid PT
  clear ha hb PB PT
  have x0 := PA.c0
  have x1 := PA.c1
  have x2 := PA.c2
  go_enter Tryz.func48, Tryz.ntmps48
  go_wp2_with fail
  refine (madeR_ofTwoR1 (q' := (p - q)) (k' := (k + j + 1)) HA.out (by omega) hk1 fun W u hW hsz hu => (two1_Sub hu (HPB.out.below hW) (HB.out.below hW) (HPT.out.below hW) hk hj hj1).mono fun e w' r => ?_).mono ?_
  · exact ansQ_base hsz e w' r
  clear x0 x1 x2 PA HA HB HPB HPT
  rintro e w1 ⟨_, rfl, hb1, q1⟩
  obtain ⟨b1, A1, n1, c1, B1, m1, d1, rfl, _⟩ := id q1
  replace PR := PR.below hb1
  replace BB := bl_trans BB hb1
  have r0 := PR.c0
  have f0 := PR.f 0
  have r1 := PR.c1
  have f1 := PR.f 1
  have r2 := PR.c2
  have f2 := PR.f 2
  clear hb1
  go_wp2_with fail
  exact bodyPost_ret (v := .agg #[.bool b1, .slice A1 n1 c1, .slice B1 m1 d1]) (by simp [results, Tryz.results48, go_sem, *]) rfl (fin_q (N := w.heap.size + 1 + 1 + 1 + 1) (q1.base (by simp)) BB (by omega) (by omega) _ _ _)

set_option maxHeartbeats 4000000 in
theorem cQSub {w : World} {v v' : Value} {p q : Rat} {k j : Nat} (ha : IsQm w v p k) (hb : IsQm w v' q j) (hk : k ≤ 18) (hj : j ≤ 18) (hk1 : 1 ≤ k) (hj1 : 1 ≤ j) : Calls Tryz.prog 24 #[v, v'] w (Ans w fun w' v => IsQ w.heap.size w' v (p - q) (k + j + 1)) := by
  obtain ⟨b2, A2, n2, c2, B2, m2, d2, rfl, _⟩ := id ha
  obtain ⟨b3, A3, n3, c3, B3, m3, d3, rfl, _⟩ := id hb
  have BB := (bl_trans (bl_trans (bl_alloc w (.cells #[.bool b2, .slice A2 n2 c2, .slice B2 m2 d2] 26)) (bl_alloc _ (.cells #[.bool b3, .slice A3 n3 c3, .slice B3 m3 d3] 26))) (bl_alloc _ (.cells #[.bool false, .slice none 0 0, .slice none 0 0] 26)))
  have PA := (Bq.new w b2 A2 n2 c2 B2 m2 d2).alloc (.cells #[.bool b3, .slice A3 n3 c3, .slice B3 m3 d3] 26)
  have PB := Bq.new2 w (.cells #[.bool b2, .slice A2 n2 c2, .slice B2 m2 d2] 26) b3 A3 n3 c3 B3 m3 d3
  replace PA := PA.alloc (.cells #[.bool false, .slice none 0 0, .slice none 0 0] 26)
  replace PB := PB.alloc (.cells #[.bool false, .slice none 0 0, .slice none 0 0] 26)
  have PR := Bq.new3 w (.cells #[.bool b2, .slice A2 n2 c2, .slice B2 m2 d2] 26) (.cells #[.bool b3, .slice A3 n3 c3, .slice B3 m3 d3] 26) false none 0 0 none 0 0
  have HA := Lib.hid (ha.below BB)
  have HB := Lib.hid (hb.below BB)
  clear ha hb
  have x0 := PA.c0
  have x1 := PA.c1
  have x2 := PA.c2
  have y0 := PB.c0
  have y1 := PB.c1
  have y2 := PB.c2
  go_enter Tryz.func24, Tryz.ntmps24
  go_wp2_with fail
  refine (two0_Sub HA.out HB.out hk hj hk1 hj1).mono ?_
  clear x0 x1 x2 y0 y1 y2 PA PB HA HB
  rintro e w1 ⟨_, rfl, hb1, q1⟩
  obtain ⟨b1, A1, n1, c1, B1, m1, d1, rfl, _⟩ := id q1
  replace PR := PR.below hb1
  replace BB := bl_trans BB hb1
  have r0 := PR.c0
  have f0 := PR.f 0
  have r1 := PR.c1
  have f1 := PR.f 1
  have r2 := PR.c2
  have f2 := PR.f 2
  clear hb1
  go_wp2_with fail
  exact bodyPost_ret (v := .agg #[.bool b1, .slice A1 n1 c1, .slice B1 m1 d1]) (by simp [results, Tryz.results24, go_sem, *]) rfl (fin_q (N := w.heap.size + 1 + 1 + 1) (q1.base (by simp)) BB (by omega) (by omega) _ _ _)

set_option maxHeartbeats 4000000 in
theorem two1_Mul {w : World} {v : Value} {p q : Rat} {k j N gb gt : Nat} {b2 : Bool} {A2 B2 : Option Addr} {n2 c2 m2 d2 : Nat} (hp : IsQ N w v p k) (PB : Bq w gb b2 A2 n2 c2 B2 m2 d2) (QB : IsQm w (.agg #[.bool b2, .slice A2 n2 c2, .slice B2 m2 d2]) q j) (PT : Bf w gt (.func (Fn.func 65) #[] #[]) 58) (hk : k ≤ 18) (hj : j ≤ 18) (hj1 : 1 ≤ j) : Calls Tryz.prog 97 #[v, .pointer (some ⟨gb, 0, none⟩), .pointer (some ⟨gt, 0, none⟩)] w (Ans w fun w' v => IsQ w.heap.size w' v (p * q) (k + j)) := by
  have hpt := hp.t
  obtain ⟨b0, A0, n0, c0, B0, m0, d0, rfl, _⟩ := hp
  have PA := (Bq.new w b0 A0 n0 c0 B0 m0 d0).alloc (.cells #[.bool false, .slice none 0 0, .slice none 0 0] 26)
  have PR := Bq.new2 w (.cells #[.bool b0, .slice A0 n0 c0, .slice B0 m0 d0] 26) false none 0 0 none 0 0
  have BB := bl_trans (bl_alloc w (.cells #[.bool b0, .slice A0 n0 c0, .slice B0 m0 d0] 26)) (bl_alloc _ (.cells #[.bool false, .slice none 0 0, .slice none 0 0] 26))
  have HP := Lib.hid (hpt.below BB)
  have HA := Lib.hid PA
  replace PB := PB.below BB
  have HT := Lib.hid (PT.below BB)
  have HB := Lib.hid (QB.below BB)
  clear hpt QB PT PA
  have y0 := PB.c0
  have y1 := PB.c1
  have y2 := PB.c2
  go_enter Tryz.func97, Tryz.ntmps97
  go_wp2_with fail
  refine (madeR_ofTwoR2 (q' := (p * q)) (k' := (k + j)) HB.out (by omega) hj1 fun W u hW hsz hu => (two2_Mul hu (HA.out.below hW) (HP.out.below hW) (HT.out.below hW) hk hj).mono fun e w' r => ?_).mono ?_
  · exact ansQ_base hsz e w' r
  clear y0 y1 y2 PB HA HB HT HP
  rintro e w1 ⟨_, rfl, hb1, q1⟩
  obtain ⟨b1, A1, n1, c1, B1, m1, d1, rfl, _⟩ := id q1
  replace PR := PR.below hb1
  replace BB := bl_trans BB hb1
  have r0 := PR.c0
  have f0 := PR.f 0
  have r1 := PR.c1
  have f1 := PR.f 1
  have r2 := PR.c2
  have f2 := PR.f 2
  clear hb1
  go_wp2_with fail
  exact bodyPost_ret (v := .agg #[.bool b1, .slice A1 n1 c1, .slice B1 m1 d1]) (by simp [results, Tryz.results97, go_sem, *]) rfl (fin_q (N := w.heap.size + 1 + 1) (q1.base (by simp)) BB (by omega) (by omega) _ _ _)

set_option maxHeartbeats 4000000 in
theorem two0_Mul {w : World} {v v' : Value} {p q : Rat} {k j : Nat} (ha : IsQm w v p k) (hb : IsQm w v' q j) (hk : k ≤ 18) (hj : j ≤ 18) (hk1 : 1 ≤ k) (hj1 : 1 ≤ j) : Calls Tryz.prog 48 #[v, v', .func (Fn.func 65) #[] #[]] w (Ans w fun w' v => IsQ w.heap.size w' v (p * q) (k + j)) := by
  obtain ⟨b2, A2, n2, c2, B2, m2, d2, rfl, _⟩ := id ha
  obtain ⟨b3, A3, n3, c3, B3, m3, d3, rfl, _⟩ := id hb
  have BB := (bl_trans (bl_trans (bl_trans (bl_alloc w (.cells #[.bool b2, .slice A2 n2 c2, .slice B2 m2 d2] 26)) (bl_alloc _ (.cells #[.bool b3, .slice A3 n3 c3, .slice B3 m3 d3] 26))) (bl_alloc _ (.cells #[.func (Fn.func 65) #[] #[]] 58))) (bl_alloc _ (.cells #[.bool false, .slice none 0 0, .slice none 0 0] 26)))
  have PA := ((Bq.new w b2 A2 n2 c2 B2 m2 d2).alloc (.cells #[.bool b3, .slice A3 n3 c3, .slice B3 m3 d3] 26)).alloc (.cells #[.func (Fn.func 65) #[] #[]] 58)
  have PB := (Bq.new2 w (.cells #[.bool b2, .slice A2 n2 c2, .slice B2 m2 d2] 26) b3 A3 n3 c3 B3 m3 d3).alloc (.cells #[.func (Fn.func 65) #[] #[]] 58)
  have PT := Bf.new3 w (.cells #[.bool b2, .slice A2 n2 c2, .slice B2 m2 d2] 26) (.cells #[.bool b3, .slice A3 n3 c3, .slice B3 m3 d3] 26) (.func (Fn.func 65) #[] #[]) 58
  replace PA := PA.alloc (.cells #[.bool false, .slice none 0 0, .slice none 0 0] 26)
  replace PB := PB.alloc (.cells #[.bool false, .slice none 0 0, .slice none 0 0] 26)
  replace PT := PT.below (bl_alloc _ (.cells #[.bool false, .slice none 0 0, .slice none 0 0] 26))
  have PR := Bq.new4 w (.cells #[.bool b2, .slice A2 n2 c2, .slice B2 m2 d2] 26) (.cells #[.bool b3, .slice A3 n3 c3, .slice B3 m3 d3] 26) (.cells #[.func (Fn.func 65) #[] #[]] 58) false none 0 0 none 0 0
  have HA := Lib.hid (ha.below BB)
  have HB := Lib.hid (hb.below BB)
  have HPB := Lib.hid PB
  have HPT := Lib.hid PT
  clear ha hb PB PT
  have x0 := PA.c0
  have x1 := PA.c1
  have x2 := PA.c2
  go_enter Tryz.func48, Tryz.ntmps48
  go_wp2_with fail
  refine (madeR_ofTwoR1 (q' := (p * q)) (k' := (k + j)) HA.out (by omega) hk1 fun W u hW hsz hu => (two1_Mul hu (HPB.out.below hW) (HB.out.below hW) (HPT.out.below hW) hk hj hj1).mono fun e w' r => ?_).mono ?_
  · exact ansQ_base hsz e w' r
  clear x0 x1 x2 PA HA HB HPB HPT
  rintro e w1 ⟨_, rfl, hb1, q1⟩
  obtain ⟨b1, A1, n1, c1, B1, m1, d1, rfl, _⟩ := id q1
  replace PR := PR.below hb1
  replace BB := bl_trans BB hb1
  have r0 := PR.c0
  have f0 := PR.f 0
  have r1 := PR.c1
  have f1 := PR.f 1
  have r2 := PR.c2
  have f2 := PR.f 2
  clear hb1
  go_wp2_with fail
  exact bodyPost_ret (v := .agg #[.bool b1, .slice A1 n1 c1, .slice B1 m1 d1]) (by simp [results, Tryz.results48, go_sem, *]) rfl (fin_q (N := w.heap.size + 1 + 1 + 1 + 1) (q1.base (by simp)) BB (by omega) (by omega) _ _ _)

set_option maxHeartbeats 4000000 in
theorem cQMul {w : World} {v v' : Value} {p q : Rat} {k j : Nat} (ha : IsQm w v p k) (hb : IsQm w v' q j) (hk : k ≤ 18) (hj : j ≤ 18) (hk1 : 1 ≤ k) (hj1 : 1 ≤ j) : Calls Tryz.prog 26 #[v, v'] w (Ans w fun w' v => IsQ w.heap.size w' v (p * q) (k + j)) := by
  obtain ⟨b2, A2, n2, c2, B2, m2, d2, rfl, _⟩ := id ha
  obtain ⟨b3, A3, n3, c3, B3, m3, d3, rfl, _⟩ := id hb
  have BB := (bl_trans (bl_trans (bl_alloc w (.cells #[.bool b2, .slice A2 n2 c2, .slice B2 m2 d2] 26)) (bl_alloc _ (.cells #[.bool b3, .slice A3 n3 c3, .slice B3 m3 d3] 26))) (bl_alloc _ (.cells #[.bool false, .slice none 0 0, .slice none 0 0] 26)))
  have PA := (Bq.new w b2 A2 n2 c2 B2 m2 d2).alloc (.cells #[.bool b3, .slice A3 n3 c3, .slice B3 m3 d3] 26)
  have PB := Bq.new2 w (.cells #[.bool b2, .slice A2 n2 c2, .slice B2 m2 d2] 26) b3 A3 n3 c3 B3 m3 d3
  replace PA := PA.alloc (.cells #[.bool false, .slice none 0 0, .slice none 0 0] 26)
  replace PB := PB.alloc (.cells #[.bool false, .slice none 0 0, .slice none 0 0] 26)
  have PR := Bq.new3 w (.cells #[.bool b2, .slice A2 n2 c2, .slice B2 m2 d2] 26) (.cells #[.bool b3, .slice A3 n3 c3, .slice B3 m3 d3] 26) false none 0 0 none 0 0
  have HA := Lib.hid (ha.below BB)
  have HB := Lib.hid (hb.below BB)
  clear ha hb
  have x0 := PA.c0
  have x1 := PA.c1
  have x2 := PA.c2
  have y0 := PB.c0
  have y1 := PB.c1
  have y2 := PB.c2
  go_enter Tryz.func26, Tryz.ntmps26
  go_wp2_with fail
  refine (two0_Mul HA.out HB.out hk hj hk1 hj1).mono ?_
  clear x0 x1 x2 y0 y1 y2 PA PB HA HB
  rintro e w1 ⟨_, rfl, hb1, q1⟩
  obtain ⟨b1, A1, n1, c1, B1, m1, d1, rfl, _⟩ := id q1
  replace PR := PR.below hb1
  replace BB := bl_trans BB hb1
  have r0 := PR.c0
  have f0 := PR.f 0
  have r1 := PR.c1
  have f1 := PR.f 1
  have r2 := PR.c2
  have f2 := PR.f 2
  clear hb1
  go_wp2_with fail
  exact bodyPost_ret (v := .agg #[.bool b1, .slice A1 n1 c1, .slice B1 m1 d1]) (by simp [results, Tryz.results26, go_sem, *]) rfl (fin_q (N := w.heap.size + 1 + 1 + 1) (q1.base (by simp)) BB (by omega) (by omega) _ _ _)

set_option maxHeartbeats 4000000 in
theorem cQNeg {w : World} {v : Value} {p : Rat} {k : Nat} (ha : IsQm w v p k) (hk : k ≤ 18) (hk1 : 1 ≤ k) : Calls Tryz.prog 20 #[v] w (Ans w fun w' v => IsQ w.heap.size w' v (-p) k) := by
  obtain ⟨b2, A2, n2, c2, B2, m2, d2, rfl, _⟩ := id ha
  have BB := bl_trans (bl_alloc w (.cells #[.bool b2, .slice A2 n2 c2, .slice B2 m2 d2] 26)) (bl_alloc _ (.cells #[.bool false, .slice none 0 0, .slice none 0 0] 26))
  have PA := (Bq.new w b2 A2 n2 c2 B2 m2 d2).alloc (.cells #[.bool false, .slice none 0 0, .slice none 0 0] 26)
  have PR := Bq.new2 w (.cells #[.bool b2, .slice A2 n2 c2, .slice B2 m2 d2] 26) false none 0 0 none 0 0
  have HA := Lib.hid (ha.below BB)
  clear ha
  have x0 := PA.c0
  have x1 := PA.c1
  have x2 := PA.c2
  go_enter Tryz.func20, Tryz.ntmps20
  go_wp2_with fail
  refine (madeR_rat_Neg__1 (q' := -p) (k' := k) HA.out (by omega) hk1 fun W u hW hsz hu => cNeg1c hu (by omega) hsz).mono ?_
  clear x0 x1 x2 PA HA
  rintro e w1 ⟨_, rfl, hb1, q1⟩
  obtain ⟨b1, A1, n1, c1, B1, m1, d1, rfl, _⟩ := id q1
  replace PR := PR.below hb1
  replace BB := bl_trans BB hb1
  have r0 := PR.c0
  have f0 := PR.f 0
  have r1 := PR.c1
  have f1 := PR.f 1
  have r2 := PR.c2
  have f2 := PR.f 2
  clear hb1
  go_wp2_with fail
  exact bodyPost_ret (v := .agg #[.bool b1, .slice A1 n1 c1, .slice B1 m1 d1]) (by simp [results, Tryz.results20, go_sem, *]) rfl (fin_q (N := w.heap.size + 1 + 1) (q1.base (by simp)) BB (by omega) (by omega) _ _ _)

end Go.Proofs.YtbhgbilhoonopaaGreat
