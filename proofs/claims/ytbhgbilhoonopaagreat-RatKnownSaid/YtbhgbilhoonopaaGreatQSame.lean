/- litmusref03's looks whether two are alike; litmuslaw03.same, few. -/
import Derived.Test.YtbhgbilhoonopaaGreatQSmall
namespace Go.Proofs.YtbhgbilhoonopaaGreat
open Go.RowKit
set_option linter.unusedVariables false
set_option maxRecDepth 100000

section
variable {w w' : World} {v v' : Value} {p q : Rat} {z u : Int} {k j N : Nat}
set_option maxHeartbeats 2000000

theorem rat_sign_ne {p q : Rat} (h : decide (p.num < 0) ≠ decide (q.num < 0)) : p ≠ q := fun e => h (by rw [e])

theorem cQSame {r : Bool} (h : IsQt w v p k) (g : IsQt w v' q j) (hk : k ≤ 1000) (hj : j ≤ 1000) (hr : r = true ↔ p = q) : Calls Tryz.prog 51 #[v, v'] w (Ans w fun _ v => v = .bool r) := by
  obtain ⟨b2, A2, n2, c2, B2, m2, d2, rfl, Tn, hs, Td⟩ := h
  obtain ⟨b3, A3, n3, c3, B3, m3, d3, rfl, Sn, ht, Sd⟩ := g
  have l1 := Tn.le
  have l2 := Td.le
  have l3 := Sn.le
  have l4 := Sd.le
  have BB := bl_trans (bl_alloc w (.cells #[.bool b2, .slice A2 n2 c2, .slice B2 m2 d2] 26)) (bl_alloc _ (.cells #[.bool b3, .slice A3 n3 c3, .slice B3 m3 d3] 26))
  have HN := Lib.hid (Tn.below BB).rd
  have HD := Lib.hid (Td.below BB).rd
  have HN' := Lib.hid (Sn.below BB).rd
  have HD' := Lib.hid (Sd.below BB).rd
  clear Tn Td Sn Sd
  have PA := (Bq.new w b2 A2 n2 c2 B2 m2 d2).alloc (.cells #[.bool b3, .slice A3 n3 c3, .slice B3 m3 d3] 26)
  have PB := Bq.new2 w (.cells #[.bool b2, .slice A2 n2 c2, .slice B2 m2 d2] 26) b3 A3 n3 c3 B3 m3 d3
  by_cases hst : b2 = b3
  · have hsg : (p.num < 0) ↔ (q.num < 0) := by
      rw [hs, ht] at hst
      simpa using hst
    have e1 := PA.c1
    have e2 := PA.c2
    have g1 := PB.c1
    have g2 := PB.c2
    have e0 := PA.c0
    have g0 := PB.c0
    by_cases hn : p.num = q.num
    · have HE := Lib.hid (show decide (M.lims p.num.natAbs = M.lims q.num.natAbs) = true from decide_eq_true (by rw [hn]))
      have HF := Lib.hid (show decide (M.lims p.den = M.lims q.den) = r by
        rw [Bool.eq_iff_iff, decide_eq_true_eq, M.lims_inj, hr]
        exact ⟨fun h => Rat.ext hn h, fun h => by rw [h]⟩)
      clear hr
      subst hst
      clear hs ht hsg hn
      cases b2
      all_goals
        go_enter Tryz.func51, Tryz.ntmps51
        go_wp2_with fail
        refine (Same_any _ _ _ _ _ _ _ _ _ HN.out HN'.out (by omega) (by omega)).mono ?_
        rw [HE.out]
        rintro e w1 ⟨rfl, hb1⟩
        replace BB := bl_trans BB hb1
        replace HD := Lib.hid (HD.out.below hb1)
        replace HD' := Lib.hid (HD'.out.below hb1)
        replace PA := PA.below hb1
        replace PB := PB.below hb1
        clear e0 e1 e2 g0 g1 g2
        have e2 := PA.c2
        have g2 := PB.c2
        clear hb1 HN HN'
        go_wp2_with fail
        refine (Same_any _ _ _ _ _ _ _ _ _ HD.out HD'.out (by omega) (by omega)).mono ?_
        rw [HF.out]
        rintro e w2 ⟨rfl, hb2⟩
        replace BB := bl_trans BB hb2
        clear hb2 HD HD' PA PB e2 g2
        go_wp2_with fail
        go_ret
        exact ⟨_, rfl, BB, rfl⟩
    · have HE := Lib.hid (show decide (M.lims p.num.natAbs = M.lims q.num.natAbs) = false from decide_eq_false (by rw [M.lims_inj]; omega))
      obtain rfl : r = false := Bool.eq_false_iff.2 fun h => hn (by rw [hr.1 h])
      subst hst
      clear hs ht hsg hn hr
      cases b2
      all_goals
        go_enter Tryz.func51, Tryz.ntmps51
        go_wp2_with fail
        refine (Same_any _ _ _ _ _ _ _ _ _ HN.out HN'.out (by omega) (by omega)).mono ?_
        rw [HE.out]
        rintro e w1 ⟨rfl, hb1⟩
        replace BB := bl_trans BB hb1
        clear hb1 HN HN' HD HD' e0 e1 e2 g0 g1 g2 PA PB
        go_wp2_with fail
        go_ret
        exact ⟨_, rfl, BB, rfl⟩
  · obtain rfl : r = false := Bool.eq_false_iff.2 fun h => hst (by rw [hs, ht, hr.1 h])
    have e0 := PA.c0
    have g0 := PB.c0
    clear hs ht hr HN HN' HD HD'
    cases b2 <;> cases b3
    · exact absurd rfl hst
    · clear hst
      go_enter Tryz.func51, Tryz.ntmps51
      go_wp2_with fail
      go_ret
      exact ⟨_, rfl, BB, rfl⟩
    · clear hst
      go_enter Tryz.func51, Tryz.ntmps51
      go_wp2_with fail
      go_ret
      exact ⟨_, rfl, BB, rfl⟩
    · exact absurd rfl hst

theorem cSame3 (h : IsQt w v p k) (g : IsQt w v' q j) (hk : k ≤ 1000) (hj : j ≤ 1000) {r : Bool} (hr : r = true ↔ p = q) : Calls Tryz.prog 15 #[v, v'] w (Ans w fun _ v => v = .bool r) := by
  obtain ⟨b2, A2, n2, c2, B2, m2, d2, rfl, y1⟩ := id h
  obtain ⟨b3, A3, n3, c3, B3, m3, d3, rfl, y2⟩ := id g
  clear y1 y2
  have BB := bl_trans (bl_alloc w (.cells #[.bool b2, .slice A2 n2 c2, .slice B2 m2 d2] 26)) (bl_alloc _ (.cells #[.bool b3, .slice A3 n3 c3, .slice B3 m3 d3] 26))
  have PA := (Bq.new w b2 A2 n2 c2 B2 m2 d2).alloc (.cells #[.bool b3, .slice A3 n3 c3, .slice B3 m3 d3] 26)
  have PB := Bq.new2 w (.cells #[.bool b2, .slice A2 n2 c2, .slice B2 m2 d2] 26) b3 A3 n3 c3 B3 m3 d3
  have HA := Lib.hid (h.below BB)
  have HB := Lib.hid (g.below BB)
  have HR := Lib.hid hr
  have e0 := PA.c0
  have e1 := PA.c1
  have e2 := PA.c2
  have g0 := PB.c0
  have g1 := PB.c1
  have g2 := PB.c2
  clear h g hr
  go_enter Tryz.func15, Tryz.ntmps15
  go_wp2_with fail
  refine (cQSame HA.out HB.out hk hj HR.out).mono ?_
  rintro e w1 ⟨_, rfl, hb1, rfl⟩
  replace BB := bl_trans BB hb1
  clear hb1 HA HB PA PB e0 e1 e2 g0 g1 g2
  go_wp2_with fail
  go_ret
  exact ⟨_, rfl, BB, rfl⟩

theorem cSameInt (h : IsT w v z k) (g : IsT w v' u j) (hk : k ≤ 1000) (hj : j ≤ 1000) : Calls Tryz.prog 32 #[v, v'] w (Ans w fun _ v => v = .bool (decide (z = u))) := by
  obtain ⟨s, A, n, c, rfl, T, hb⟩ := h
  obtain ⟨t, B, m, d, rfl, T', hb'⟩ := g
  have hl := T.le
  have hl' := T'.le
  have BB := bl_trans (bl_alloc w (.cells #[.bool s, .slice A n c] 24)) (bl_alloc _ (.cells #[.bool t, .slice B m d] 24))
  by_cases hst : s = t
  · subst hst
    have HX := Lib.hid (((T.alloc (.cells #[.bool s, .slice A n c] 24)).alloc (.cells #[.bool s, .slice B m d] 24)).rd)
    have HY := Lib.hid (((T'.alloc (.cells #[.bool s, .slice A n c] 24)).alloc (.cells #[.bool s, .slice B m d] 24)).rd)
    have HE := Lib.hid (show decide (M.lims z.natAbs = M.lims u.natAbs) = decide (z = u) by
      rw [decide_eq_decide, M.lims_inj]
      have h1 : (z < 0) ↔ (u < 0) := by
        rw [hb] at hb'
        simpa using hb'
      omega)
    clear T T' hb hb'
    cases s
    all_goals
      go_enter Tryz.func32, Tryz.ntmps32
      go_wp2_with fail
      refine (Same_any _ _ _ _ _ _ _ _ _ HX.out HY.out (by omega) (by omega)).mono ?_
      rw [HE.out]
      rintro e w1 ⟨rfl, hb1⟩
      replace BB := bl_trans BB hb1
      clear hb1 HX HY
      go_wp2_with fail
      go_ret
      exact ⟨_, rfl, BB, rfl⟩
  · have HE := Lib.hid (show decide (z = u) = false by
      refine decide_eq_false fun e => hst ?_
      rw [hb, hb', e])
    rw [HE.out]
    clear T T' hb hb'
    cases s <;> cases t
    · exact absurd rfl hst
    · clear hst
      go_enter Tryz.func32, Tryz.ntmps32
      go_wp2_with fail
      go_ret
      exact ⟨_, rfl, BB, rfl⟩
    · clear hst
      go_enter Tryz.func32, Tryz.ntmps32
      go_wp2_with fail
      go_ret
      exact ⟨_, rfl, BB, rfl⟩
    · exact absurd rfl hst

theorem cFew3 {b2 : Bool} {A2 B2 : Option Addr} {n2 c2 m2 d2 : Nat} (hc : n2 ≤ c2) (hd : m2 ≤ d2) (hn : n2 ≤ maxLen) (hm : m2 ≤ maxLen) (r : Nat) (x : Int) (hx : x = (r : Int)) (hr : r ≤ 100) : Calls Tryz.prog 12 #[.agg #[.bool b2, .slice A2 n2 c2, .slice B2 m2 d2], .int .i64 x] w (Ans w fun _ v => v = .agg #[.bool b2, .slice A2 (min n2 r) c2, .slice B2 (min m2 r) d2]) := by
  subst hx
  unfold maxLen at hn hm
  by_cases h1 : n2 < r
  · by_cases h2 : m2 < r
    · skip
      have hn : min n2 r = n2 := by omega
      have en : (n2 : Int) < (r : Int) := by omega
      rw [hn]
      clear hn
      have hm : min m2 r = m2 := by omega
      have em : (m2 : Int) < (r : Int) := by omega
      rw [hm]
      clear hm
      go_enter Tryz.func12, Tryz.ntmps12
      go_wp2_with fail
      all_goals exact bodyPost_ret (v := .agg #[.bool b2, .slice A2 n2 c2, .slice B2 m2 d2]) (by simp [results, Tryz.results12, go_sem] <;> omega) rfl ⟨_, rfl, bl_trans (bl_alloc _ _) (bl_alloc _ _), rfl⟩
    · skip
      have hn : min n2 r = n2 := by omega
      have en : (n2 : Int) < (r : Int) := by omega
      rw [hn]
      clear hn
      have hm : min m2 r = r := by omega
      have em : ¬ (m2 : Int) < (r : Int) := by omega
      have iim : (r : Int) ≤ (m2 : Int) := by omega
      have jjm : (r : Int) ≤ (d2 : Int) := by omega
      rw [hm]
      clear hm
      go_enter Tryz.func12, Tryz.ntmps12
      go_wp2_with fail
      all_goals exact bodyPost_ret (v := .agg #[.bool b2, .slice A2 n2 c2, .slice B2 r d2]) (by simp [results, Tryz.results12, go_sem] <;> omega) rfl ⟨_, rfl, bl_trans (bl_alloc _ _) (bl_alloc _ _), rfl⟩
  · by_cases h2 : m2 < r
    · skip
      have hn : min n2 r = r := by omega
      have en : ¬ (n2 : Int) < (r : Int) := by omega
      have iin : (r : Int) ≤ (n2 : Int) := by omega
      have jjn : (r : Int) ≤ (c2 : Int) := by omega
      rw [hn]
      clear hn
      have hm : min m2 r = m2 := by omega
      have em : (m2 : Int) < (r : Int) := by omega
      rw [hm]
      clear hm
      go_enter Tryz.func12, Tryz.ntmps12
      go_wp2_with fail
      all_goals exact bodyPost_ret (v := .agg #[.bool b2, .slice A2 r c2, .slice B2 m2 d2]) (by simp [results, Tryz.results12, go_sem] <;> omega) rfl ⟨_, rfl, bl_trans (bl_alloc _ _) (bl_alloc _ _), rfl⟩
    · skip
      have hn : min n2 r = r := by omega
      have en : ¬ (n2 : Int) < (r : Int) := by omega
      have iin : (r : Int) ≤ (n2 : Int) := by omega
      have jjn : (r : Int) ≤ (c2 : Int) := by omega
      rw [hn]
      clear hn
      have hm : min m2 r = r := by omega
      have em : ¬ (m2 : Int) < (r : Int) := by omega
      have iim : (r : Int) ≤ (m2 : Int) := by omega
      have jjm : (r : Int) ≤ (d2 : Int) := by omega
      rw [hm]
      clear hm
      go_enter Tryz.func12, Tryz.ntmps12
      go_wp2_with fail
      all_goals exact bodyPost_ret (v := .agg #[.bool b2, .slice A2 r c2, .slice B2 r d2]) (by simp [results, Tryz.results12, go_sem] <;> omega) rfl ⟨_, rfl, bl_trans (bl_alloc _ _) (bl_alloc _ _), rfl⟩

end

end Go.Proofs.YtbhgbilhoonopaaGreat
