/- slices.Equal of limbs; rat.Right. -/
import Derived.Test.YtbhgbilhoonopaaGreatQText
namespace Go.Proofs.YtbhgbilhoonopaaGreat
open Go.RowKit
set_option linter.unusedVariables false
set_option maxRecDepth 100000

set_option maxHeartbeats 1000000 in
theorem equal_any (A : Option Addr) (n c : Nat) (xs : List Nat) (B : Option Addr) (m d : Nat) (ys : List Nat) (w : World) (h : Rd w A n c xs) (k : Rd w B m d ys) (hm : n ≤ 4194304) (hm' : m ≤ 4194304) :
    Calls Tryz.prog 56 #[.slice A n c, .slice B m d] w fun e w' => e = .returned (.bool (decide (xs = ys))) ∧ Below w.heap.size w w' := by
  have H := Lib.hid h
  have K := Lib.hid k
  clear h k
  by_cases hnm : n = m
  · have hne : (((n : Nat) : Int) != (m : Int)) = false := by simp [hnm]
    subst hnm
    go_enter Tryz.func56, Tryz.ntmps56
    go_wp2
    go_loopw [13] (fun i wr => ∃ k : Nat, k ≤ n ∧ i = .int .i64 k ∧ xs.take k = ys.take k ∧ Below w.heap.size w wr) (fun i _ => n - (intOf i).toNat)
    case atStart => exact ⟨0, Nat.zero_le _, rfl, rfl, Below.refl _ _⟩
    case round =>
      obtain ⟨k, hk, rfl, ht, hb⟩ := hrel
      have HT := Lib.hid ht
      have HB := Lib.hid hb
      clear ht hb
      by_cases hkn : k < n
      · obtain ⟨b, o, x, hA, hx, hxl, hcell⟩ := (H.out.below HB.out).at32 hkn
        obtain ⟨b', o', y, hA', hy, hyl, hcell'⟩ := (K.out.below HB.out).at32 hkn
        subst hA hA'
        have HX := Lib.hid hx
        have HY := Lib.hid hy
        clear hx hy
        by_cases hxy : x = y
        · have hne2 : ((x : Int) != (y : Int)) = false := by simp [hxy]
          go_wp2
          go_quiet (fail)
          go_wp2
          go_roundw
          case rel => exact ⟨k + 1, by omega, by go_num, take_snoc_eq HT.out HX.out HY.out hxy, below_drewN HB.out _⟩
          case measure => simp [intOf]; omega
        · have hne2 : ((x : Int) != (y : Int)) = true := by simp; omega
          go_wp2
          go_quiet (fail)
          go_wp2
          go_ret
          refine ⟨ret_bool ?_, below_drewN HB.out _⟩
          symm
          rw [decide_eq_false_iff_not]
          intro e
          rw [e, HY.out] at HX
          exact hxy (Option.some.inj HX.out).symm
      · go_wp2
        go_ret
        refine ⟨ret_bool ?_, HB.out⟩
        symm
        rw [decide_eq_true_iff]
        have h1 := HT.out
        rw [List.take_of_length_le (by rw [H.out.len]; omega), List.take_of_length_le (by rw [K.out.len]; omega)] at h1
        exact h1
  · have hne : (((n : Nat) : Int) != (m : Int)) = true := by simp; omega
    go_enter Tryz.func56, Tryz.ntmps56
    go_wp2
    go_ret
    refine ⟨ret_bool ?_, Below.refl _ _⟩
    symm
    rw [decide_eq_false_iff_not]
    intro e
    exact hnm (by rw [← H.out.len, ← K.out.len, e])

/-- Limbs and a sign that are those of a right fraction. -/
def RightQ (b : Bool) (xs ys : List Nat) (q : Rat) : Prop := b = decide (q.num < 0) ∧ xs = M.lims q.num.natAbs ∧ ys = M.lims q.den

section
variable {w w' : World} {v v' : Value} {p q : Rat} {z u : Int} {k j N : Nat}
set_option maxHeartbeats 2000000

theorem cRight1c {r : Bool} {ga : Nat} {b2 : Bool} {A2 B2 : Option Addr} {n2 c2 m2 d2 : Nat} {xs ys : List Nat} (h : IsQ N w v q k) (PA : Bq w ga b2 A2 n2 c2 B2 m2 d2) (hx : Rd w A2 n2 c2 xs) (hy : Rd w B2 m2 d2 ys) (hn : n2 ≤ 1000) (hm : m2 ≤ 1000) (hk : k ≤ 1000) (hr : r = true ↔ RightQ b2 xs ys q) : Calls Tryz.prog 55 #[v, .pointer (some ⟨ga, 0, none⟩)] w (Ans w fun _ v => v = .bool r) := by
  obtain ⟨b3, A3, n3, c3, B3, m3, d3, rfl, Z, O, l⟩ := h
  have l1 := Z.le
  have hs := Z.neg
  have BB := bl_alloc w (.cells #[.bool b3, .slice A3 n3 c3, .slice B3 m3 d3] 26)
  have HX := Lib.hid (hx.below BB)
  have HY := Lib.hid (hy.below BB)
  have HN := Lib.hid (Z.tm.below BB).rd
  have HD := Lib.hid (OwK.rd (O.below BB))
  replace PA := PA.below BB
  have PB := Bq.new w b3 A3 n3 c3 B3 m3 d3
  clear Z O hx hy
  unfold RightQ at hr
  by_cases hst : b2 = b3
  · have e0 := PA.c0
    have e1 := PA.c1
    have e2 := PA.c2
    have g0 := PB.c0
    have g1 := PB.c1
    have g2 := PB.c2
    by_cases he : xs = M.lims q.num.natAbs
    · have HE := Lib.hid (show decide (xs = M.lims q.num.natAbs) = true from decide_eq_true he)
      have HF := Lib.hid (show decide (ys = M.lims q.den) = r by
        rw [Bool.eq_iff_iff, decide_eq_true_eq, hr]
        exact ⟨fun h => ⟨by rw [hst, hs], he, h⟩, fun h => h.2.2⟩)
      subst hst
      clear hs he hr
      cases b2
      all_goals
        go_enter Tryz.func55, Tryz.ntmps55
        go_wp2_with fail
        refine (equal_any _ _ _ _ _ _ _ _ _ HX.out HN.out (by omega) (by omega)).mono ?_
        rw [HE.out]
        rintro e w1 ⟨rfl, hb1⟩
        replace BB := bl_trans BB hb1
        replace HY := Lib.hid (HY.out.below hb1)
        replace HD := Lib.hid (HD.out.below hb1)
        replace PA := PA.below hb1
        replace PB := PB.below hb1
        clear e0 e1 e2 g0 g1 g2
        have e2 := PA.c2
        have g2 := PB.c2
        clear hb1 HX HN
        go_wp2_with fail
        refine (equal_any _ _ _ _ _ _ _ _ _ HY.out HD.out (by omega) (by omega)).mono ?_
        rw [HF.out]
        rintro e w2 ⟨rfl, hb2⟩
        replace BB := bl_trans BB hb2
        clear hb2 HY HD PA PB e2 g2
        go_wp2_with fail
        go_ret
        exact ⟨_, rfl, BB, rfl⟩
    · have HE := Lib.hid (show decide (xs = M.lims q.num.natAbs) = false from decide_eq_false he)
      obtain rfl : r = false := Bool.eq_false_iff.2 fun h => he (hr.1 h).2.1
      subst hst
      clear hs he hr
      cases b2
      all_goals
        go_enter Tryz.func55, Tryz.ntmps55
        go_wp2_with fail
        refine (equal_any _ _ _ _ _ _ _ _ _ HX.out HN.out (by omega) (by omega)).mono ?_
        rw [HE.out]
        rintro e w1 ⟨rfl, hb1⟩
        replace BB := bl_trans BB hb1
        clear hb1 HX HN HY HD e0 e1 e2 g0 g1 g2 PA PB
        go_wp2_with fail
        go_ret
        exact ⟨_, rfl, BB, rfl⟩
  · obtain rfl : r = false := Bool.eq_false_iff.2 fun h => hst (by rw [(hr.1 h).1, hs])
    have e0 := PA.c0
    have g0 := PB.c0
    clear hs hr HX HN HY HD
    cases b2 <;> cases b3
    · exact absurd rfl hst
    · clear hst
      go_enter Tryz.func55, Tryz.ntmps55
      go_wp2_with fail
      go_ret
      exact ⟨_, rfl, BB, rfl⟩
    · clear hst
      go_enter Tryz.func55, Tryz.ntmps55
      go_wp2_with fail
      go_ret
      exact ⟨_, rfl, BB, rfl⟩
    · exact absurd rfl hst

theorem cQRightR {r : Bool} {b2 : Bool} {A2 B2 : Option Addr} {n2 c2 m2 d2 : Nat} {xs ys : List Nat} (hx : Rd w A2 n2 c2 xs) (hy : Rd w B2 m2 d2 ys) (hn : n2 ≤ 900) (hm : m2 ≤ 900) (hr : r = true ↔ RightQ b2 xs ys (mkRat (zv b2 (M.val xs)) (dOf (M.val ys)))) : Calls Tryz.prog 18 #[.agg #[.bool b2, .slice A2 n2 c2, .slice B2 m2 d2]] w (Ans w fun _ v => v = .bool r) := by
  have BB := bl_alloc w (.cells #[.bool b2, .slice A2 n2 c2, .slice B2 m2 d2] 26)
  have PA := Bq.new w b2 A2 n2 c2 B2 m2 d2
  have HX := Lib.hid (hx.below BB)
  have HY := Lib.hid (hy.below BB)
  have HP := Lib.hid PA
  have HR := Lib.hid hr
  have x0 := PA.c0
  have x1 := PA.c1
  have x2 := PA.c2
  clear hx hy PA hr
  go_enter Tryz.func18, Tryz.ntmps18
  go_wp2_with fail
  refine (madeB_rat_Right__1 (k := 900) (Post := fun v => v = .bool r) ⟨_, _, _, _, _, _, _, rfl, _, _, ⟨⟨_, ⟨⟨_, HX.out, rfl⟩, hn⟩, rfl⟩⟩, ⟨⟨_, HY.out, rfl⟩, hm⟩, rfl⟩ (by omega) (by omega) fun W u hW hsz hu => cRight1c hu (HP.out.below hW) (HX.out.below hW) (HY.out.below hW) (by omega) (by omega) (by omega) HR.out).mono ?_
  rintro e w1 ⟨_, rfl, hb1, rfl⟩
  replace BB := bl_trans BB hb1
  clear hb1 x0 x1 x2 HX HY HP HR
  go_wp2_with fail
  go_ret
  exact ⟨_, rfl, BB, rfl⟩
/-- A right one is right. -/
theorem cQRight (h : IsQt w v q k) (hk : k ≤ 900) : Calls Tryz.prog 18 #[v] w (Ans w fun _ v => v = .bool true) := by
  obtain ⟨b2, A2, n2, c2, B2, m2, d2, rfl, Tn, hs, Td⟩ := h
  have l1 := Tn.le
  have l2 := Td.le
  refine cQRightR Tn.rd Td.rd (by omega) (by omega) ⟨fun _ => ?_, fun _ => rfl⟩
  have e : mkRat (zv b2 (M.val (M.lims q.num.natAbs))) (dOf (M.val (M.lims q.den))) = q := by
    rw [M.val_lims, M.val_lims, dOf_of q.den_nz, hs]
    have : zv (decide (q.num < 0)) q.num.natAbs = q.num := by
      by_cases h : q.num < 0
      · rw [decide_eq_true h, zv_true]; omega
      · rw [decide_eq_false h, zv_false]; omega
    rw [this, Rat.mkRat_self]
  rw [e]
  exact ⟨hs, rfl, rfl⟩
end

end Go.Proofs.YtbhgbilhoonopaaGreat
