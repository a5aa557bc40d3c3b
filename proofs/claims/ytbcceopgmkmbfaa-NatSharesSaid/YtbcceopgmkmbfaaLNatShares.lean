/- litmuslaw01.NatShares answers true at every input, and changes nothing that was there: its walk. -/
import Derived.Test.YtbcceopgmkmbfaaLOwn
namespace Go.Proofs.Ytbcceopgmkmbfaa
open Go.RowKit
set_option linter.unusedVariables false

set_option maxRecDepth 100000 in
set_option maxHeartbeats 4000000 in
theorem natShares_walk (A : Option Addr) (la ca : Nat) (ya : List Nat) (B : Option Addr) (lb cb : Nat) (yb : List Nat) (w : World) (ha : Rd w A la ca ya) (ga : la ≤ maxLen) (hb : Rd w B lb cb yb) (gb : lb ≤ maxLen) :
    Calls Try.prog 11 #[.slice A la ca, .slice B lb cb] w fun e w' => e = .returned (.bool true) ∧ Below w.heap.size w w' := by
  have Ha := Lib.hid ha
  have La := Lib.hid ga
  have Hb := Lib.hid hb
  have Lb := Lib.hid gb
  clear ha ga hb gb
  go_enter Try.func11, Try.ntmps11
  go_wp2_with fail
  refine (works_any _).mono ?_
  rintro e w0 ⟨rfl, BB⟩
  replace Ha := Lib.hid (Ha.out.below BB)
  replace Hb := Lib.hid (Hb.out.below BB)
  go_wp2_with fail
  refine (fewN Ha.out La.out 10 (by omega) (by omega)).mono ?_
  rintro e w' ⟨⟨na, xa, rfl, Na⟩, rfl⟩
  replace Na : Nm _ _ _ _ _ 10 := Na
  go_wp2_with fail
  refine (fewN Hb.out Lb.out 10 (by omega) (by omega)).mono ?_
  rintro e w' ⟨⟨nb, xb, rfl, Nb⟩, rfl⟩
  replace Nb : Nm _ _ _ _ _ 10 := Nb
  clear Ha La Hb Lb
  obtain ⟨xs, XA, _⟩ := Na.row
  obtain ⟨ys, XB, _⟩ := Nb.row
  have hna := Na.le
  have hnb := Nb.le
  clear Na Nb
  have HXA := Lib.hid XA
  have HXB := Lib.hid XB
  have HBB := Lib.hid BB
  clear XA XB BB
  go_wp2_with (first
    | (at_builtin; refine app_own kU32 _ rfl _ _ rfl w0.heap.size _ 0 0 [] rfl (OwK.lit0 (Nat.le_refl _)) _ na ca xs rfl (HXA.out.alloc _) (by omega) (by simp) ?_; intro Ax cx wx hox hgx; rw [Nat.zero_add] at hox ⊢; rw [List.nil_append] at hox; have HOX := Lib.hid hox; have HBX := Lib.hid (((Below.refl w0.heap.size w0).alloc (Nat.le_refl _) (.cells #[] 40)).grown hgx (by simp) (fun k hk => by cases hk; exact Nat.le_refl _)); clear hox hgx)
    | (at_builtin; refine app_own kU32 _ rfl _ _ rfl wx.heap.size _ 0 0 [] rfl (OwK.lit0 (Nat.le_refl _)) _ nb cb ys rfl ((HXB.out.below HBX.out).alloc _) (by omega) (by simp) ?_; intro Ay cy wy hoy hgy; rw [Nat.zero_add] at hoy ⊢; rw [List.nil_append] at hoy; have HOY := Lib.hid hoy; have HBY := Lib.hid (((Below.refl wx.heap.size wx).alloc (Nat.le_refl _) (.cells #[] 40)).grown hgy (by simp) (fun k hk => by cases hk; exact Nat.le_refl _)); clear hoy hgy))
  have X := HOX.out.rd.below HBY.out
  have Y := HOY.out.rd
  have XA := (HXA.out.below HBX.out).below HBY.out
  have XB := (HXB.out.below HBX.out).below HBY.out
  have BB := bl_trans (bl_trans HBB.out HBX.out) HBY.out
  have LX := Lib.hid (show ∀ p, Ax = some p → 0 < na → p.block < wy.heap.size from fun p hp hn => X.blk hn hp)
  have LY := Lib.hid (show ∀ p, Ay = some p → 0 < nb → p.block < wy.heap.size from fun p hp hn => Y.blk hn hp)
  have LA := Lib.hid (show ∀ p, A = some p → 0 < na → p.block < wy.heap.size from fun p hp hn => XA.blk hn hp)
  have LB := Lib.hid (show ∀ p, B = some p → 0 < nb → p.block < wy.heap.size from fun p hp hn => XB.blk hn hp)
  have LW := Lib.hid BB.size
  have S2 : Sz wy wy := Below.refl _ _
  clear HOX HOY HXA HXB HBB HBX HBY
  go_wp2_with fail
  refine (subO X Y (by omega) (by omega) S2.size).mono ?_
  rintro e w1 ⟨A1, n1, c1, b1, rfl, U, hb1⟩
  replace X := X.below hb1
  replace Y := Y.below hb1
  replace XA := XA.below hb1
  replace XB := XB.below hb1
  replace S2 := S2.below hb1
  replace BB := bl_trans BB hb1
  clear hb1
  go_wp2_with fail
  refine (divO X Y (by omega) (by omega) S2.size).mono ?_
  rintro e w2 ⟨A2, n2, c2, B2, m2, d2, o2, rfl, Q, R, hb2⟩
  replace X := X.below hb2
  replace Y := Y.below hb2
  replace XA := XA.below hb2
  replace XB := XB.below hb2
  replace S2 := S2.below hb2
  replace U := U.below hb2
  replace BB := bl_trans BB hb2
  clear hb2
  go_wp2_with fail
  refine (trimO X (by omega) S2.size).mono ?_
  rintro e w3 ⟨A3, n3, c3, rfl, T0, hb3⟩
  replace X := X.below hb3
  replace Y := Y.below hb3
  replace XA := XA.below hb3
  replace XB := XB.below hb3
  replace S2 := S2.below hb3
  replace U := U.below hb3
  replace Q := Q.below hb3
  replace R := R.below hb3
  replace BB := bl_trans BB hb3
  clear hb3
  go_wp2_with fail
  refine (addO X Y (by omega) (by omega) S2.size).mono ?_
  rintro e w4 ⟨A4, n4, c4, rfl, T1, hb4⟩
  replace X := X.below hb4
  replace Y := Y.below hb4
  replace XA := XA.below hb4
  replace XB := XB.below hb4
  replace S2 := S2.below hb4
  replace U := U.below hb4
  replace Q := Q.below hb4
  replace R := R.below hb4
  replace T0 := T0.below hb4
  replace BB := bl_trans BB hb4
  clear hb4
  go_wp2_with fail
  refine (addO X (RdK.empty _ _ _ (fun _ => rfl)) (by omega) (by omega) S2.size).mono ?_
  rintro e w5 ⟨A5, n5, c5, rfl, T2, hb5⟩
  replace X := X.below hb5
  replace Y := Y.below hb5
  replace XA := XA.below hb5
  replace XB := XB.below hb5
  replace S2 := S2.below hb5
  replace U := U.below hb5
  replace Q := Q.below hb5
  replace R := R.below hb5
  replace T0 := T0.below hb5
  replace T1 := T1.below hb5
  replace BB := bl_trans BB hb5
  clear hb5
  go_wp2_with fail
  refine (mulO X Y (by omega) (by omega) S2.size).mono ?_
  rintro e w6 ⟨A6, n6, c6, rfl, T3, hb6⟩
  replace X := X.below hb6
  replace Y := Y.below hb6
  replace XA := XA.below hb6
  replace XB := XB.below hb6
  replace S2 := S2.below hb6
  replace U := U.below hb6
  replace Q := Q.below hb6
  replace R := R.below hb6
  replace T0 := T0.below hb6
  replace T1 := T1.below hb6
  replace T2 := T2.below hb6
  replace BB := bl_trans BB hb6
  clear hb6
  go_wp2_with fail
  refine (gcdO X Y (by omega) (by omega) S2.size).mono ?_
  rintro e w7 ⟨A7, n7, c7, rfl, T4, hb7⟩
  replace X := X.below hb7
  replace Y := Y.below hb7
  replace XA := XA.below hb7
  replace XB := XB.below hb7
  replace S2 := S2.below hb7
  replace U := U.below hb7
  replace Q := Q.below hb7
  replace R := R.below hb7
  replace T0 := T0.below hb7
  replace T1 := T1.below hb7
  replace T2 := T2.below hb7
  replace T3 := T3.below hb7
  replace BB := bl_trans BB hb7
  clear hb7
  go_wp2_with fail
  refine (gcdO X (RdK.empty _ _ _ (fun _ => rfl)) (by omega) (by omega) S2.size).mono ?_
  rintro e w8 ⟨A8, n8, c8, rfl, T5, hb8⟩
  replace X := X.below hb8
  replace Y := Y.below hb8
  replace XA := XA.below hb8
  replace XB := XB.below hb8
  replace S2 := S2.below hb8
  replace U := U.below hb8
  replace Q := Q.below hb8
  replace R := R.below hb8
  replace T0 := T0.below hb8
  replace T1 := T1.below hb8
  replace T2 := T2.below hb8
  replace T3 := T3.below hb8
  replace T4 := T4.below hb8
  replace BB := bl_trans BB hb8
  clear hb8
  go_wp2_with fail
  refine (add_any _ _ _ _ _ _ _ _ _ (X.alloc _) (Y.alloc _) (by omega) (by omega)).mono ?_
  rintro e w9 ⟨As, cs, rfl, hos, hbs⟩
  have hb9 := bl_trans (bl_alloc _ _) hbs
  have SP : Spoil w9 w9 wy.heap.size w8.heap.size [⟨A3, n3, c3⟩, ⟨A4, n4, c4⟩, ⟨A5, n5, c5⟩, ⟨A6, n6, c6⟩, ⟨A7, n7, c7⟩, ⟨A8, n8, c8⟩, ⟨A1, n1, c1⟩, ⟨A2, n2, c2⟩, ⟨B2, m2, d2⟩] := by
    refine ⟨rfl, rfl, rfl, rfl, fun _ _ => rfl, ?_, ?_⟩
    · intro s hs
      simp only [List.mem_cons, List.not_mem_nil, or_false] at hs
      rcases hs with rfl | rfl | rfl | rfl | rfl | rfl | rfl | rfl | rfl
      · exact (T0.below hb9)
      · exact (T1.below hb9)
      · exact (T2.below hb9)
      · exact (T3.below hb9)
      · exact (T4.below hb9)
      · exact (T5.below hb9)
      · exact (U.below hb9)
      · exact (Q.below hb9)
      · exact (R.below hb9)
    · intro s hs
      simp only [List.mem_cons, List.not_mem_nil, or_false] at hs
      rcases hs with rfl | rfl | rfl | rfl | rfl | rfl | rfl | rfl | rfl
      · exact fun p hp => (T0.lt hp).2
      · exact fun p hp => (T1.lt hp).2
      · exact fun p hp => (T2.lt hp).2
      · exact fun p hp => (T3.lt hp).2
      · exact fun p hp => (T4.lt hp).2
      · exact fun p hp => (T5.lt hp).2
      · exact fun p hp => (U.lt hp).2
      · exact fun p hp => (Q.lt hp).2
      · exact fun p hp => (R.lt hp).2
  have hall : w9.heap[w8.heap.size]? = some (.cells (([⟨A3, n3, c3⟩, ⟨A4, n4, c4⟩, ⟨A5, n5, c5⟩, ⟨A6, n6, c6⟩, ⟨A7, n7, c7⟩, ⟨A8, n8, c8⟩, ⟨A1, n1, c1⟩, ⟨A2, n2, c2⟩, ⟨B2, m2, d2⟩] : List R3).map R3.v).toArray 22 (0, 0)) := (hbs.block _ (by simp)).trans (heap_alloc_new w8 _)
  obtain ⟨rs, hrs⟩ : ∃ rs : List R3, rs = [⟨A3, n3, c3⟩, ⟨A4, n4, c4⟩, ⟨A5, n5, c5⟩, ⟨A6, n6, c6⟩, ⟨A7, n7, c7⟩, ⟨A8, n8, c8⟩, ⟨A1, n1, c1⟩, ⟨A2, n2, c2⟩, ⟨B2, m2, d2⟩] := ⟨_, rfl⟩
  rw [← hrs] at SP hall
  have hlen : rs.length = 9 := by rw [hrs]; rfl
  have LS := Lib.hid (show ∀ p, As = some p → w8.heap.size ≤ p.block from fun p hp => by have := (hos.lt hp).1; simp at this; omega)
  have HX := Lib.hid (X.below hb9)
  have HY := Lib.hid (Y.below hb9)
  have HA := Lib.hid (XA.below hb9)
  have HB := Lib.hid (XB.below hb9)
  have HS := Lib.hid hos.rd
  have HBB := Lib.hid (bl_trans BB hb9)
  have HSP := Lib.hid SP
  have HALL := Lib.hid hall
  have HLEN := Lib.hid hlen
  obtain ⟨l, hl⟩ : ∃ l, l = M.lims (M.val xs + M.val ys) := ⟨_, rfl⟩
  rw [← hl] at HS ⊢
  have hll : l.length ≤ 100 := by
    rw [hl, M.lims_length_le]
    have h1 := M.val_lt_pow X.Lim (k := 40) (by rw [X.len]; omega)
    have h2 := M.val_lt_pow Y.Lim (k := 40) (by rw [Y.len]; omega)
    exact Nat.lt_of_lt_of_le (add_lt_pow h1 h2) (Nat.pow_le_pow_right M.R_pos (by omega))
  have HL := Lib.hid hl
  clear X Y XA XB BB S2 T0 T1 T2 T3 T4 T5 U Q R hos hbs hb9 SP hall hlen hrs hl
  go_wp2
  go_loopg [14] 9 (fun g v wr => ∃ i : Nat, i ≤ 9 ∧ g = 9 - i ∧ v = .int .i64 (i : Int) ∧ Spoil w9 wr wy.heap.size w8.heap.size rs)
  case atStart => exact ⟨0, by omega, rfl, rfl, HSP.out⟩
  case round =>
    obtain ⟨i, hi, hgi, rfl, sp⟩ := hrel
    by_cases h9 : i < 9
    · obtain ⟨⟨sA, sn, sc⟩, hs⟩ : ∃ s, rs[i]? = some s := ⟨rs[i]'(by rw [HLEN.out]; exact h9), List.getElem?_eq_getElem _⟩
      have hc := sp.cell HALL.out hs
      dsimp only at hc
      have hsn : sn ≤ 9223372036854775807 := (sp.own _ (List.mem_of_getElem? hs)).le
      have HS1 := Lib.hid sp
      have HSI := Lib.hid hs
      have HGI := Lib.hid hgi
      clear sp hs hgi
      go_wp2
      go_loopg [15] sn (fun g v wr => ∃ k : Nat, k ≤ sn ∧ g = sn - k ∧ v = .int .i64 (k : Int) ∧ Spoil w9 wr wy.heap.size w8.heap.size rs)
      case atStart => exact ⟨0, by omega, rfl, rfl, HS1.out⟩
      case round =>
        obtain ⟨k, hk, hgk, rfl, sp⟩ := hrel
        have hc2 := sp.cell HALL.out HSI.out
        dsimp only at hc2
        have HGK := Lib.hid hgk
        clear hgk hc HS1
        by_cases hkn : k < sn
        · obtain ⟨zs, ho⟩ := sp.own _ (List.mem_of_getElem? HSI.out)
          dsimp only at ho
          obtain ⟨g, rfl, hg1, hg2⟩ := ho.head (by omega)
          obtain ⟨x, hx⟩ : ∃ x, zs[k]? = some x := ⟨zs[k]'(by rw [ho.len]; exact hkn), List.getElem?_eq_getElem _⟩
          have c1 := ho.cellAt hx
          have f1 := ho.frozenAt k
          simp only [kU32] at c1
          have hxl := ho.lim x (List.mem_of_getElem? hx)
          obtain ⟨z, hz⟩ : ∃ z : Nat, z = (x + 1) % 4294967296 := ⟨_, rfl⟩
          have hzl : z < M.R := by rw [hz, M.R_eq]; omega
          have hz2 : ((x : Int) + 1) % 4294967296 = z := by rw [hz]; omega
          have HST := Lib.hid (sp.step (k := k) (List.mem_of_getElem? HSI.out) hzl)
          have hxl2 : x < 4294967296 := hxl
          clear sp ho hx hz hzl hxl
          go_wp2
          go_region
          go_wp2
          go_roundg (sn - (k + 1))
          case measure => have := HGK.out; omega
          case rel => exact ⟨k + 1, by omega, rfl, by go_num, HST.out⟩
        · have HS2 := Lib.hid sp
          clear sp
          go_wp2
          go_roundg (9 - (i + 1))
          case measure => have := HGI.out; omega
          case rel => exact ⟨i + 1, by omega, rfl, by go_num, HS2.out⟩
    · obtain rfl : i = 9 := by omega
      have HX' := Lib.hid (sp.rdLow HX.out LX.out)
      have HY' := Lib.hid (sp.rdLow HY.out LY.out)
      have HA' := Lib.hid (sp.rdLow HA.out LA.out)
      have HB' := Lib.hid (sp.rdLow HB.out LB.out)
      have HS' := Lib.hid (sp.rdHigh HS.out LS.out)
      have HBB' := Lib.hid (sp.below HBB.out LW.out)
      clear sp hgi HX HY HA HB HS HBB HSP HALL LX LY LA LB LW LS h9 hi HLEN
      go_wp2_with fail
      refine (same_yes _ _ _ _ _ _ _ _ _ HX'.out HA'.out (by omega) (by omega) rfl).mono ?_
      rintro e v1 ⟨rfl, g1⟩
      replace HX' := Lib.hid (HX'.out.below g1)
      replace HY' := Lib.hid (HY'.out.below g1)
      replace HB' := Lib.hid (HB'.out.below g1)
      replace HS' := Lib.hid (HS'.out.below g1)
      replace HBB' := Lib.hid (bl_trans HBB'.out g1)
      clear HA' g1
      go_wp2_with fail
      refine (same_yes _ _ _ _ _ _ _ _ _ HY'.out HB'.out (by omega) (by omega) rfl).mono ?_
      rintro e v2 ⟨rfl, g2⟩
      replace HX' := Lib.hid (HX'.out.below g2)
      replace HY' := Lib.hid (HY'.out.below g2)
      replace HS' := Lib.hid (HS'.out.below g2)
      replace HBB' := Lib.hid (bl_trans HBB'.out g2)
      clear HB' g2
      go_wp2_with fail
      refine (add_any _ _ _ _ _ _ _ _ _ HX'.out HY'.out (by omega) (by omega)).mono ?_
      rw [← HL.out]
      rintro e v3 ⟨A3', c3', rfl, o3, g3⟩
      have HO3 := Lib.hid o3.rd
      replace HS' := Lib.hid (HS'.out.below g3)
      replace HBB' := Lib.hid (bl_trans HBB'.out g3)
      clear HX' HY' o3 g3
      go_wp2_with fail
      refine (sub2_any _ _ _ _ _ HS'.out (by omega)).mono ?_
      rintro e v4 ⟨A4', c4', rfl, o4, g4⟩
      have HO4 := Lib.hid o4.rd
      replace HO3 := Lib.hid (HO3.out.below g4)
      replace HBB' := Lib.hid (bl_trans HBB'.out g4)
      clear HS' o4 g4
      go_wp2_with fail
      refine (same_yes _ _ _ _ _ _ _ _ _ HO3.out HO4.out (by omega) (by omega) rfl).mono ?_
      rintro e v5 ⟨rfl, g5⟩
      replace HBB' := Lib.hid (bl_trans HBB'.out g5)
      clear HO3 HO4 g5
      go_wp2_with fail
      go_ret
      exact ⟨rfl, HBB'.out⟩

end Go.Proofs.Ytbcceopgmkmbfaa
