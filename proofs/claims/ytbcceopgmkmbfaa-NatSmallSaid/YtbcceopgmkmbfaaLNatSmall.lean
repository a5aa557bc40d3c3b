/- litmuslaw01.NatSmall answers true at every input, and changes nothing that was there: its walk. -/
import Derived.Test.YtbcceopgmkmbfaaLBase
namespace Go.Proofs.Ytbcceopgmkmbfaa
open Go.RowKit

set_option maxHeartbeats 4000000 in
theorem natSmall_walk (n m : Nat) (A : Option Addr) (len cap : Nat) (xs0 : List Nat) (w : World) (hn : n < 18446744073709551616) (hm : m < 18446744073709551616) (h : Rd w A len cap xs0) (hl : len ≤ maxLen) :
    Calls Try.prog 12 #[.int .u64 (n : Int), .int .u64 (m : Int), .slice A len cap] w fun e w' => e = .returned (.bool true) ∧ Below w.heap.size w w' := by
  have H := Lib.hid h
  have HL := Lib.hid hl
  clear h hl
  go_enter Try.func12, Try.ntmps12
  go_wp2_with fail
  refine (works_any _).mono ?_
  rintro e w1 ⟨rfl, hb1⟩
  have H1 := Lib.hid (H.out.below hb1)
  have B1 := Lib.hid hb1
  clear hb1 H
  go_wp2_with fail
  refine (few_any _ _ _ _ _ _ H1.out HL.out (by omega) (by omega)).mono ?_
  rintro e w' ⟨rfl, rfl⟩
  obtain ⟨k, hk⟩ : ∃ k, min len (Int.toNat 6) = k := ⟨_, rfl⟩
  have hk6 : k ≤ 6 := by omega
  have hx := H1.out.take (m := k) (by omega)
  rw [hk]
  obtain ⟨xs, hxs⟩ : ∃ xs, xs0.take k = xs := ⟨_, rfl⟩
  rw [hxs] at hx
  have X1 := Lib.hid hx
  clear hx hk hxs H1
  go_wp2_with fail
  refine (from_any _ _ (by omega) (by omega)).mono ?_
  rw [Int.toNat_natCast]
  rintro e w2 ⟨A2, c2, rfl, ho2, hb2⟩
  have X2 := Lib.hid (X1.out.below hb2)
  have B2 := Lib.hid (bl_trans B1.out hb2)
  have N2 := Lib.hid ho2.rd
  clear ho2 hb2 X1 B1
  go_wp2_with fail
  have hln : (M.lims n).length ≤ 2 := M.lims_length_le.2 hn
  have hlm : (M.lims m).length ≤ 2 := M.lims_length_le.2 hm
  refine (small_any _ _ _ _ _ N2.out (by omega)).mono ?_
  rw [M.val_lims, sv_yes hn, sb_yes hn]
  rintro e w' ⟨rfl, rfl⟩
  go_wp2_with fail
  refine (from_any _ _ (by omega) (by omega)).mono ?_
  rw [Int.toNat_natCast]
  rintro e w3 ⟨A3, c3, rfl, ho3, hb3⟩
  have X3 := Lib.hid (X2.out.below hb3)
  have B3 := Lib.hid (bl_trans B2.out hb3)
  have N3 := Lib.hid ho3.rd
  clear ho3 hb3 X2 B2 N2
  go_wp2_with fail
  refine (from_any _ _ (by omega) (by omega)).mono ?_
  rw [Int.toNat_natCast]
  rintro e w4 ⟨A4, c4, rfl, ho4, hb4⟩
  have X4 := Lib.hid (X3.out.below hb4)
  have B4 := Lib.hid (bl_trans B3.out hb4)
  have N4 := Lib.hid (N3.out.below hb4)
  have M4 := Lib.hid ho4.rd
  clear ho4 hb4 X3 B3 N3
  go_wp2_with fail
  refine (add_any _ _ _ _ _ _ _ _ _ N4.out M4.out (by omega) (by omega)).mono ?_
  rw [M.val_lims, M.val_lims]
  rintro e w5 ⟨A5, c5, rfl, ho5, hb5⟩
  have X5 := Lib.hid (X4.out.below hb5)
  have B5 := Lib.hid (bl_trans B4.out hb5)
  have S5 := Lib.hid ho5.rd
  clear ho5 hb5 X4 B4 N4 M4
  have hls : (M.lims (n + m)).length ≤ 3 := M.lims_length_le.2 (by show n + m < M.R ^ 3; have : M.R ^ 3 = 79228162514264337593543950336 := by decide
                                                                   omega)
  go_wp2_with fail
  refine (small_any _ _ _ _ _ S5.out (by omega)).mono ?_
  rw [M.val_lims]
  rintro e w' ⟨rfl, rfl⟩
  go_wp2_with fail
  refine (small_any _ _ _ _ _ X5.out (by omega)).mono ?_
  rintro e w' ⟨rfl, rfl⟩
  obtain ⟨v, hv⟩ : ∃ v, M.val xs = v := ⟨_, rfl⟩
  rw [hv]
  have hvl : (M.lims v).length ≤ 6 := by
    have := M.lims_val_length_le X5.out.Lim
    rw [hv, X5.out.len] at this
    omega
  have HV := Lib.hid hv
  clear hv S5
  by_cases hs : n + m < 18446744073709551616
  · rw [sv_yes hs, sb_yes hs]
    by_cases hv : v < 18446744073709551616
    · rw [sv_yes hv, sb_yes hv]
      have hlv : (M.lims v).length ≤ 2 := M.lims_length_le.2 hv
      obtain ⟨nv, hnv⟩ : ∃ nv, (M.lims v).length = nv := ⟨_, rfl⟩
      rw [hnv] at hlv hvl
      have HNV := Lib.hid hnv
      clear hnv
      go_wp2_with fail
      refine (trim_any _ _ _ _ _ X5.out (by omega)).mono ?_
      rw [HV.out, Gives_len HNV.out]
      rintro e w6 ⟨A6, c6, rfl, ho6, hb6⟩
      have X6 := Lib.hid (X5.out.below hb6)
      have B6 := Lib.hid (bl_trans B5.out hb6)
      clear ho6 hb6
      go_wp2_with fail
      refine (from_any _ _ (by omega) (by omega)).mono ?_
      rw [Int.toNat_natCast, Gives_len HNV.out]
      rintro e w7 ⟨A7, c7, rfl, ho7, hb7⟩
      have X7 := Lib.hid (X6.out.below hb7)
      have B7 := Lib.hid (bl_trans B6.out hb7)
      have F7 := Lib.hid ho7.rd
      clear ho7 hb7
      go_wp2_with fail
      refine (trim_any _ _ _ _ _ X7.out (by omega)).mono ?_
      rw [HV.out, Gives_len HNV.out]
      rintro e w8 ⟨A8, c8, rfl, ho8, hb8⟩
      have F8 := Lib.hid (F7.out.below hb8)
      have B8 := Lib.hid (bl_trans B7.out hb8)
      have T8 := Lib.hid ho8.rd
      clear ho8 hb8
      go_wp2_with fail
      refine (same_yes _ _ _ _ _ _ _ _ _ F8.out T8.out (by omega) (by omega) rfl).mono ?_
      rintro e w9 ⟨rfl, hb9⟩
      go_wp2_with fail
      go_ret
      exact ⟨rfl, bl_trans B8.out hb9⟩
    · rw [sv_no hv, sb_no hv]
      have hlv : 2 < (M.lims v).length := Nat.lt_of_not_le fun hc => hv (M.lims_length_le.1 hc)
      obtain ⟨nv, hnv⟩ : ∃ nv, (M.lims v).length = nv := ⟨_, rfl⟩
      rw [hnv] at hlv hvl
      have HNV := Lib.hid hnv
      clear hnv
      go_wp2_with fail
      refine (trim_any _ _ _ _ _ X5.out (by omega)).mono ?_
      rw [HV.out, Gives_len HNV.out]
      rintro e w6 ⟨A6, c6, rfl, ho6, hb6⟩
      have B6 := Lib.hid (bl_trans B5.out hb6)
      clear ho6 hb6
      go_wp2_with fail
      go_ret
      exact ⟨rfl, B6.out⟩
  · rw [sv_no hs, sb_no hs]
    have hw1 : IntKind.u64.wrap ((n : Int) + (m : Int)) = (n : Int) + (m : Int) - 18446744073709551616 := by
      rw [IntKind.wrap_u64]
      omega
    by_cases hv : v < 18446744073709551616
    · rw [sv_yes hv, sb_yes hv]
      have hlv : (M.lims v).length ≤ 2 := M.lims_length_le.2 hv
      obtain ⟨nv, hnv⟩ : ∃ nv, (M.lims v).length = nv := ⟨_, rfl⟩
      rw [hnv] at hlv hvl
      have HNV := Lib.hid hnv
      clear hnv
      go_wp2_with fail
      refine (trim_any _ _ _ _ _ X5.out (by omega)).mono ?_
      rw [HV.out, Gives_len HNV.out]
      rintro e w6 ⟨A6, c6, rfl, ho6, hb6⟩
      have X6 := Lib.hid (X5.out.below hb6)
      have B6 := Lib.hid (bl_trans B5.out hb6)
      clear ho6 hb6
      go_wp2_with fail
      refine (from_any _ _ (by omega) (by omega)).mono ?_
      rw [Int.toNat_natCast, Gives_len HNV.out]
      rintro e w7 ⟨A7, c7, rfl, ho7, hb7⟩
      have X7 := Lib.hid (X6.out.below hb7)
      have B7 := Lib.hid (bl_trans B6.out hb7)
      have F7 := Lib.hid ho7.rd
      clear ho7 hb7
      go_wp2_with fail
      refine (trim_any _ _ _ _ _ X7.out (by omega)).mono ?_
      rw [HV.out, Gives_len HNV.out]
      rintro e w8 ⟨A8, c8, rfl, ho8, hb8⟩
      have F8 := Lib.hid (F7.out.below hb8)
      have B8 := Lib.hid (bl_trans B7.out hb8)
      have T8 := Lib.hid ho8.rd
      clear ho8 hb8
      go_wp2_with fail
      refine (same_yes _ _ _ _ _ _ _ _ _ F8.out T8.out (by omega) (by omega) rfl).mono ?_
      rintro e w9 ⟨rfl, hb9⟩
      go_wp2_with fail
      go_ret
      exact ⟨rfl, bl_trans B8.out hb9⟩
    · rw [sv_no hv, sb_no hv]
      have hlv : 2 < (M.lims v).length := Nat.lt_of_not_le fun hc => hv (M.lims_length_le.1 hc)
      obtain ⟨nv, hnv⟩ : ∃ nv, (M.lims v).length = nv := ⟨_, rfl⟩
      rw [hnv] at hlv hvl
      have HNV := Lib.hid hnv
      clear hnv
      go_wp2_with fail
      refine (trim_any _ _ _ _ _ X5.out (by omega)).mono ?_
      rw [HV.out, Gives_len HNV.out]
      rintro e w6 ⟨A6, c6, rfl, ho6, hb6⟩
      have B6 := Lib.hid (bl_trans B5.out hb6)
      clear ho6 hb6
      go_wp2_with fail
      go_ret
      exact ⟨rfl, B6.out⟩

end Go.Proofs.Ytbcceopgmkmbfaa
