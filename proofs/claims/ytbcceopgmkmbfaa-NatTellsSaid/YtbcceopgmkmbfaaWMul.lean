/- nat.longProduct, nat.product where the shorter row has fewer than 40 limbs, nat.Mul there. -/
import Derived.Test.YtbcceopgmkmbfaaWTimes
namespace Go.Proofs.Ytbcceopgmkmbfaa
open Go.RowKit
set_option linter.unusedVariables false

theorem take_piece (ds : List Nat) (k la r : Nat) (hd : ds.length = k + la) : ((ds ++ List.replicate r 0).drop k).take la = ds.drop k := by
  rw [List.drop_append_of_le_length (by omega), List.take_append_of_le_length (by rw [List.length_drop]; omega), List.take_of_length_le (by rw [List.length_drop]; omega)]

theorem set_piece (ds zs : List Nat) (k la r cy : Nat) (hd : ds.length = k + la) (hz : zs.length = la) :
    ((ds ++ List.replicate (r + 1) 0).take k ++ zs ++ (ds ++ List.replicate (r + 1) 0).drop (k + zs.length)).set (k + la) cy = (ds.take k ++ zs ++ [cy]) ++ List.replicate r 0 := by
  rw [List.take_append_of_le_length (by omega), hz, ← hd, List.drop_left, List.replicate_succ]
  have hl : ds.length = (ds.take k ++ zs).length := by rw [List.length_append, List.length_take, hz]; omega
  rw [hl, List.set_append, if_neg (by omega), Nat.sub_self]
  simp

set_option maxHeartbeats 2000000 in
theorem longProduct_any (A : Option Addr) (n c : Nat) (xs : List Nat) (B : Option Addr) (m d : Nat) (ys : List Nat) (w : World) (h : Rd w A n c xs) (k : Rd w B m d ys) (hmn : m ≤ n) (hn : n ≤ 1048576) :
    Calls Try.prog 69 #[.slice A n c, .slice B m d] w (Gives w (M.lims (M.val xs * M.val ys))) := by
  have H := Lib.hid h
  have K := Lib.hid k
  have hAb : ∀ p, A = some p → 0 < n → p.block ≠ w.heap.size := fun p hp hn' e => by have := h.blk hn' hp; omega
  have HAB := Lib.hid hAb
  clear h k hAb
  go_enter Try.func69, Try.ntmps69
  go_wp2_with (at_make; refine make_full kU32 _ rfl _ _ rfl .i64 .i64 _ _ (n + m) rfl rfl (by omega) (by omega) (by omega) M.R_pos ?_; intro w1 ho1 hb1; have HO1 := Lib.hid ho1; have HB1 := Lib.hid hb1; clear ho1 hb1)
  go_loopw [16] (fun i wr => ∃ (j : Nat) (ds : List Nat), j ≤ m ∧ i = .int .i64 j ∧ ds.length = j + n ∧ M.Lim ds ∧ M.val ds = M.val xs * M.val (ys.take j) ∧
      Own wr w.heap.size (some ⟨w.heap.size, 0, none⟩) (n + m) (n + m) (ds ++ List.replicate (m - j) 0) ∧ Below w.heap.size w wr) (fun i _ => m - (intOf i).toNat)
  case atStart =>
    refine ⟨0, List.replicate n 0, Nat.zero_le _, rfl, by simp, M.lim_replicate n, by rw [M.val_replicate]; simp [M.val], ?_, HB1.out⟩
    rw [Nat.sub_zero, List.replicate_append_replicate]
    exact HO1.out
  case round =>
    obtain ⟨j, ds, hj, rfl, hdl, hds, hv, ho, hb⟩ := hrel
    have HDL := Lib.hid hdl
    have HDS := Lib.hid hds
    have HV := Lib.hid hv
    have HO := Lib.hid ho
    have HB := Lib.hid hb
    clear hdl hds hv ho hb HO1 HB1
    by_cases hjm : j < m
    · obtain ⟨b, o', t, hA, ht, htl, hcell⟩ := (K.out.below HB.out).at32 hjm
      subst hA
      have hrd := H.out.below HB.out
      have hwr := OwK.wr (o := j) (m := n) HO.out (by omega)
      rw [take_piece ds j n _ HDL.out] at hwr
      rw [M.R_eq] at htl
      have hjc : ¬ n + m = j := by omega
      have HRD := Lib.hid hrd
      have HWR := Lib.hid hwr
      have HT := Lib.hid ht
      clear hrd hwr ht
      go_wp2_with fail
      refine (addTimes_any w.heap.size j n _ _ A c xs t wr HWR.out HRD.out HAB.out (by omega) htl).mono ?_
      rintro e w2 ⟨zs, cy, rfl, hcy, hzl, hzs, hzv, hp⟩
      have hstep := M.mul_step HDL.out hzl HT.out HV.out hzv
      have ho2 := HO.out.put hp (by omega) hzs
      obtain ⟨ho3, hg3⟩ := ho2.set_ (j + n) cy hcy
      have hrest : m - j = m - (j + 1) + 1 := by omega
      rw [hrest, set_piece ds zs j n _ cy HDL.out hzl] at ho3
      have hl2 : (((ds ++ List.replicate (m - j) 0).take j ++ zs ++ (ds ++ List.replicate (m - j) 0).drop (j + zs.length)))[j + n]? ≠ none := by
        rw [Ne, List.getElem?_eq_none_iff, ho2.len]
        omega
      obtain ⟨old, hold⟩ := Option.ne_none_iff_exists'.1 hl2
      have hcell2 := ho2.cellAt hold
      have hfz2 := ho2.frozenAt (j + n)
      simp only [kU32] at hcell2
      have hb3 : Below w.heap.size w (w2.setCell ⟨w.heap.size, j + n, none⟩ (kU32.enc cy)) :=
        (HB.out.grown hp.grown HB.out.size (fun k hk => by cases hk; exact Nat.le_refl _)).setCell (p := ⟨w.heap.size, j + n, none⟩) (Nat.le_refl _) _
      have hdl2 : (ds.take j ++ zs ++ [cy]).length = j + 1 + n := by
        rw [List.length_append, List.length_append, List.length_take, hzl, HDL.out]
        simp
        omega
      have hdlim : M.Lim (ds.take j ++ zs ++ [cy]) := ((HDS.out.take j).append hzs).append (M.Lim.cons hcy M.Lim.nil)
      have HST := Lib.hid hstep
      have HO3 := Lib.hid ho3
      have HB3 := Lib.hid hb3
      have HDL2 := Lib.hid hdl2
      have HLIM := Lib.hid hdlim
      clear hstep ho3 hb3 hdl2 hdlim hg3 ho2 hold hl2 hrest hzv hp hzl hzs hcy
      go_wp2
      go_roundw
      case rel => exact ⟨j + 1, _, by omega, by go_num, HDL2.out, HLIM.out, HST.out, HO3.out, HB3.out⟩
      case measure => simp [intOf]; omega
    · have hjm' : j = m := by omega
      have hv := HV.out
      have ho := HO.out
      rw [hjm', List.take_of_length_le (by rw [K.out.len]; exact Nat.le_refl _)] at hv
      rw [hjm', Nat.sub_self, List.replicate_zero, List.append_nil] at ho
      have hs := ho.short
      rw [M.tr_eq_lims HDS.out, hv] at hs
      have HV2 := Lib.hid hv
      have HO2 := Lib.hid ho
      have HS := Lib.hid hs
      clear hv ho hs hjm' HO HV
      go_wp2_with (go_at_call 41; refine (short_any _ _ _ _ _ HO2.out.rd (by omega)).mono ?_; rintro e w' ⟨rfl, rfl⟩)
      go_ret
      refine ⟨_, _, ret_slice ?_, HS.out, HB.out⟩
      rw [M.tr_eq_lims HDS.out, HV2.out]

set_option maxHeartbeats 1000000 in
theorem product_few (A : Option Addr) (n c : Nat) (xs : List Nat) (B : Option Addr) (m d : Nat) (ys : List Nat) (w : World) (h : Rd w A n c xs) (k : Rd w B m d ys) (hn : n ≤ 1048576) (hm : m ≤ 1048576) (hmn : min n m < 40) :
    Calls Try.prog 53 #[.slice A n c, .slice B m d] w (Gives w (M.lims (M.val xs * M.val ys))) := by
  have H := Lib.hid h
  have K := Lib.hid k
  clear h k
  by_cases hlt : n < m
  · have hn40 : n < 40 := by omega
    rw [Nat.mul_comm]
    go_enter Try.func53, Try.ntmps53
    go_wp2_with fail
    refine (longProduct_any _ _ _ _ _ _ _ _ _ K.out H.out (by omega) hm).mono ?_
    rintro e w1 ⟨A1, c1, rfl, ho1, hb1⟩
    go_wp2
    go_ret
    exact ⟨A1, c1, rfl, ho1, hb1⟩
  · have hn40 : m < 40 := by omega
    go_enter Try.func53, Try.ntmps53
    go_wp2_with fail
    refine (longProduct_any _ _ _ _ _ _ _ _ _ H.out K.out (by omega) hn).mono ?_
    rintro e w1 ⟨A1, c1, rfl, ho1, hb1⟩
    go_wp2
    go_ret
    exact ⟨A1, c1, rfl, ho1, hb1⟩

end Go.Proofs.Ytbcceopgmkmbfaa
