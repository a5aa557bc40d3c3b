/- nat.divideBy divides a row in its own room by one limb: for every row of limbs in a block that may be written. -/
import Derived.Test.YtbhgbilhoonopaaGreatMB
import Derived.Test.YtbhgbilhoonopaaGreatMC
namespace Go.Proofs.YtbhgbilhoonopaaGreat
open Go.RowKit
set_option linter.unusedVariables false

def DivBy (w : World) (g o : Nat) (V d n : Nat) (e : Ending) (w' : World) : Prop :=
  ∃ ys, e = .returned (.int .u32 (V % d : Nat)) ∧ ys.length = n ∧ M.Lim ys ∧ M.val ys = V / d ∧ PutK kU32 w w' g o ys

set_option maxHeartbeats 1000000 in
theorem divideBy_any (g o n c : Nat) (xs : List Nat) (d : Nat) (w : World) (h : WrK kU32 w g o n xs) (hn : n ≤ 4194304) (hd : 0 < d) (hd' : d < 4294967296) :
    Calls Tryz.prog 148 #[.slice (some ⟨g, o, none⟩) n c, .int .u32 (d : Int)] w (DivBy w g o (M.val xs) d n) := by
  have H := Lib.hid h
  clear h
  go_enter Tryz.func148, Tryz.ntmps148
  go_wp2
  go_loopw [5, 6] (fun q i wr => ∃ (k left : Nat) (zs : List Nat), k ≤ n ∧ i = .int .i64 ((k : Int) - 1) ∧ q = .int .u64 left ∧ left < d ∧ zs.length = n - k ∧ M.Lim zs ∧
      M.val (xs.drop k) = M.val zs * d + left ∧ PutK kU32 w wr g (o + k) zs) (fun _ i _ => (intOf i + 1).toNat)
  case atStart => exact ⟨n, 0, [], Nat.le_refl _, rfl, rfl, hd, by simp, M.Lim.nil, by rw [List.drop_of_length_le (by rw [H.out.len]; exact Nat.le_refl _)]; simp [M.val], PutK.start H.out _⟩
  case round =>
    obtain ⟨k, left, zs, hk, rfl, rfl, hleft, hzl, hzs, hv, hp⟩ := hrel
    have HZL := Lib.hid hzl
    have HZS := Lib.hid hzs
    have HV := Lib.hid hv
    have HP := Lib.hid hp
    clear hzl hzs hv hp
    by_cases h0 : k = 0
    · subst h0
      have hdone := M.div_done hleft HV.out
      have HD := Lib.hid hdone
      clear hdone
      go_wp2
      go_ret
      refine ⟨zs, ret_int ?_, by rw [HZL.out]; omega, HZS.out, HD.out.1, HP.out⟩
      have := HD.out.2
      simp at this
      omega
    · obtain ⟨b, o', x, hA, hx, hxl, hcell⟩ := (H.out.rd (c := n) (Nat.le_refl _)).at32 (show k - 1 < n by omega)
      injection hA with hA
      injection hA with hA hA'
      subst hA hA'
      have hfz := HP.out.frozen (o + (k - 1))
      have hcell' : wr.cell? ⟨g, o + (k - 1), none⟩ = some (.int .u32 (x : Int)) := by rw [HP.out.cellOut (by omega)]; exact hcell
      rw [M.R_eq] at hxl
      obtain ⟨cur, hcur⟩ : ∃ cur : Nat, cur = 4294967296 * left + x := ⟨_, rfl⟩
      have hor : bits .or .u64 ((left : Int) * 4294967296) (x : Int) = (cur : Int) := by rw [hcur]; exact or_hi_lo x left hxl (by omega)
      have hcl : cur < 18446744073709551616 := by omega
      have hk1 : 1 ≤ k := by omega
      obtain ⟨q, hq⟩ : ∃ q : Nat, q = cur / d := ⟨_, rfl⟩
      obtain ⟨r, hr⟩ : ∃ r : Nat, r = cur % d := ⟨_, rfl⟩
      have hql : q < 4294967296 := by rw [hq, hcur]; exact M.div_limb_lt hleft (by rw [M.R_eq]; exact hxl)
      have hrl : r < d := by rw [hr]; exact Nat.mod_lt _ hd
      have hstep := M.div_step (x := x) hd HV.out
      rw [M.R_eq, ← hcur, ← hq, ← hr] at hstep
      have hq2 : (cur : Int) / (d : Int) = q := by rw [hq]; simp
      have hr2 : (cur : Int) % (d : Int) = r := by rw [hr]; simp
      have HST := Lib.hid hstep
      have HC := Lib.hid hcell
      have HX := Lib.hid hx
      clear hcur hcell hx hq hr hstep
      go_wp2
      go_roundw
      case rel =>
        have hpos : o + k = o + (k - 1) + 1 := by omega
        have hp2 := HP.out
        rw [hpos] at hp2
        refine ⟨k - 1, r, q :: zs, by omega, by go_num, by go_num, hrl, by simp [HZL.out]; omega, M.Lim.cons (by rw [M.R_eq]; exact hql) HZS.out, ?_, hp2.cons q HC.out⟩
        rw [M.drop_pred HX.out, show k - 1 + 1 = k by omega, M.val_cons, M.R_eq]
        exact HST.out
      case measure => simp [intOf]; omega

end Go.Proofs.YtbhgbilhoonopaaGreat

/- nat.addTimes and nat.scale, which write a row in its own room: for every row of limbs in a block that may be written. -/
namespace Go.Proofs.YtbhgbilhoonopaaGreat
open Go.RowKit
set_option linter.unusedVariables false

def AddT (w : World) (g o : Nat) (S n : Nat) (e : Ending) (w' : World) : Prop :=
  ∃ (ys : List Nat) (cy : Nat), e = .returned (.int .u32 (cy : Int)) ∧ cy < M.R ∧ ys.length = n ∧ M.Lim ys ∧ M.val ys + M.R ^ n * cy = S ∧ PutK kU32 w w' g o ys

set_option maxHeartbeats 1000000 in
theorem addTimes_any (g o n c : Nat) (us : List Nat) (A : Option Addr) (c' : Nat) (xs : List Nat) (t : Nat) (w : World) (h : WrK kU32 w g o n us) (h' : Rd w A n c' xs) (hne : ∀ p, A = some p → 0 < n → p.block ≠ g)
    (hn : n ≤ 4194304) (ht : t < 4294967296) :
    Calls Tryz.prog 156 #[.slice (some ⟨g, o, none⟩) n c, .slice A n c', .int .u32 (t : Int)] w (AddT w g o (M.val us + t * M.val xs) n) := by
  have H := Lib.hid h
  have H' := Lib.hid h'
  have HNE := Lib.hid hne
  clear h h' hne
  go_enter Tryz.func156, Tryz.ntmps156
  go_wp2
  go_loopw [7, 12] (fun q i wr => ∃ (k cy : Nat) (zs : List Nat), k ≤ n ∧ i = .int .i64 k ∧ q = .int .u64 cy ∧ cy < 4294967296 ∧ zs.length = k ∧ M.Lim zs ∧
      M.val zs + M.R ^ k * cy = M.val (us.take k) + t * M.val (xs.take k) ∧ PutK kU32 w wr g o zs) (fun _ i _ => n - (intOf i).toNat)
  case atStart => exact ⟨0, 0, [], Nat.zero_le _, rfl, rfl, by omega, rfl, M.Lim.nil, rfl, PutK.start H.out _⟩
  case round =>
    obtain ⟨k, cy, zs, hk, rfl, rfl, hcy, hzl, hzs, hv, hp⟩ := hrel
    have HZL := Lib.hid hzl
    have HZS := Lib.hid hzs
    have HV := Lib.hid hv
    have HP := Lib.hid hp
    clear hzl hzs hv hp
    by_cases hkn : k < n
    · obtain ⟨b1, o1, u, hA, hu, hul, hcellu⟩ := (H.out.rd (c := n) (Nat.le_refl _)).at32 hkn
      injection hA with hA
      injection hA with hA hA'
      subst hA hA'
      obtain ⟨b, o', x, hA, hx, hxl, hcellx⟩ := (H'.out.put HP.out HNE.out).at32 hkn
      subst hA
      have hfz := HP.out.frozen (o + k)
      have hcellu' : wr.cell? ⟨g, o + k, none⟩ = some (.int .u32 (u : Int)) := by rw [HP.out.cellOut (by rw [HZL.out]; omega)]; exact hcellu
      have hstep := M.addTimes_step hu hx HZL.out HV.out
      have hpl := M.limb_mul_le (t := t) hxl (by rw [M.R_eq]; exact ht)
      obtain ⟨p, hp⟩ : ∃ p : Nat, p = x * t := ⟨_, rfl⟩
      rw [← hp] at hstep hpl
      have hp2 : (x : Int) * (t : Int) = (p : Int) := by rw [hp]; simp
      have hd0 := Nat.mod_lt (cy + (p + u)) M.R_pos
      rw [M.R_eq] at hxl hul
      obtain ⟨d, hd⟩ : ∃ d : Nat, d = (cy + (p + u)) % M.R := ⟨_, rfl⟩
      obtain ⟨q, hq⟩ : ∃ q : Nat, q = (cy + (p + u)) / M.R := ⟨_, rfl⟩
      rw [← hd, ← hq] at hstep
      rw [← hd] at hd0
      have hql : q < 4294967296 := by rw [hq, M.R_eq]; omega
      have hd2 : ((cy : Int) + ((p : Int) + (u : Int))) % 4294967296 = d := by rw [hd, M.R_eq]; omega
      have hq2 : ((cy : Int) + ((p : Int) + (u : Int))) / 4294967296 = q := by rw [hq, M.R_eq]; omega
      have HD := Lib.hid hd0
      have HST := Lib.hid hstep
      have HC := Lib.hid hcellu
      clear hcellu hx hu hd hq hstep hd0 hp
      go_wp2
      go_roundw
      case rel =>
        have hc2 := HC.out
        rw [← HZL.out] at hc2
        have hp3 := HP.out.snoc d hc2
        rw [HZL.out] at hp3
        exact ⟨k + 1, q, zs ++ [d], by omega, by go_num, by go_num, hql, by simp [HZL.out], M.Lim.append HZS.out (M.Lim.cons HD.out M.Lim.nil), HST.out, hp3⟩
      case measure => simp [intOf]; omega
    · have hkn' : k = n := by omega
      have hmod : (cy : Int) % 4294967296 = cy := by omega
      have hcyR : cy < M.R := by rw [M.R_eq]; exact hcy
      have hv := HV.out
      rw [hkn', List.take_of_length_le (by rw [H.out.len]; exact Nat.le_refl _), List.take_of_length_le (by rw [H'.out.len]; exact Nat.le_refl _)] at hv
      have HV2 := Lib.hid hv
      have HCR := Lib.hid hcyR
      have HK := Lib.hid hkn'
      clear hv HV hcyR hkn'
      go_wp2
      go_ret
      exact ⟨zs, cy, rfl, HCR.out, by rw [HZL.out, HK.out], HZS.out, HV2.out, HP.out⟩

set_option maxHeartbeats 1000000 in
theorem scale_any (g o n c : Nat) (xs : List Nat) (t pl : Nat) (w : World) (h : WrK kU32 w g o n xs) (hn : n ≤ 4194304) (ht : t < 4294967296) (hpl : pl < 4294967296) :
    Calls Tryz.prog 128 #[.slice (some ⟨g, o, none⟩) n c, .int .u32 (t : Int), .int .u32 (pl : Int)] w (AddT w g o (pl + t * M.val xs) n) := by
  have H := Lib.hid h
  clear h
  go_enter Tryz.func128, Tryz.ntmps128
  go_wp2
  go_loopw [7, 14] (fun q i wr => ∃ (k cy : Nat) (zs : List Nat), k ≤ n ∧ i = .int .i64 k ∧ q = .int .u64 cy ∧ cy < 4294967296 ∧ zs.length = k ∧ M.Lim zs ∧
      M.val zs + M.R ^ k * cy = pl + t * M.val (xs.take k) ∧ PutK kU32 w wr g o zs) (fun _ i _ => n - (intOf i).toNat)
  case atStart => exact ⟨0, pl, [], Nat.zero_le _, rfl, rfl, by omega, rfl, M.Lim.nil, by simp [M.val], PutK.start H.out _⟩
  case round =>
    obtain ⟨k, cy, zs, hk, rfl, rfl, hcy, hzl, hzs, hv, hp⟩ := hrel
    have HZL := Lib.hid hzl
    have HZS := Lib.hid hzs
    have HV := Lib.hid hv
    have HP := Lib.hid hp
    clear hzl hzs hv hp
    by_cases hkn : k < n
    · obtain ⟨b1, o1, x, hA, hx, hxl, hcellu⟩ := (H.out.rd (c := n) (Nat.le_refl _)).at32 hkn
      injection hA with hA
      injection hA with hA hA'
      subst hA hA'
      have hfz := HP.out.frozen (o + k)
      have hcellu' : wr.cell? ⟨g, o + k, none⟩ = some (.int .u32 (x : Int)) := by rw [HP.out.cellOut (by rw [HZL.out]; omega)]; exact hcellu
      have hstep := M.scale_step hx HZL.out HV.out
      have hpb := M.limb_mul_le (t := t) hxl (by rw [M.R_eq]; exact ht)
      obtain ⟨p, hp⟩ : ∃ p : Nat, p = x * t := ⟨_, rfl⟩
      rw [← hp] at hstep hpb
      have hp2 : (x : Int) * (t : Int) = (p : Int) := by rw [hp]; simp
      have hd0 := Nat.mod_lt (cy + p) M.R_pos
      rw [M.R_eq] at hxl
      obtain ⟨d, hd⟩ : ∃ d : Nat, d = (cy + p) % M.R := ⟨_, rfl⟩
      obtain ⟨q, hq⟩ : ∃ q : Nat, q = (cy + p) / M.R := ⟨_, rfl⟩
      rw [← hd, ← hq] at hstep
      rw [← hd] at hd0
      have hql : q < 4294967296 := by rw [hq, M.R_eq]; omega
      have hd2 : ((cy : Int) + (p : Int)) % 4294967296 = d := by rw [hd, M.R_eq]; omega
      have hq2 : ((cy : Int) + (p : Int)) / 4294967296 = q := by rw [hq, M.R_eq]; omega
      have HD := Lib.hid hd0
      have HST := Lib.hid hstep
      have HC := Lib.hid hcellu
      clear hcellu hx hd hq hstep hd0 hp
      go_wp2
      go_roundw
      case rel =>
        have hc2 := HC.out
        rw [← HZL.out] at hc2
        have hp3 := HP.out.snoc d hc2
        rw [HZL.out] at hp3
        exact ⟨k + 1, q, zs ++ [d], by omega, by go_num, by go_num, hql, by simp [HZL.out], M.Lim.append HZS.out (M.Lim.cons HD.out M.Lim.nil), HST.out, hp3⟩
      case measure => simp [intOf]; omega
    · have hkn' : k = n := by omega
      have hmod : (cy : Int) % 4294967296 = cy := by omega
      have hcyR : cy < M.R := by rw [M.R_eq]; exact hcy
      have hv := HV.out
      rw [hkn', List.take_of_length_le (by rw [H.out.len]; exact Nat.le_refl _)] at hv
      have HV2 := Lib.hid hv
      have HCR := Lib.hid hcyR
      have HK := Lib.hid hkn'
      clear hv HV hcyR hkn'
      go_wp2
      go_ret
      exact ⟨zs, cy, rfl, HCR.out, by rw [HZL.out, HK.out], HZS.out, HV2.out, HP.out⟩

end Go.Proofs.YtbhgbilhoonopaaGreat

/- nat.longProduct, nat.product where the shorter row has fewer than 40 limbs, nat.Mul there. -/
namespace Go.Proofs.YtbhgbilhoonopaaGreat
open Go.RowKit
set_option linter.unusedVariables false

theorem take_piece (ds : List Nat) (k la r : Nat) (hd : ds.length = k + la) : ((ds ++ List.replicate r 0).drop k).take la = ds.drop k := by
  rw [List.drop_append_of_le_length (by omega), List.take_append_of_le_length (by rw [List.length_drop]; omega), List.take_of_length_le (by rw [List.length_drop]; omega)]

theorem set_piece (ds zs : List Nat) (k la r cy : Nat) (hd : ds.length = k + la) (hz : zs.length = la) :
    ((ds ++ List.replicate (r + 1) 0).take k ++ zs ++ (ds ++ List.replicate (r + 1) 0).drop (k + zs.length)).set (k + la) cy = (ds.take k ++ zs ++ [cy]) ++ List.replicate r 0 := by
  rw [List.take_append_of_le_length (by omega), hz, ← hd, List.drop_left, List.replicate_succ]
  have hl : ds.length = (ds.take k ++ zs).length := by rw [List.length_append, List.length_take, hz]; omega
  rw [hl, List.set_append, if_neg (by omega), Nat.sub_self]
  simp

set_option maxHeartbeats 2000000 in
theorem longProduct_any (A : Option Addr) (n c : Nat) (xs : List Nat) (B : Option Addr) (m d : Nat) (ys : List Nat) (w : World) (h : Rd w A n c xs) (k : Rd w B m d ys) (hmn : m ≤ n) (hn : n ≤ 1048576) :
    Calls Tryz.prog 141 #[.slice A n c, .slice B m d] w (Gives w (M.lims (M.val xs * M.val ys))) := by
  have H := Lib.hid h
  have K := Lib.hid k
  have hAb : ∀ p, A = some p → 0 < n → p.block ≠ w.heap.size := fun p hp hn' e => by have := h.blk hn' hp; omega
  have HAB := Lib.hid hAb
  clear h k hAb
  go_enter Tryz.func141, Tryz.ntmps141
  go_wp2_with (at_make; refine make_full kU32 _ rfl _ _ rfl .i64 .i64 _ _ (n + m) rfl rfl (by omega) (by omega) (by omega) M.R_pos ?_; intro w1 ho1 hb1; have HO1 := Lib.hid ho1; have HB1 := Lib.hid hb1; clear ho1 hb1)
  go_loopw [16] (fun i wr => ∃ (j : Nat) (ds : List Nat), j ≤ m ∧ i = .int .i64 j ∧ ds.length = j + n ∧ M.Lim ds ∧ M.val ds = M.val xs * M.val (ys.take j) ∧
      Own wr w.heap.size (some ⟨w.heap.size, 0, none⟩) (n + m) (n + m) (ds ++ List.replicate (m - j) 0) ∧ Below w.heap.size w wr) (fun i _ => m - (intOf i).toNat)
  case atStart =>
    refine ⟨0, List.replicate n 0, Nat.zero_le _, rfl, by simp, M.lim_replicate n, by rw [M.val_replicate]; simp [M.val], ?_, HB1.out⟩
    rw [Nat.sub_zero, List.replicate_append_replicate]
    exact HO1.out
  case round =>
    obtain ⟨j, ds, hj, rfl, hdl, hds, hv, ho, hb⟩ := hrel
    have HDL := Lib.hid hdl
    have HDS := Lib.hid hds
    have HV := Lib.hid hv
    have HO := Lib.hid ho
    have HB := Lib.hid hb
    clear hdl hds hv ho hb HO1 HB1
    by_cases hjm : j < m
    · obtain ⟨b, o', t, hA, ht, htl, hcell⟩ := (K.out.below HB.out).at32 hjm
      subst hA
      have hrd := H.out.below HB.out
      have hwr := OwK.wr (o := j) (m := n) HO.out (by omega)
      rw [take_piece ds j n _ HDL.out] at hwr
      rw [M.R_eq] at htl
      have hjc : ¬ n + m = j := by omega
      have HRD := Lib.hid hrd
      have HWR := Lib.hid hwr
      have HT := Lib.hid ht
      clear hrd hwr ht
      go_wp2_with fail
      refine (addTimes_any w.heap.size j n _ _ A c xs t wr HWR.out HRD.out HAB.out (by omega) htl).mono ?_
      rintro e w2 ⟨zs, cy, rfl, hcy, hzl, hzs, hzv, hp⟩
      have hstep := M.mul_step HDL.out hzl HT.out HV.out hzv
      have ho2 := HO.out.put hp (by omega) hzs
      obtain ⟨ho3, hg3⟩ := ho2.set_ (j + n) cy hcy
      have hrest : m - j = m - (j + 1) + 1 := by omega
      rw [hrest, set_piece ds zs j n _ cy HDL.out hzl] at ho3
      have hl2 : (((ds ++ List.replicate (m - j) 0).take j ++ zs ++ (ds ++ List.replicate (m - j) 0).drop (j + zs.length)))[j + n]? ≠ none := by
        rw [Ne, List.getElem?_eq_none_iff, ho2.len]
        omega
      obtain ⟨old, hold⟩ := Option.ne_none_iff_exists'.1 hl2
      have hcell2 := ho2.cellAt hold
      have hfz2 := ho2.frozenAt (j + n)
      simp only [kU32] at hcell2
      have hb3 : Below w.heap.size w (w2.setCell ⟨w.heap.size, j + n, none⟩ (kU32.enc cy)) :=
        (HB.out.grown hp.grown HB.out.size (fun k hk => by cases hk; exact Nat.le_refl _)).setCell (p := ⟨w.heap.size, j + n, none⟩) (Nat.le_refl _) _
      have hdl2 : (ds.take j ++ zs ++ [cy]).length = j + 1 + n := by
        rw [List.length_append, List.length_append, List.length_take, hzl, HDL.out]
        simp
        omega
      have hdlim : M.Lim (ds.take j ++ zs ++ [cy]) := ((HDS.out.take j).append hzs).append (M.Lim.cons hcy M.Lim.nil)
      have HST := Lib.hid hstep
      have HO3 := Lib.hid ho3
      have HB3 := Lib.hid hb3
      have HDL2 := Lib.hid hdl2
      have HLIM := Lib.hid hdlim
      clear hstep ho3 hb3 hdl2 hdlim hg3 ho2 hold hl2 hrest hzv hp hzl hzs hcy
      go_wp2
      go_roundw
      case rel => exact ⟨j + 1, _, by omega, by go_num, HDL2.out, HLIM.out, HST.out, HO3.out, HB3.out⟩
      case measure => simp [intOf]; omega
    · have hjm' : j = m := by omega
      have hv := HV.out
      have ho := HO.out
      rw [hjm', List.take_of_length_le (by rw [K.out.len]; exact Nat.le_refl _)] at hv
      rw [hjm', Nat.sub_self, List.replicate_zero, List.append_nil] at ho
      have hs := ho.short
      rw [M.tr_eq_lims HDS.out, hv] at hs
      have HV2 := Lib.hid hv
      have HO2 := Lib.hid ho
      have HS := Lib.hid hs
      clear hv ho hs hjm' HO HV
      go_wp2_with (go_at_call 111; refine (short_any _ _ _ _ _ HO2.out.rd (by omega)).mono ?_; rintro e w' ⟨rfl, rfl⟩)
      go_ret
      refine ⟨_, _, ret_slice ?_, HS.out, HB.out⟩
      rw [M.tr_eq_lims HDS.out, HV2.out]

set_option maxHeartbeats 1000000 in
theorem product_few (A : Option Addr) (n c : Nat) (xs : List Nat) (B : Option Addr) (m d : Nat) (ys : List Nat) (w : World) (h : Rd w A n c xs) (k : Rd w B m d ys) (hn : n ≤ 1048576) (hm : m ≤ 1048576) (hmn : min n m < 40) :
    Calls Tryz.prog 110 #[.slice A n c, .slice B m d] w (Gives w (M.lims (M.val xs * M.val ys))) := by
  have H := Lib.hid h
  have K := Lib.hid k
  clear h k
  by_cases hlt : n < m
  · have hn40 : n < 40 := by omega
    rw [Nat.mul_comm]
    go_enter Tryz.func110, Tryz.ntmps110
    go_wp2_with fail
    refine (longProduct_any _ _ _ _ _ _ _ _ _ K.out H.out (by omega) hm).mono ?_
    rintro e w1 ⟨A1, c1, rfl, ho1, hb1⟩
    go_wp2
    go_ret
    exact ⟨A1, c1, rfl, ho1, hb1⟩
  · have hn40 : m < 40 := by omega
    go_enter Tryz.func110, Tryz.ntmps110
    go_wp2_with fail
    refine (longProduct_any _ _ _ _ _ _ _ _ _ H.out K.out (by omega) hn).mono ?_
    rintro e w1 ⟨A1, c1, rfl, ho1, hb1⟩
    go_wp2
    go_ret
    exact ⟨A1, c1, rfl, ho1, hb1⟩

end Go.Proofs.YtbhgbilhoonopaaGreat

/- nat.Mul where one row has fewer than 40 limbs; nat.Div by 0, by more, and by one limb; nat.smallGcd; nat.Gcd of numbers below 2^64. -/
namespace Go.Proofs.YtbhgbilhoonopaaGreat
open Go.RowKit
set_option linter.unusedVariables false

set_option maxHeartbeats 1000000 in
theorem mul_few (A : Option Addr) (n c : Nat) (xs : List Nat) (B : Option Addr) (m d : Nat) (ys : List Nat) (w : World) (h : Rd w A n c xs) (k : Rd w B m d ys) (hn : n ≤ 1048576) (hm : m ≤ 1048576)
    (hmn : min (M.lims (M.val xs)).length (M.lims (M.val ys)).length < 40) :
    Calls Tryz.prog 68 #[.slice A n c, .slice B m d] w (Gives w (M.lims (M.val xs * M.val ys))) := by
  rw [← M.tr_eq_lims h.Lim, ← M.tr_eq_lims k.Lim] at hmn
  have h1 := M.tr_length_le xs
  have h2 := M.tr_length_le ys
  rw [h.len] at h1
  rw [k.len] at h2
  have hs := h.short
  have ks := k.short
  rw [← M.val_tr xs, ← M.val_tr ys]
  have H := Lib.hid h
  have K := Lib.hid k
  have HS := Lib.hid hs
  have KS := Lib.hid ks
  clear h k hs ks
  go_enter Tryz.func68, Tryz.ntmps68
  go_wp2_with fail
  refine (short_any _ _ _ _ _ H.out (by omega)).mono ?_
  rintro e w' ⟨rfl, rfl⟩
  go_wp2_with fail
  refine (short_any _ _ _ _ _ K.out (by omega)).mono ?_
  rintro e w' ⟨rfl, rfl⟩
  go_wp2_with fail
  refine (product_few _ _ _ _ _ _ _ _ _ HS.out KS.out (by omega) (by omega) hmn).mono ?_
  rintro e w1 ⟨A1, c1, rfl, ho1, hb1⟩
  go_wp2
  go_ret
  exact ⟨A1, c1, rfl, ho1, hb1⟩

/-- Div answers two new rows and a code. -/
def Gives2 (w : World) (xs ys : List Nat) (code : Int) (e : Ending) (w' : World) : Prop :=
  ∃ A c B d, e = .returned (.tuple #[.slice A xs.length c, .slice B ys.length d, .int .i64 code]) ∧ Own w' w.heap.size A xs.length c xs ∧ Own w' w.heap.size B ys.length d ys ∧
    (∀ p q, A = some p → B = some q → p.block ≠ q.block) ∧ Below w.heap.size w w'

set_option maxHeartbeats 1000000 in
theorem div_zero (A : Option Addr) (n c : Nat) (xs : List Nat) (B : Option Addr) (m d : Nat) (ys : List Nat) (w : World) (h : Rd w A n c xs) (k : Rd w B m d ys) (hn : n ≤ 1048576) (hm : m ≤ 1048576) (h0 : M.val ys = 0) :
    Calls Tryz.prog 133 #[.slice A n c, .slice B m d] w (Gives2 w [] [] 3) := by
  have hy : (M.tr ys).length = 0 := by rw [(M.tr_eq_nil_iff ys).2 h0]; rfl
  have H := Lib.hid h
  have K := Lib.hid k
  have HY := Lib.hid hy
  clear h k hy
  go_enter Tryz.func133, Tryz.ntmps133
  go_wp2_with fail
  refine (short_any _ _ _ _ _ H.out (by omega)).mono ?_
  rintro e w' ⟨rfl, rfl⟩
  go_wp2_with fail
  refine (short_any _ _ _ _ _ K.out (by omega)).mono ?_
  rw [HY.out]
  rintro e w' ⟨rfl, rfl⟩
  go_wp2_with fail
  go_ret3
  exact ⟨none, 0, none, 0, rfl, OwK.nil_ _ _, OwK.nil_ _ _, (fun _ _ h => by cases h), Below.refl _ _⟩

set_option maxHeartbeats 1000000 in
theorem div_less (A : Option Addr) (n c : Nat) (xs : List Nat) (B : Option Addr) (m d : Nat) (ys : List Nat) (w : World) (h : Rd w A n c xs) (k : Rd w B m d ys) (hn : n ≤ 1048576) (hm : m ≤ 1048576)
    (hl : (M.tr xs).length < (M.tr ys).length) : Calls Tryz.prog 133 #[.slice A n c, .slice B m d] w (Gives2 w [] (M.tr xs) 0) := by
  have h1 := M.tr_length_le xs
  have h2 := M.tr_length_le ys
  rw [h.len] at h1
  rw [k.len] at h2
  have hs := h.short
  have H := Lib.hid h
  have K := Lib.hid k
  have HS := Lib.hid hs
  clear h k hs
  obtain ⟨nx, hnx⟩ : ∃ nx, (M.tr xs).length = nx := ⟨_, rfl⟩
  obtain ⟨ny, hny⟩ : ∃ ny, (M.tr ys).length = ny := ⟨_, rfl⟩
  rw [hnx, hny] at hl
  rw [hnx] at h1 HS
  rw [hny] at h2
  have HNX := Lib.hid hnx
  have HNY := Lib.hid hny
  clear hnx hny
  have hne : ((ny : Int) == 0) = false := by simp; omega
  go_enter Tryz.func133, Tryz.ntmps133
  go_wp2_with fail
  refine (short_any _ _ _ _ _ H.out (by omega)).mono ?_
  rw [HNX.out]
  rintro e w' ⟨rfl, rfl⟩
  go_wp2_with fail
  refine (short_any _ _ _ _ _ K.out (by omega)).mono ?_
  rw [HNY.out]
  rintro e w' ⟨rfl, rfl⟩
  go_wp2_with fail
  refine (clone_any _ _ _ _ _ HS.out (by omega)).mono ?_
  rintro e w1 ⟨A1, c1, rfl, ho1, hb1⟩
  go_wp2_with fail
  go_ret3
  exact ⟨none, 0, A1, c1, rfl, OwK.nil_ _ _, ho1, (fun _ _ h => by cases h), hb1⟩

end Go.Proofs.YtbhgbilhoonopaaGreat

/- nat.Div by a number of one limb; nat.smallGcd; nat.Gcd of numbers below 2^64. -/
namespace Go.Proofs.YtbhgbilhoonopaaGreat
open Go.RowKit
set_option linter.unusedVariables false

theorem OwK.head {α : Type} {K : Kd α} {w : World} {base n c : Nat} {A : Option Addr} {xs : List α} (h : OwK K w base A n c xs) (hn : 0 < n) : ∃ g, A = some ⟨g, 0, none⟩ ∧ base ≤ g ∧ g < w.heap.size := by
  rcases h.cases with ⟨_, h0, _⟩ | ⟨g, cur, hg, hb, hh, _⟩
  · omega
  · exact ⟨g, hg, hb, (Array.getElem?_eq_some_iff.1 hh).1⟩

theorem Gives_len {w : World} {xs : List Nat} {n : Nat} (h : xs.length = n) : Gives w xs = fun e w' => ∃ A c, e = .returned (.slice A n c) ∧ Own w' w.heap.size A n c xs ∧ Below w.heap.size w w' := by
  subst h
  rfl

set_option maxHeartbeats 2000000 in
theorem div_limb (A : Option Addr) (n c : Nat) (xs : List Nat) (B : Option Addr) (m d : Nat) (ys : List Nat) (y : Nat) (w : World) (h : Rd w A n c xs) (k : Rd w B m d ys) (hn : n ≤ 1048576) (hm : m ≤ 1048576)
    (hy : M.tr ys = [y]) (hx : 1 ≤ (M.tr xs).length) : Calls Tryz.prog 133 #[.slice A n c, .slice B m d] w (Gives2 w (M.lims (M.val xs / y)) (M.lims (M.val xs % y)) 0) := by
  have h1 := M.tr_length_le xs
  rw [h.len] at h1
  have hs := h.short
  have ks := k.short
  rw [hy] at ks
  obtain ⟨b, o, y', hB, hy', hyl, hcell⟩ := ks.at32 (i := 0) (by simp)
  simp at hy'
  subst hy'
  subst hB
  have hypos : 0 < y := by
    rcases Nat.eq_zero_or_pos y with h0 | h0
    · have := M.tr_tr ys
      rw [hy, h0] at this
      simp [M.tr] at this
    · exact h0
  rw [M.R_eq] at hyl
  rw [← M.val_tr xs]
  have hblt : b < w.heap.size := World.block_lt_of_cell? w _ hcell
  have H := Lib.hid h
  have K := Lib.hid k
  have HS := Lib.hid hs
  have HY := Lib.hid hy
  have HC := Lib.hid hcell
  clear h k hs ks hy hcell
  obtain ⟨nx, hnx⟩ : ∃ nx, (M.tr xs).length = nx := ⟨_, rfl⟩
  rw [hnx] at h1 hx HS
  have HNX := Lib.hid hnx
  clear hnx
  have hne : ((nx : Int) < 1) = False := by simp; omega
  go_enter Tryz.func133, Tryz.ntmps133
  go_wp2_with fail
  refine (short_any _ _ _ _ _ H.out (by omega)).mono ?_
  rw [HNX.out]
  rintro e w' ⟨rfl, rfl⟩
  go_wp2_with fail
  refine (short_any _ _ _ _ _ K.out (by omega)).mono ?_
  rw [HY.out]
  rintro e w' ⟨rfl, rfl⟩
  go_wp2_with fail
  refine (clone_any _ _ _ _ _ HS.out (by omega)).mono ?_
  rw [Gives_len HNX.out]
  rintro e w1 ⟨A1, c1, rfl, ho1, hb1⟩
  obtain ⟨g, rfl, hg, hg'⟩ := ho1.head (by omega)
  have hcell1 : w1.cell? ⟨b, o, none⟩ = some (.int .u32 (y : Int)) := (hb1.cell (p := ⟨b, o, none⟩) hblt).trans HC.out
  have hwr := OwK.wr (o := 0) (m := nx) ho1 (by omega)
  rw [List.drop_zero, List.take_of_length_le (by rw [HNX.out]; exact Nat.le_refl _)] at hwr
  have HO1 := Lib.hid ho1
  have HB1 := Lib.hid hb1
  have HW := Lib.hid hwr
  clear ho1 hb1 hwr
  go_wp2_with fail
  refine (divideBy_any g 0 nx c1 _ y w1 HW.out (by omega) hypos hyl).mono ?_
  rintro e w2 ⟨zs, rfl, hzl, hzs, hzv, hp⟩
  have ho2 := HO1.out.put hp (by omega) hzs
  rw [List.take_zero, List.nil_append, Nat.zero_add, hzl, List.drop_of_length_le (by rw [HNX.out]; exact Nat.le_refl _), List.append_nil] at ho2
  have hb2 : Below w.heap.size w w2 := HB1.out.grown hp.grown HB1.out.size (fun k hk => by cases hk; exact hg)
  have hlt2 : M.val (M.tr xs) % y < y := Nat.mod_lt _ hypos
  obtain ⟨r, hr⟩ : ∃ r, M.val (M.tr xs) % y = r := ⟨_, rfl⟩
  rw [hr] at hlt2 ⊢
  have hs2 := ho2.short
  have hsz : g < w2.heap.size := by rw [hp.size]; exact hg'
  rw [M.tr_eq_lims hzs, hzv] at hs2
  have hsl : (M.tr zs).length = (M.lims (M.val (M.tr xs) / y)).length := by rw [M.tr_eq_lims hzs, hzv]
  have HO2 := Lib.hid ho2
  have HB2 := Lib.hid hb2
  have HS2 := Lib.hid hs2
  have HSL := Lib.hid hsl
  have HR := Lib.hid hr
  clear ho2 hb2 hs2 hzs hzv hp hr hsl hzl
  go_wp2_with fail
  refine (short_any _ _ _ _ _ HO2.out.rd (by omega)).mono ?_
  rw [HSL.out]
  rintro e w' ⟨rfl, rfl⟩
  go_wp2_with fail
  refine (from_any _ _ (by omega) (by omega)).mono ?_
  rw [Int.toNat_natCast]
  rintro e w3 ⟨B3, c3, rfl, ho3, hb3⟩
  go_wp2_with fail
  go_ret3
  rw [HR.out]
  refine ⟨_, _, B3, c3, rfl, HS2.out.below hb3, ho3.mono HB2.out.size, ?_, HB2.out.trans (hb3.mono HB2.out.size)⟩
  intro p q hp hq e
  cases hp
  have := (ho3.lt hq).1
  dsimp only at e
  omega

set_option maxHeartbeats 1000000 in
theorem smallGcd_any (x y : Nat) (w : World) (hx : x < 18446744073709551616) (hy : y < 18446744073709551616) :
    Calls Tryz.prog 132 #[.int .u64 (x : Int), .int .u64 (y : Int)] w fun e w' => e = .returned (.int .u64 (Nat.gcd x y : Nat)) ∧ Below w.heap.size w w' := by
  go_enter Tryz.func132, Tryz.ntmps132
  go_wp2
  go_loopw [0, 1] (fun p q wr => ∃ a b : Nat, p = .int .u64 a ∧ q = .int .u64 b ∧ a < 18446744073709551616 ∧ b < 18446744073709551616 ∧ Nat.gcd a b = Nat.gcd x y ∧ Below w.heap.size w wr) (fun _ q _ => (intOf q).toNat)
  case atStart => exact ⟨x, y, rfl, rfl, hx, hy, rfl, Below.refl _ _⟩
  case round =>
    obtain ⟨a, b, rfl, rfl, ha, hb, hg, hB⟩ := hrel
    have HG := Lib.hid hg
    have HB := Lib.hid hB
    clear hg hB
    by_cases hb0 : b = 0
    · subst hb0
      have HG2 := Lib.hid (show a = Nat.gcd x y by rw [← HG.out, Nat.gcd_zero_right])
      go_wp2
      go_ret
      exact ⟨ret_int (by rw [← HG2.out]), HB.out⟩
    · have hbne : ((b : Int) != 0) = true := by simp; omega
      have hbp : 0 < b := by omega
      obtain ⟨r, hr⟩ : ∃ r : Nat, r = a % b := ⟨_, rfl⟩
      have hrl : r < b := by rw [hr]; exact Nat.mod_lt _ hbp
      have hg2 : Nat.gcd b r = Nat.gcd x y := by rw [← HG.out, hr, Nat.gcd_comm a b, Nat.gcd_rec b a, Nat.gcd_comm]
      have hr2 : (a : Int) % (b : Int) = r := by rw [hr]; simp
      have HG2 := Lib.hid hg2
      clear hg2 hr hb0 HG
      go_wp2
      go_quiet (fail)
      go_wp2
      go_roundw
      case rel => exact ⟨b, r, rfl, by go_num, hb, by omega, HG2.out, below_drewN HB.out _⟩
      case measure => simp [intOf]; omega

set_option maxHeartbeats 2000000 in
theorem gcd_small (A : Option Addr) (n c : Nat) (xs : List Nat) (B : Option Addr) (m d : Nat) (ys : List Nat) (w : World) (h : Rd w A n c xs) (k : Rd w B m d ys) (hn : n ≤ 1048576) (hm : m ≤ 1048576)
    (hx : M.val xs < 18446744073709551616) (hy : M.val ys < 18446744073709551616) : Calls Tryz.prog 99 #[.slice A n c, .slice B m d] w (Gives w (M.lims (Nat.gcd (M.val xs) (M.val ys)))) := by
  have H := Lib.hid h
  have K := Lib.hid k
  clear h k
  have hlx : (M.lims (M.val xs)).length ≤ 1048576 := by have := M.lims_val_length_le H.out.Lim; rw [H.out.len] at this; omega
  have hly : (M.lims (M.val ys)).length ≤ 1048576 := by have := M.lims_val_length_le K.out.Lim; rw [K.out.len] at this; omega
  have e1 := M.val_lims (M.val xs)
  have e2 := M.val_lims (M.val ys)
  obtain ⟨nx, hnx⟩ : ∃ nx, (M.lims (M.val xs)).length = nx := ⟨_, rfl⟩
  obtain ⟨ny, hny⟩ : ∃ ny, (M.lims (M.val ys)).length = ny := ⟨_, rfl⟩
  rw [hnx] at hlx
  rw [hny] at hly
  have HNX := Lib.hid hnx
  have HNY := Lib.hid hny
  have E1 := Lib.hid e1
  have E2 := Lib.hid e2
  clear hnx hny e1 e2
  go_enter Tryz.func99, Tryz.ntmps99
  go_wp2_with fail
  refine (trim_any _ _ _ _ _ H.out (by omega)).mono ?_
  rw [Gives_len HNX.out]
  rintro e w1 ⟨A1, c1, rfl, ho1, hb1⟩
  have HO1 := Lib.hid ho1
  have HB1 := Lib.hid hb1
  clear ho1 hb1
  go_wp2_with fail
  refine (trim_any _ _ _ _ _ (K.out.below HB1.out) (by omega)).mono ?_
  rw [Gives_len HNY.out]
  rintro e w2 ⟨A2, c2, rfl, ho2, hb2⟩
  have HO2 := Lib.hid ho2
  have HB2 := Lib.hid hb2
  clear ho2 hb2
  go_wp2_with fail
  go_loop [0, 1] (fun p q => p = .slice A1 nx c1 ∧ q = .slice A2 ny c2) (fun _ _ => 0)
  case atStart => exact ⟨rfl, rfl⟩
  case round =>
    obtain ⟨rfl, rfl⟩ := hrel
    have hO1 := HO1.out.below HB2.out
    have HO1' := Lib.hid hO1
    clear hO1
    by_cases h0 : ny = 0
    · have hv : M.val ys = 0 := by
        have := HNY.out
        rw [h0] at this
        exact M.lims_eq_nil.1 (List.eq_nil_of_length_eq_zero this)
      have HG := Lib.hid (show Nat.gcd (M.val xs) (M.val ys) = M.val xs by rw [hv, Nat.gcd_zero_right])
      clear hv
      subst h0
      go_wp2_with fail
      go_ret
      rw [HG.out, Gives_len HNX.out]
      exact ⟨A1, c1, rfl, HO1'.out, HB1.out.trans (HB2.out.mono HB1.out.size)⟩
    · have hpos : 0 < ny := by omega
      have hgl : Nat.gcd (M.val xs) (M.val ys) < 18446744073709551616 := by
        have h1 : 0 < M.val ys := by
          rcases Nat.eq_zero_or_pos (M.val ys) with h | h
          · have := HNY.out
            rw [h, M.lims_zero] at this
            simp at this
            omega
          · exact h
        exact Nat.lt_of_le_of_lt (Nat.gcd_le_right _ h1) hy
      go_wp2_with fail
      refine (small_yes _ _ _ _ _ HO1'.out.rd (by omega) (by rw [E1.out]; exact hx)).mono ?_
      rw [E1.out]
      rintro e w' ⟨rfl, rfl⟩
      go_wp2_with fail
      refine (small_yes _ _ _ _ _ HO2.out.rd (by omega) (by rw [E2.out]; exact hy)).mono ?_
      rw [E2.out]
      rintro e w' ⟨rfl, rfl⟩
      go_wp2_with fail
      refine (smallGcd_any _ _ _ hx hy).mono ?_
      rintro e w3 ⟨rfl, hb3⟩
      have HB3 := Lib.hid hb3
      clear hb3
      go_wp2_with fail
      refine (from_any _ _ (by omega) (by omega)).mono ?_
      rw [Int.toNat_natCast]
      rintro e w4 ⟨A4, c4, rfl, ho4, hb4⟩
      go_wp2_with fail
      go_ret
      have hb12 := HB1.out.trans (HB2.out.mono HB1.out.size)
      have hb13 := hb12.trans (HB3.out.mono hb12.size)
      exact ⟨A4, c4, rfl, ho4.mono hb13.size, hb13.trans (hb4.mono hb13.size)⟩

end Go.Proofs.YtbhgbilhoonopaaGreat
