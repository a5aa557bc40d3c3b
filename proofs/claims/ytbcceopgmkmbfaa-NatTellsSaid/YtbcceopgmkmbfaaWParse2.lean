/- nat.Parse: for every text (of 2^20 bytes at most). -/
import Derived.Test.YtbcceopgmkmbfaaWParse
namespace Go.Proofs.Ytbcceopgmkmbfaa
open Go.RowKit
set_option linter.unusedVariables false

set_option maxHeartbeats 400000 in
theorem scale_empty (A : Option Addr) (c t pl : Nat) (w : World) (hpl : pl < 4294967296) :
    Calls Try.prog 59 #[.slice A 0 c, .int .u32 (t : Int), .int .u32 (pl : Int)] w fun e w' => e = .returned (.int .u32 (pl : Int)) ∧ w = w' := by
  have hmod : (pl : Int) % 4294967296 = pl := by omega
  go_enter Try.func59, Try.ntmps59
  go_wp2
  go_loop [7, 14] (fun q i => q = .int .u64 pl ∧ i = .int .i64 0) (fun _ _ => 0)
  case atStart => exact ⟨rfl, rfl⟩
  case round =>
    obtain ⟨rfl, rfl⟩ := hrel
    go_wp2
    go_ret
    exact ⟨rfl, rfl⟩

def strLen : Value → Nat | .string s => s.size | _ => 0

/-- Parse of digits answers their number's row. -/
def GivesB (w : World) (xs : List Nat) (b : Bool) (e : Ending) (w' : World) : Prop :=
  ∃ A c, e = .returned (.tuple #[.slice A xs.length c, .bool b]) ∧ Own w' w.heap.size A xs.length c xs ∧ Below w.heap.size w w'

set_option maxHeartbeats 400000 in
theorem parse_no (s : ByteArray) (w : World) (hs : s.size ≤ 1048576) (hd : ¬ M.Digits (M.bytes s)) :
    Calls Try.prog 33 #[.string s] w (GivesB w [] false) := by
  have hd' := Lib.hid (show decide (M.Digits (M.bytes s)) = false by rw [decide_eq_false_iff_not]; exact hd)
  clear hd
  go_enter Try.func33, Try.ntmps33
  go_wp2_with fail
  refine (isDigits_any _ _ hs).mono ?_
  rw [hd'.out]
  rintro e w' ⟨rfl, rfl⟩
  go_wp2
  go_ret2
  exact ⟨none, 0, rfl, OwK.nil_ _ _, Below.refl _ _⟩

set_option maxHeartbeats 2000000 in
theorem parse_yes (s : ByteArray) (w : World) (hs : s.size ≤ 1048576) (hd : M.Digits (M.bytes s)) :
    Calls Try.prog 33 #[.string s] w (GivesB w (M.lims (M.dec 0 (M.bytes s))) true) := by
  have hd' := Lib.hid (show decide (M.Digits (M.bytes s)) = true by rw [decide_eq_true_iff]; exact hd)
  have HD := Lib.hid hd
  clear hd
  go_enter Try.func33, Try.ntmps33
  go_wp2_with fail
  refine (isDigits_any _ _ hs).mono ?_
  rw [hd'.out]
  rintro e w' ⟨rfl, rfl⟩
  go_wp2
  go_loopw [0, 4] (fun p q wr => ∃ (t : ByteArray) (v n c : Nat) (A : Option Addr), p = .string t ∧ q = .slice A n c ∧ M.dec v (M.bytes t) = M.dec 0 (M.bytes s) ∧ M.Dig (M.bytes t) ∧ (v = 0 ∨ t.size % 9 = 0) ∧
      (M.lims v).length = n ∧ n + t.size ≤ s.size ∧ Own wr w.heap.size A n c (M.lims v) ∧ Below w.heap.size w wr) (fun p _ _ => strLen p)
  case atStart =>
    refine ⟨s, 0, 0, 0, none, rfl, rfl, rfl, HD.out.2.2, .inl rfl, by rw [M.lims_zero]; rfl, by omega, ?_, Below.refl _ _⟩
    rw [M.lims_zero]
    exact OwK.nil_ _ _
  case round =>
    obtain ⟨t, v, n, c, A, rfl, rfl, hv, hdt, h9, hn, hnt, ho, hb⟩ := hrel
    have HV := Lib.hid hv
    have HDT := Lib.hid hdt
    have H9 := Lib.hid h9
    have HN := Lib.hid hn
    have HO := Lib.hid ho
    have HB := Lib.hid hb
    clear hv hdt h9 hn ho hb
    by_cases ht0 : t.size = 0
    · have hbt : M.bytes t = [] := List.eq_nil_of_length_eq_zero (by rw [M.bytes_len]; exact ht0)
      have HE := Lib.hid (show v = M.dec 0 (M.bytes s) by rw [← HV.out, hbt, M.dec_nil])
      clear hbt
      go_wp2
      go_ret2
      have ho := HO.out
      rw [HE.out] at ho
      have hn := HN.out
      rw [HE.out] at hn
      rw [← hn] at ho
      exact ⟨A, c, ret_eq (by rw [hn]; rfl), ho, HB.out⟩
    · have htp : 0 < t.size := by omega
      obtain ⟨k, hk⟩ : ∃ k, k = (t.size - 1) % 9 + 1 := ⟨_, rfl⟩
      have hk9 : k ≤ 9 := by omega
      have hkt : k ≤ t.size := by omega
      have hkI : ((t.size : Int) - 1) % 9 + 1 = k := by omega
      have hb1 : M.bytes (t.extract 0 k) = (M.bytes t).take k := by rw [M.bytes_extract]; simp
      have hb2 : M.bytes (t.extract k t.size) = (M.bytes t).drop k := M.bytes_tail t k
      have hd1 : M.Dig (M.bytes (t.extract 0 k)) := by rw [hb1]; intro x hx; exact HDT.out x (List.mem_of_mem_take hx)
      have hd2 : M.Dig (M.bytes (t.extract k t.size)) := by rw [hb2]; intro x hx; exact HDT.out x (List.mem_of_mem_drop hx)
      have hsz1 : (t.extract 0 k).size = k := by rw [← M.bytes_len, hb1, List.length_take, M.bytes_len]; omega
      have hsz2 : (t.extract k t.size).size = t.size - k := by rw [← M.bytes_len, hb2, List.length_drop, M.bytes_len]
      have hch := M.dec_lt hd1
      rw [M.bytes_len, hsz1] at hch
      have hch2 : M.dec 0 (M.bytes (t.extract 0 k)) < 1000000000 := Nat.lt_of_lt_of_le hch (Nat.pow_le_pow_right (by omega) hk9)
      obtain ⟨ch, hce⟩ : ∃ ch, M.dec 0 (M.bytes (t.extract 0 k)) = ch := ⟨_, rfl⟩
      rw [hce] at hch2
      have hnext : M.dec (v * 1000000000 + ch) (M.bytes (t.extract k t.size)) = M.dec 0 (M.bytes s) := by
        rw [← HV.out, hb2]
        have e : M.bytes t = (M.bytes t).take k ++ (M.bytes t).drop k := (List.take_append_drop _ _).symm
        have e2 : M.dec v ((M.bytes t).take k) = v * 1000000000 + ch := by
          rw [M.dec_shift, ← hb1, hce, M.bytes_len, hsz1]
          rcases H9.out with h | h
          · rw [h, Nat.zero_mul, Nat.zero_mul]
          · have : k = 9 := by omega
            rw [this]
        rw [← e2, ← M.dec_append, ← e]
      have h9n : v * 1000000000 + ch = 0 ∨ (t.extract k t.size).size % 9 = 0 := by right; rw [hsz2]; omega
      have hszb : (t.extract 0 k).size ≤ 9 := by omega
      have HCE := Lib.hid hce
      have HD1 := Lib.hid hd1
      have HD2 := Lib.hid hd2
      have HNX := Lib.hid hnext
      have H9N := Lib.hid h9n
      have HS1 := Lib.hid hszb
      have HS2 := Lib.hid hsz2
      clear hk hb1 hb2 hd1 hd2 hsz1 hsz2 hch hce hnext h9n hszb ht0
      go_wp2_with fail
      refine (chunk_any _ _ HS1.out HD1.out).mono ?_
      rw [HCE.out]
      rintro e w' ⟨rfl, rfl⟩
      by_cases hv0 : v = 0
      · have hn0 : n = 0 := by rw [← HN.out, hv0, M.lims_zero]; rfl
        have HV0 := Lib.hid hv0
        have HO0 : Hid (Own wr w.heap.size A 0 c []) := by
          have := HO.out
          rw [hv0, M.lims_zero, hn0] at this
          exact this
        clear hv0
        subst hn0
        go_wp2_with fail
        refine (scale_empty _ _ 1000000000 ch _ (by omega)).mono ?_
        rintro e w' ⟨rfl, rfl⟩
        have hvc : Hid (v * 1000000000 + ch = ch) := by rw [HV0.out, Nat.zero_mul, Nat.zero_add]; rfl
        by_cases hc0 : ch = 0
        · subst hc0
          go_wp2
          go_roundw
          case rel =>
            refine ⟨_, v * 1000000000 + 0, 0, c, A, rfl, rfl, HNX.out, HD2.out, H9N.out, ?_, ?_, ?_, HB.out⟩
            · rw [hvc.out, M.lims_zero]; rfl
            · rw [HS2.out]; omega
            · rw [hvc.out, M.lims_zero]; exact HO0.out
          case measure => simp only [strLen]; rw [HS2.out]; omega
        · have hcne : ((ch : Int) != 0) = true := by simp; omega
          have hchR : ch < M.R := by rw [M.R_eq]; omega
          have hlim : Hid (M.lims (v * 1000000000 + ch) = [ch]) := by
            have := M.lims_snoc (ds := []) M.Lim.nil hchR hc0
            rw [hvc.out]
            rw [M.val_nil, List.length_nil, Nat.pow_zero, Nat.one_mul, Nat.zero_add, List.nil_append] at this
            exact this
          have HCR := Lib.hid hchR
          clear hchR
          go_wp2_with (at_builtin; refine app_own kU32 _ rfl _ _ rfl w.heap.size A 0 c [] rfl (HO0.out.alloc _) _ 1 1 [ch] rfl (RdK.one _ ch HCR.out) (by omega) (by have := HB.out.size; simp; omega) ?_; intro A2 c2 w2 ho2 hg2; have HO2 := Lib.hid ho2; have HG2 := Lib.hid hg2; clear ho2 hg2)
          go_roundw
          case rel =>
            refine ⟨_, v * 1000000000 + ch, 1, c2, A2, rfl, rfl, HNX.out, HD2.out, H9N.out, ?_, ?_, ?_, below_app HB.out HB.out.size HO0.out HG2.out⟩
            · rw [hlim.out]; rfl
            · rw [HS2.out]; omega
            · rw [hlim.out]; exact HO2.out
          case measure => simp only [strLen]; rw [HS2.out]; omega
      · have hnp : 0 < n := by
          rw [← HN.out]
          exact List.length_pos_iff.2 (fun h => hv0 (M.lims_eq_nil.1 h))
        obtain ⟨g, hA, hg, hg'⟩ := HO.out.head hnp
        subst hA
        have hwr := OwK.wr (o := 0) (m := n) HO.out (by omega)
        rw [List.drop_zero, List.take_of_length_le (by rw [HN.out]; exact Nat.le_refl _)] at hwr
        have HW := Lib.hid hwr
        clear hwr
        go_wp2_with fail
        refine (scale_any g 0 n c _ 1000000000 ch wr HW.out (by omega) (by omega) (by omega)).mono ?_
        rintro e w2 ⟨zs, cy, rfl, hcy, hzl, hzs, hzv, hp⟩
        rw [M.val_lims] at hzv
        have ho2 := HO.out.put hp (by omega) hzs
        rw [List.take_zero, List.nil_append, Nat.zero_add, hzl, List.drop_of_length_le (by rw [HN.out]; exact Nat.le_refl _), List.append_nil] at ho2
        have hb2 : Below w.heap.size w w2 := HB.out.grown hp.grown HB.out.size (fun k hk => by cases hk; exact hg)
        have hvv : v * 1000000000 + ch = M.val zs + M.R ^ zs.length * cy := by rw [hzl, hzv]; omega
        have HO2 := Lib.hid ho2
        have HB2 := Lib.hid hb2
        have HCY := Lib.hid hcy
        rw [M.R_eq] at hcy
        by_cases hc0 : cy = 0
        · have hlim : M.lims (v * 1000000000 + ch) = zs := by
            rw [hvv, hc0, Nat.mul_zero, Nat.add_zero]
            refine M.lims_of_len hzs (.inr ?_)
            have h1 := M.pow_le_lims (v := v) (fun h => hv0 (M.lims_eq_nil.1 h))
            rw [HN.out] at h1
            rw [hzl]
            have h2 : M.val zs = v * 1000000000 + ch := by rw [hvv, hc0, Nat.mul_zero, Nat.add_zero]
            rw [h2]
            omega
          have HLIM := Lib.hid hlim
          have HZL := Lib.hid hzl
          clear hlim ho2 hb2 hp hvv hzv hzs hzl
          subst hc0
          go_wp2
          go_roundw
          case rel =>
            refine ⟨_, v * 1000000000 + ch, n, c, _, rfl, rfl, HNX.out, HD2.out, H9N.out, ?_, ?_, ?_, HB2.out⟩
            · rw [HLIM.out, HZL.out]
            · rw [HS2.out]; omega
            · rw [HLIM.out]; exact HO2.out
          case measure => simp only [strLen]; rw [HS2.out]; omega
        · have hcne : ((cy : Int) != 0) = true := by simp; omega
          have hlim : M.lims (v * 1000000000 + ch) = zs ++ [cy] := by rw [hvv]; exact M.lims_snoc hzs HCY.out hc0
          have HLIM := Lib.hid hlim
          have HZL := Lib.hid hzl
          clear hlim ho2 hb2 hp hvv hzv hzs hzl
          go_wp2_with (at_builtin; refine app_own kU32 _ rfl _ _ rfl w.heap.size _ n c zs rfl (HO2.out.alloc _) _ 1 1 [cy] rfl (RdK.one _ cy HCY.out) (by omega) (by have := HB2.out.size; simp; omega) ?_; intro A3 c3 w3 ho3 hg3; have HO3 := Lib.hid ho3; have HG3 := Lib.hid hg3; clear ho3 hg3)
          go_roundw
          case rel =>
            refine ⟨_, v * 1000000000 + ch, n + 1, c3, A3, rfl, rfl, HNX.out, HD2.out, H9N.out, ?_, ?_, ?_, below_app HB2.out HB2.out.size HO2.out HG3.out⟩
            · rw [HLIM.out, List.length_append, HZL.out]; rfl
            · rw [HS2.out]; omega
            · rw [HLIM.out]; exact HO3.out
          case measure => simp only [strLen]; rw [HS2.out]; omega

end Go.Proofs.Ytbcceopgmkmbfaa
