/- nat.isDigits, nat.chunk, nat.Parse: for every text. -/
import Derived.Test.YtbhgbilhoonopaaGreatMD
import Derived.Test.YtbhgbilhoonopaaGreatMA
import Derived.RegionTactic
import Derived.ChangeAlike
import Derived.Laws.BytesArg
namespace Go.Proofs.YtbhgbilhoonopaaGreat
open Go.RowKit
set_option linter.unusedVariables false

theorem toNat_byte_le (x : UInt8) : x.toNat ≤ 255 := by have := x.toNat_lt; omega

set_option maxHeartbeats 1000000 in
theorem chunk_any (s : ByteArray) (w : World) (hs : s.size ≤ 9) (hd : M.Dig (M.bytes s)) :
    Calls Tryz.prog 129 #[.string s] w fun e w' => e = .returned (.int .u32 (M.dec 0 (M.bytes s) : Nat)) ∧ w = w' := by
  have HD := Lib.hid hd
  clear hd
  go_enter Tryz.func129, Tryz.ntmps129
  go_wp2
  go_loop [3, 7] (fun v i => ∃ k v' : Nat, k ≤ s.size ∧ i = .int .i64 k ∧ v = .int .u32 v' ∧ v' = M.dec 0 ((M.bytes s).take k)) (fun _ i => s.size - (intOf i).toNat)
  case atStart => exact ⟨0, 0, Nat.zero_le _, rfl, rfl, rfl⟩
  case round =>
    obtain ⟨k, v', hk, rfl, rfl, hv⟩ := hrel
    have HV := Lib.hid hv
    by_cases hkn : k < s.size
    · have hx := M.bytes_get s k hkn
      have hxd := HD.out _ (List.mem_of_getElem? hx)
      have hb : v' < 100000000 := by
        rw [hv]
        have h1 := M.dec_lt (l := (M.bytes s).take k) (fun x hx => HD.out x (List.mem_of_mem_take hx))
        have h2 : 10 ^ ((M.bytes s).take k).length ≤ 10 ^ 8 := Nat.pow_le_pow_right (by omega) (by rw [List.length_take]; omega)
        omega
      have hstep : M.dec 0 ((M.bytes s).take (k + 1)) = v' * 10 + (s[k].toNat - 48) := by
        rw [List.take_add_one, hx, hv]
        exact M.dec_snoc _ _ _
      have HST := Lib.hid hstep
      clear hv hstep hx
      go_wp2
      go_round
      case rel => exact ⟨k + 1, v' * 10 + (s[k].toNat - 48), by omega, by go_num, by go_num, HST.out.symm⟩
      case measure => simp [intOf]; omega
    · have HV2 := Lib.hid (show v' = M.dec 0 (M.bytes s) by rw [hv, List.take_of_length_le (by rw [M.bytes_len]; omega)])
      clear hv
      go_wp2
      go_ret
      exact ⟨ret_int (by rw [← HV2.out]), rfl⟩

theorem toList_empty {s : ByteArray} : s.toList.isEmpty = decide (s.size = 0) := by
  rw [Lib.toList_data, Lib.size_eq]
  cases s.data.toList <;> simp

set_option maxHeartbeats 2000000 in
theorem isDigits_any (s : ByteArray) (w : World) (hs : s.size ≤ 1048576) :
    Calls Tryz.prog 127 #[.string s] w fun e w' => e = .returned (.bool (decide (M.Digits (M.bytes s)))) ∧ w = w' := by
  have hlen := M.bytes_len s
  by_cases h0 : s.size = 0
  · have he : s.toList.isEmpty = true := by rw [toList_empty]; simp [h0]
    have hno : decide (M.Digits (M.bytes s)) = false := by
      rw [decide_eq_false_iff_not]
      intro hc
      exact hc.1 (List.eq_nil_of_length_eq_zero (by omega))
    rw [hno]
    clear hno hlen h0
    go_enter Tryz.func127, Tryz.ntmps127
    go_wp2
    go_ret
    exact ⟨rfl, rfl⟩
  · have he : s.toList.isEmpty = false := by rw [toList_empty]; simp [h0]
    have hpos : 0 < s.size := by omega
    have hx0 := M.bytes_get s 0 hpos
    by_cases hz : s[0].toNat = 48 ∧ 1 < s.size
    · have hno : decide (M.Digits (M.bytes s)) = false := by
        rw [decide_eq_false_iff_not]
        intro hc
        have := hc.2.1 (by rw [hx0, hz.1])
        omega
      rw [hno]
      obtain ⟨hz1, hz2⟩ := hz
      have hzb : ((s[0].toNat : Int) == 48) = true := by simp; omega
      clear hno hlen hx0 h0 hz1
      go_enter Tryz.func127, Tryz.ntmps127
      go_wp2
      go_ret
      exact ⟨rfl, rfl⟩
    · have main : ∀ (hyp : (((s[0].toNat : Int) == 48) = true ∧ s.size ≤ 1) ∨ ((s[0].toNat : Int) == 48) = false), Calls Tryz.prog 127 #[.string s] w fun e w' => e = .returned (.bool (decide (M.Digits (M.bytes s)))) ∧ w = w' := by
        have h1 : (M.bytes s)[0]? = some 48 → (M.bytes s).length = 1 := by
          intro h
          rw [hx0] at h
          injection h with h
          omega
        have h2 : M.bytes s ≠ [] := by
          intro h
          rw [h] at hlen
          simp at hlen
          omega
        have hiff : decide (M.Digits (M.bytes s)) = decide (M.Dig (M.bytes s)) := by
          rw [decide_eq_decide]
          exact ⟨fun h => h.2.2, fun h => ⟨h2, h1, h⟩⟩
        have HI := Lib.hid hiff
        clear hiff h1 h2 hx0 hz h0 hlen
        rintro (⟨hzb, hz1⟩ | hzb)
        all_goals
          go_enter Tryz.func127, Tryz.ntmps127
          go_wp2
          go_loop [18] (fun i => ∃ k : Nat, k ≤ s.size ∧ i = .int .i64 k ∧ M.Dig ((M.bytes s).take k)) (fun i => s.size - (intOf i).toNat)
          case atStart => exact ⟨0, Nat.zero_le _, rfl, by intro x hx; simp at hx⟩
          case round =>
            obtain ⟨k, hk, rfl, hd⟩ := hrel
            have HD := Lib.hid hd
            clear hd
            by_cases hkn : k < s.size
            · have hx := M.bytes_get s k hkn
              have HX := Lib.hid hx
              clear hx
              by_cases hlo : (s[k].toNat : Int) < 48
              · have HN := Lib.hid (show decide (M.Digits (M.bytes s)) = false by
                  rw [HI.out, decide_eq_false_iff_not]
                  intro hc
                  have := hc _ (List.mem_of_getElem? HX.out)
                  omega)
                go_wp2
                go_ret
                exact ⟨ret_bool HN.out.symm, rfl⟩
              · by_cases hhi : (57 : Int) < s[k].toNat
                · have HN := Lib.hid (show decide (M.Digits (M.bytes s)) = false by
                    rw [HI.out, decide_eq_false_iff_not]
                    intro hc
                    have := hc _ (List.mem_of_getElem? HX.out)
                    omega)
                  go_wp2
                  go_ret
                  exact ⟨ret_bool HN.out.symm, rfl⟩
                · have HN := Lib.hid (show M.Dig ((M.bytes s).take (k + 1)) by
                    rw [List.take_add_one, HX.out]
                    intro x hx
                    rcases List.mem_append.1 hx with hx | hx
                    · exact HD.out x hx
                    · simp at hx
                      subst hx
                      omega)
                  go_wp2
                  go_round
                  case rel => exact ⟨k + 1, by omega, by go_num, HN.out⟩
                  case measure => simp [intOf]; omega
            · have HN := Lib.hid (show decide (M.Digits (M.bytes s)) = true by
                rw [HI.out, decide_eq_true_iff]
                have := HD.out
                rw [List.take_of_length_le (by rw [M.bytes_len]; omega)] at this
                exact this)
              go_wp2
              go_ret
              exact ⟨ret_bool HN.out.symm, rfl⟩
      by_cases h48 : s[0].toNat = 48
      · exact main (.inl ⟨by simp; omega, by omega⟩)
      · exact main (.inr (by simp; omega))

end Go.Proofs.YtbhgbilhoonopaaGreat

/- nat.Parse: for every text (of 2^20 bytes at most). -/
namespace Go.Proofs.YtbhgbilhoonopaaGreat
open Go.RowKit
set_option linter.unusedVariables false

set_option maxHeartbeats 400000 in
theorem scale_empty (A : Option Addr) (c t pl : Nat) (w : World) (hpl : pl < 4294967296) :
    Calls Tryz.prog 128 #[.slice A 0 c, .int .u32 (t : Int), .int .u32 (pl : Int)] w fun e w' => e = .returned (.int .u32 (pl : Int)) ∧ w = w' := by
  have hmod : (pl : Int) % 4294967296 = pl := by omega
  go_enter Tryz.func128, Tryz.ntmps128
  go_wp2
  go_loop [7, 14] (fun q i => q = .int .u64 pl ∧ i = .int .i64 0) (fun _ _ => 0)
  case atStart => exact ⟨rfl, rfl⟩
  case round =>
    obtain ⟨rfl, rfl⟩ := hrel
    go_wp2
    go_ret
    exact ⟨rfl, rfl⟩

def strLen : Value → Nat | .string s => s.size | _ => 0

/-- Parse of digits answers their number's row. -/
def GivesB (w : World) (xs : List Nat) (b : Bool) (e : Ending) (w' : World) : Prop :=
  ∃ A c, e = .returned (.tuple #[.slice A xs.length c, .bool b]) ∧ Own w' w.heap.size A xs.length c xs ∧ Below w.heap.size w w'

set_option maxHeartbeats 400000 in
theorem parse_no (s : ByteArray) (w : World) (hs : s.size ≤ 1048576) (hd : ¬ M.Digits (M.bytes s)) :
    Calls Tryz.prog 94 #[.string s] w (GivesB w [] false) := by
  have hd' := Lib.hid (show decide (M.Digits (M.bytes s)) = false by rw [decide_eq_false_iff_not]; exact hd)
  clear hd
  go_enter Tryz.func94, Tryz.ntmps94
  go_wp2_with fail
  refine (isDigits_any _ _ hs).mono ?_
  rw [hd'.out]
  rintro e w' ⟨rfl, rfl⟩
  go_wp2
  go_ret2
  exact ⟨none, 0, rfl, OwK.nil_ _ _, Below.refl _ _⟩

set_option maxHeartbeats 2000000 in
theorem parse_yes (s : ByteArray) (w : World) (hs : s.size ≤ 1048576) (hd : M.Digits (M.bytes s)) :
    Calls Tryz.prog 94 #[.string s] w (GivesB w (M.lims (M.dec 0 (M.bytes s))) true) := by
  have hd' := Lib.hid (show decide (M.Digits (M.bytes s)) = true by rw [decide_eq_true_iff]; exact hd)
  have HD := Lib.hid hd
  clear hd
  go_enter Tryz.func94, Tryz.ntmps94
  go_wp2_with fail
  refine (isDigits_any _ _ hs).mono ?_
  rw [hd'.out]
  rintro e w' ⟨rfl, rfl⟩
  go_wp2
  go_loopw [0, 4] (fun p q wr => ∃ (t : ByteArray) (v n c : Nat) (A : Option Addr), p = .string t ∧ q = .slice A n c ∧ M.dec v (M.bytes t) = M.dec 0 (M.bytes s) ∧ M.Dig (M.bytes t) ∧ (v = 0 ∨ t.size % 9 = 0) ∧
      (M.lims v).length = n ∧ n + t.size ≤ s.size ∧ Own wr w.heap.size A n c (M.lims v) ∧ Below w.heap.size w wr) (fun p _ _ => strLen p)
  case atStart =>
    refine ⟨s, 0, 0, 0, none, rfl, rfl, rfl, HD.out.2.2, .inl rfl, by rw [M.lims_zero]; rfl, by omega, ?_, Below.refl _ _⟩
    rw [M.lims_zero]
    exact OwK.nil_ _ _
  case round =>
    obtain ⟨t, v, n, c, A, rfl, rfl, hv, hdt, h9, hn, hnt, ho, hb⟩ := hrel
    have HV := Lib.hid hv
    have HDT := Lib.hid hdt
    have H9 := Lib.hid h9
    have HN := Lib.hid hn
    have HO := Lib.hid ho
    have HB := Lib.hid hb
    clear hv hdt h9 hn ho hb
    by_cases ht0 : t.size = 0
    · have hbt : M.bytes t = [] := List.eq_nil_of_length_eq_zero (by rw [M.bytes_len]; exact ht0)
      have HE := Lib.hid (show v = M.dec 0 (M.bytes s) by rw [← HV.out, hbt, M.dec_nil])
      clear hbt
      go_wp2
      go_ret2
      have ho := HO.out
      rw [HE.out] at ho
      have hn := HN.out
      rw [HE.out] at hn
      rw [← hn] at ho
      exact ⟨A, c, ret_eq (by rw [hn]; rfl), ho, HB.out⟩
    · have htp : 0 < t.size := by omega
      obtain ⟨k, hk⟩ : ∃ k, k = (t.size - 1) % 9 + 1 := ⟨_, rfl⟩
      have hk9 : k ≤ 9 := by omega
      have hkt : k ≤ t.size := by omega
      have hkI : ((t.size : Int) - 1) % 9 + 1 = k := by omega
      have hb1 : M.bytes (t.extract 0 k) = (M.bytes t).take k := by rw [M.bytes_extract]; simp
      have hb2 : M.bytes (t.extract k t.size) = (M.bytes t).drop k := M.bytes_tail t k
      have hd1 : M.Dig (M.bytes (t.extract 0 k)) := by rw [hb1]; intro x hx; exact HDT.out x (List.mem_of_mem_take hx)
      have hd2 : M.Dig (M.bytes (t.extract k t.size)) := by rw [hb2]; intro x hx; exact HDT.out x (List.mem_of_mem_drop hx)
      have hsz1 : (t.extract 0 k).size = k := by rw [← M.bytes_len, hb1, List.length_take, M.bytes_len]; omega
      have hsz2 : (t.extract k t.size).size = t.size - k := by rw [← M.bytes_len, hb2, List.length_drop, M.bytes_len]
      have hch := M.dec_lt hd1
      rw [M.bytes_len, hsz1] at hch
      have hch2 : M.dec 0 (M.bytes (t.extract 0 k)) < 1000000000 := Nat.lt_of_lt_of_le hch (Nat.pow_le_pow_right (by omega) hk9)
      obtain ⟨ch, hce⟩ : ∃ ch, M.dec 0 (M.bytes (t.extract 0 k)) = ch := ⟨_, rfl⟩
      rw [hce] at hch2
      have hnext : M.dec (v * 1000000000 + ch) (M.bytes (t.extract k t.size)) = M.dec 0 (M.bytes s) := by
        rw [← HV.out, hb2]
        have e : M.bytes t = (M.bytes t).take k ++ (M.bytes t).drop k := (List.take_append_drop _ _).symm
        have e2 : M.dec v ((M.bytes t).take k) = v * 1000000000 + ch := by
          rw [M.dec_shift, ← hb1, hce, M.bytes_len, hsz1]
          rcases H9.out with h | h
          · rw [h, Nat.zero_mul, Nat.zero_mul]
          · have : k = 9 := by omega
            rw [this]
        rw [← e2, ← M.dec_append, ← e]
      have h9n : v * 1000000000 + ch = 0 ∨ (t.extract k t.size).size % 9 = 0 := by right; rw [hsz2]; omega
      have hszb : (t.extract 0 k).size ≤ 9 := by omega
      have HCE := Lib.hid hce
      have HD1 := Lib.hid hd1
      have HD2 := Lib.hid hd2
      have HNX := Lib.hid hnext
      have H9N := Lib.hid h9n
      have HS1 := Lib.hid hszb
      have HS2 := Lib.hid hsz2
      clear hk hb1 hb2 hd1 hd2 hsz1 hsz2 hch hce hnext h9n hszb ht0
      go_wp2_with fail
      refine (chunk_any _ _ HS1.out HD1.out).mono ?_
      rw [HCE.out]
      rintro e w' ⟨rfl, rfl⟩
      by_cases hv0 : v = 0
      · have hn0 : n = 0 := by rw [← HN.out, hv0, M.lims_zero]; rfl
        have HV0 := Lib.hid hv0
        have HO0 : Hid (Own wr w.heap.size A 0 c []) := by
          have := HO.out
          rw [hv0, M.lims_zero, hn0] at this
          exact this
        clear hv0
        subst hn0
        go_wp2_with fail
        refine (scale_empty _ _ 1000000000 ch _ (by omega)).mono ?_
        rintro e w' ⟨rfl, rfl⟩
        have hvc : Hid (v * 1000000000 + ch = ch) := by rw [HV0.out, Nat.zero_mul, Nat.zero_add]; rfl
        by_cases hc0 : ch = 0
        · subst hc0
          go_wp2
          go_roundw
          case rel =>
            refine ⟨_, v * 1000000000 + 0, 0, c, A, rfl, rfl, HNX.out, HD2.out, H9N.out, ?_, ?_, ?_, HB.out⟩
            · rw [hvc.out, M.lims_zero]; rfl
            · rw [HS2.out]; omega
            · rw [hvc.out, M.lims_zero]; exact HO0.out
          case measure => simp only [strLen]; rw [HS2.out]; omega
        · have hcne : ((ch : Int) != 0) = true := by simp; omega
          have hchR : ch < M.R := by rw [M.R_eq]; omega
          have hlim : Hid (M.lims (v * 1000000000 + ch) = [ch]) := by
            have := M.lims_snoc (ds := []) M.Lim.nil hchR hc0
            rw [hvc.out]
            rw [M.val_nil, List.length_nil, Nat.pow_zero, Nat.one_mul, Nat.zero_add, List.nil_append] at this
            exact this
          have HCR := Lib.hid hchR
          clear hchR
          go_wp2_with (at_builtin; refine app_own kU32 _ rfl _ _ rfl w.heap.size A 0 c [] rfl (HO0.out.alloc _) _ 1 1 [ch] rfl (RdK.one _ ch HCR.out) (by omega) (by have := HB.out.size; simp; omega) ?_; intro A2 c2 w2 ho2 hg2; have HO2 := Lib.hid ho2; have HG2 := Lib.hid hg2; clear ho2 hg2)
          go_roundw
          case rel =>
            refine ⟨_, v * 1000000000 + ch, 1, c2, A2, rfl, rfl, HNX.out, HD2.out, H9N.out, ?_, ?_, ?_, below_app HB.out HB.out.size HO0.out HG2.out⟩
            · rw [hlim.out]; rfl
            · rw [HS2.out]; omega
            · rw [hlim.out]; exact HO2.out
          case measure => simp only [strLen]; rw [HS2.out]; omega
      · have hnp : 0 < n := by
          rw [← HN.out]
          exact List.length_pos_iff.2 (fun h => hv0 (M.lims_eq_nil.1 h))
        obtain ⟨g, hA, hg, hg'⟩ := HO.out.head hnp
        subst hA
        have hwr := OwK.wr (o := 0) (m := n) HO.out (by omega)
        rw [List.drop_zero, List.take_of_length_le (by rw [HN.out]; exact Nat.le_refl _)] at hwr
        have HW := Lib.hid hwr
        clear hwr
        go_wp2_with fail
        refine (scale_any g 0 n c _ 1000000000 ch wr HW.out (by omega) (by omega) (by omega)).mono ?_
        rintro e w2 ⟨zs, cy, rfl, hcy, hzl, hzs, hzv, hp⟩
        rw [M.val_lims] at hzv
        have ho2 := HO.out.put hp (by omega) hzs
        rw [List.take_zero, List.nil_append, Nat.zero_add, hzl, List.drop_of_length_le (by rw [HN.out]; exact Nat.le_refl _), List.append_nil] at ho2
        have hb2 : Below w.heap.size w w2 := HB.out.grown hp.grown HB.out.size (fun k hk => by cases hk; exact hg)
        have hvv : v * 1000000000 + ch = M.val zs + M.R ^ zs.length * cy := by rw [hzl, hzv]; omega
        have HO2 := Lib.hid ho2
        have HB2 := Lib.hid hb2
        have HCY := Lib.hid hcy
        rw [M.R_eq] at hcy
        by_cases hc0 : cy = 0
        · have hlim : M.lims (v * 1000000000 + ch) = zs := by
            rw [hvv, hc0, Nat.mul_zero, Nat.add_zero]
            refine M.lims_of_len hzs (.inr ?_)
            have h1 := M.pow_le_lims (v := v) (fun h => hv0 (M.lims_eq_nil.1 h))
            rw [HN.out] at h1
            rw [hzl]
            have h2 : M.val zs = v * 1000000000 + ch := by rw [hvv, hc0, Nat.mul_zero, Nat.add_zero]
            rw [h2]
            omega
          have HLIM := Lib.hid hlim
          have HZL := Lib.hid hzl
          clear hlim ho2 hb2 hp hvv hzv hzs hzl
          subst hc0
          go_wp2
          go_roundw
          case rel =>
            refine ⟨_, v * 1000000000 + ch, n, c, _, rfl, rfl, HNX.out, HD2.out, H9N.out, ?_, ?_, ?_, HB2.out⟩
            · rw [HLIM.out, HZL.out]
            · rw [HS2.out]; omega
            · rw [HLIM.out]; exact HO2.out
          case measure => simp only [strLen]; rw [HS2.out]; omega
        · have hcne : ((cy : Int) != 0) = true := by simp; omega
          have hlim : M.lims (v * 1000000000 + ch) = zs ++ [cy] := by rw [hvv]; exact M.lims_snoc hzs HCY.out hc0
          have HLIM := Lib.hid hlim
          have HZL := Lib.hid hzl
          clear hlim ho2 hb2 hp hvv hzv hzs hzl
          go_wp2_with (at_builtin; refine app_own kU32 _ rfl _ _ rfl w.heap.size _ n c zs rfl (HO2.out.alloc _) _ 1 1 [cy] rfl (RdK.one _ cy HCY.out) (by omega) (by have := HB2.out.size; simp; omega) ?_; intro A3 c3 w3 ho3 hg3; have HO3 := Lib.hid ho3; have HG3 := Lib.hid hg3; clear ho3 hg3)
          go_roundw
          case rel =>
            refine ⟨_, v * 1000000000 + ch, n + 1, c3, A3, rfl, rfl, HNX.out, HD2.out, H9N.out, ?_, ?_, ?_, below_app HB2.out HB2.out.size HO2.out HG3.out⟩
            · rw [HLIM.out, List.length_append, HZL.out]; rfl
            · rw [HS2.out]; omega
            · rw [HLIM.out]; exact HO3.out
          case measure => simp only [strLen]; rw [HS2.out]; omega

end Go.Proofs.YtbhgbilhoonopaaGreat

/- nat.digitTaker's closure: it takes the digits of a number, the lowest first. -/
namespace Go.Proofs.YtbhgbilhoonopaaGreat
open Go.RowKit
set_option linter.unusedVariables false

/-- A box: a block of one cell. -/
def Bx (w : World) (B : Nat) (t : TypeId) (v : Value) : Prop := w.heap[B]? = some (.cells #[v] t (0, 0))
section
variable {w w' : World} {B : Nat} {t : TypeId} {v : Value}
theorem Bx.cell (h : Bx w B t v) : w.cell? ⟨B, 0, none⟩ = some v := by
  rw [cell_of_row w B 0 #[v] t (0, 0) h]
  rfl
theorem Bx.frozen (h : Bx w B t v) : w.frozen? ⟨B, 0, none⟩ = false := frozen_of_row w B 0 #[v] t h
theorem Bx.set_ (h : Bx w B t v) (u : Value) : Bx (w.setCell ⟨B, 0, none⟩ u) B t u := by
  unfold Bx at h ⊢
  rw [heap_setCell_same w B 0 #[v] t u h]
  rfl
theorem Bx.far (h : Bx w B t v) {p : Addr} (hp : B ≠ p.block) (u : Value) : Bx (w.setCell p u) B t v := by
  unfold Bx at h ⊢
  rw [heap_setCell_other w p B u hp]
  exact h
theorem Bx.drew (h : Bx w B t v) : Bx w.drew B t v := h
theorem Bx.drewN (h : Bx w B t v) (n : Nat) : Bx (w.drewN n) B t v := h
theorem Bx.lt (h : Bx w B t v) : B < w.heap.size := (Array.getElem?_eq_some_iff.1 h).1
theorem Bx.grown {row : Option Nat} (h : Bx w B t v) (hg : w.grownBy w' row) (hr : some B ≠ row) : Bx w' B t v := (hg.block B h.lt hr).trans h
theorem Bx.below {D : Nat} (h : Bx w B t v) (hg : Below D w w') (hr : B < D) : Bx w' B t v := (hg.block B hr).trans h
theorem Bx.alloc (h : Bx w B t v) (o : Obj) : Bx (w.alloc o) B t v := (Below.heap_alloc w o B h.lt).trans h
theorem Bx.new (w : World) (t : TypeId) (v : Value) : Bx (w.alloc (.cells #[v] t)) w.heap.size t v := heap_alloc_new w _
end

theorem OwK.setFar {α : Type} {K : Kd α} {w : World} {base n c : Nat} {A : Option Addr} {xs : List α} (h : OwK K w base A n c xs) {D : Nat} (hA : ∀ p, A = some p → p.block < D) {q : Addr} (hq : D ≤ q.block) (u : Value) :
    OwK K (w.setCell q u) base A n c xs :=
  h.grown (grownBy_setCell w q u) fun p hp e => by
    have h1 := hA p hp
    have h2 : p.block = q.block := by injection e
    omega

/-- w' is w but for the blocks from base to D. -/
structure BA (base D : Nat) (w w' : World) : Prop where
  below : Below base w w'
  size : w'.heap.size = w.heap.size
  above : ∀ k, D < k → w'.heap[k]? = w.heap[k]?
theorem BA.refl (base D : Nat) (w : World) : BA base D w w := ⟨Below.refl _ _, rfl, fun _ _ => rfl⟩
theorem BA.drew {base D : Nat} {a w : World} (h : BA base D a w) : BA base D a w.drew := ⟨h.below.drew, h.size, h.above⟩
theorem BA.setCell {base D : Nat} {a w : World} (h : BA base D a w) {p : Addr} (hp : base ≤ p.block) (hq : p.block ≤ D) (u : Value) : BA base D a (w.setCell p u) :=
  ⟨h.below.setCell hp u, by simp [World.setCell]; exact h.size, fun k hk => (heap_setCell_other w p k u (by omega)).trans (h.above k hk)⟩
theorem BA.put {base D : Nat} {a w w' : World} {α : Type} {K : Kd α} {g o : Nat} {ys : List α} (h : BA base D a w) (hp : PutK K w w' g o ys) (hg : base ≤ g) (hD : g ≤ D) (hb : base ≤ w.heap.size) : BA base D a w' := by
  refine ⟨h.below.grown hp.grown hb (fun k hk => by cases hk; exact hg), hp.size.trans h.size, fun k hk => ?_⟩
  by_cases hlt : k < w.heap.size
  · exact (hp.grown.block k hlt (fun e => by injection e with e; omega)).trans (h.above k hk)
  · rw [← h.above k hk, Array.getElem?_eq_none (by rw [hp.size]; omega), Array.getElem?_eq_none (by omega)]

/-- The state of a taker of digits: T is the number whose digits are still to be taken. -/
structure Tk (w : World) (base Bc Br Bl : Nat) (T : Nat) : Prop where
  ord1 : base ≤ Br
  ord2 : Br < Bl
  ord3 : Bl < Bc
  st : ∃ (low cnt N n c : Nat) (A : Option Addr), Bx w Bc 3 (.int .i64 (cnt : Int)) ∧ Bx w Br 22 (.slice A n c) ∧ Bx w Bl 44 (.int .u32 (low : Int)) ∧ (M.lims N).length = n ∧ n ≤ 1048576 ∧
    Own w base A n c (M.lims N) ∧ (∀ p, A = some p → p.block < Br) ∧ cnt ≤ 9 ∧ low < 10 ^ cnt ∧ T = low + 10 ^ cnt * N ∧ (0 < cnt → T ≠ 0)

/-- The digit that is taken, and whether there was one. -/
def tdig (T : Nat) : Nat := if T = 0 then 0 else 48 + T % 10
def tmore (T : Nat) : Bool := decide (T ≠ 0)
theorem tdig_pos {T : Nat} (h : T ≠ 0) : tdig T = 48 + T % 10 := if_neg h
theorem tmore_pos {T : Nat} (h : T ≠ 0) : tmore T = true := decide_eq_true h
theorem tmore_zero : tmore 0 = false := rfl

def Took (w : World) (base Bc Br Bl T : Nat) (e : Ending) (w' : World) : Prop :=
  Tk w' base Bc Br Bl (T / 10) ∧ e = .returned (.tuple #[.int .u8 ((tdig T : Nat) : Int), .bool (tmore T)]) ∧ BA base Bc w w'

set_option maxHeartbeats 2000000 in
theorem taker_end (base Bc Br Bl : Nat) (w : World) (h : Tk w base Bc Br Bl 0) :
    Calls Tryz.prog 147 #[.pointer (some ⟨Bc, 0, none⟩), .pointer (some ⟨Br, 0, none⟩), .pointer (some ⟨Bl, 0, none⟩)] w (Took w base Bc Br Bl 0) := by
  obtain ⟨low, cnt, N, n, c, A, hc, hr, hl, hn, hnb, ho, hA, hc9, hlow, hT, hpos⟩ := h.st
  have hcnt : cnt = 0 := by
    rcases Nat.eq_zero_or_pos cnt with h0 | h0
    · exact h0
    · exact absurd rfl (hpos h0)
  subst hcnt
  have hN : N = 0 := by simp at hT; omega
  subst hN
  have hn0 : n = 0 := by rw [← hn, M.lims_zero]; rfl
  subst hn0
  have c1 := hc.cell
  have c2 := hr.cell
  have H := Lib.hid h
  clear hc hr hl hn ho hA hc9 hlow hT hpos h
  go_enter Tryz.func147, Tryz.ntmps147
  go_wp2
  go_ret2
  exact ⟨H.out, rfl, BA.refl _ _ _⟩

theorem tk_digit {low cnt N T : Nat} (hc : 0 < cnt) (hT : T = low + 10 ^ cnt * N) : low % 10 = T % 10 ∧ T / 10 = low / 10 + 10 ^ (cnt - 1) * N := by
  obtain ⟨k, rfl⟩ : ∃ k, cnt = k + 1 := ⟨cnt - 1, by omega⟩
  rw [hT, Nat.pow_succ, Nat.mul_comm (10 ^ k) 10, Nat.mul_assoc, Nat.add_sub_cancel]
  omega

set_option maxHeartbeats 2000000 in
theorem taker_mid (base Bc Br Bl T low cnt N n c : Nat) (A : Option Addr) (w : World) (o1 : base ≤ Br) (o2 : Br < Bl) (o3 : Bl < Bc) (hc : Bx w Bc 3 (.int .i64 (cnt : Int))) (hr : Bx w Br 22 (.slice A n c))
    (hl : Bx w Bl 44 (.int .u32 (low : Int))) (hn : (M.lims N).length = n) (hnb : n ≤ 1048576) (ho : Own w base A n c (M.lims N)) (hA : ∀ p, A = some p → p.block < Br) (hc9 : cnt ≤ 9) (hlow : low < 10 ^ cnt)
    (hT : T = low + 10 ^ cnt * N) (hcp : 0 < cnt) (hT0 : T ≠ 0) :
    Calls Tryz.prog 147 #[.pointer (some ⟨Bc, 0, none⟩), .pointer (some ⟨Br, 0, none⟩), .pointer (some ⟨Bl, 0, none⟩)] w (Took w base Bc Br Bl T) := by
  have hlow9 : low < 1000000000 := Nat.lt_of_lt_of_le hlow (Nat.pow_le_pow_right (by omega) hc9)
  obtain ⟨hdig, hdiv⟩ := tk_digit hcp hT
  have c1 := hc.cell
  have c2 := hr.cell
  have c3 := hl.cell
  have f1 := hc.frozen
  have f3 := hl.frozen
  have hcne : ((cnt : Int) == 0) = false := by simp; omega
  have HC := Lib.hid hc
  have HR := Lib.hid hr
  have HL := Lib.hid hl
  have HN := Lib.hid hn
  have HO := Lib.hid ho
  have HA := Lib.hid hA
  have HLOW := Lib.hid hlow
  have HT := Lib.hid hT
  have HDIG := Lib.hid hdig
  have HDIV := Lib.hid hdiv
  clear hc hr hl hn ho hA hlow hT hdig hdiv
  go_enter Tryz.func147, Tryz.ntmps147
  go_wp2
  go_region
  have e1 : (low : Int) / 10 = ((low / 10 : Nat) : Int) := by omega
  have e2 : (cnt : Int) - 1 = ((cnt - 1 : Nat) : Int) := by omega
  have e3 : (48 : Int) + (low : Int) % 10 = ((48 + T % 10 : Nat) : Int) := by rw [← HDIG.out]; omega
  rw [e1, e2, e3]
  have b3 := ((HL.out.set_ (.int .u32 ((low / 10 : Nat) : Int))).far (p := ⟨Bc, 0, none⟩) (by dsimp only; omega) (.int .i64 ((cnt - 1 : Nat) : Int))).drew
  have b1 := ((HC.out.far (p := ⟨Bl, 0, none⟩) (by dsimp only; omega) (.int .u32 ((low / 10 : Nat) : Int))).set_ (.int .i64 ((cnt - 1 : Nat) : Int))).drew
  have b2 := ((HR.out.far (p := ⟨Bl, 0, none⟩) (by dsimp only; omega) (.int .u32 ((low / 10 : Nat) : Int))).far (p := ⟨Bc, 0, none⟩) (by dsimp only; omega) (.int .i64 ((cnt - 1 : Nat) : Int))).drew
  have ho1 := ((HO.out.setFar HA.out (q := ⟨Bl, 0, none⟩) (by dsimp only; omega) (.int .u32 ((low / 10 : Nat) : Int))).setFar HA.out (q := ⟨Bc, 0, none⟩) (by dsimp only; omega) (.int .i64 ((cnt - 1 : Nat) : Int))).drew
  have hbe := (((BA.refl base Bc w).setCell (p := ⟨Bl, 0, none⟩) (by dsimp only; omega) (by dsimp only; omega) (.int .u32 ((low / 10 : Nat) : Int))).setCell (p := ⟨Bc, 0, none⟩) (by dsimp only; omega) (by dsimp only; omega) (.int .i64 ((cnt - 1 : Nat) : Int))).drew
  generalize ((w.setCell ⟨Bl, 0, none⟩ (.int .u32 ((low / 10 : Nat) : Int))).setCell ⟨Bc, 0, none⟩ (.int .i64 ((cnt - 1 : Nat) : Int))).drew = W at *
  have hpw : low / 10 < 10 ^ (cnt - 1) := by
    have h1 := HLOW.out
    rw [show cnt = cnt - 1 + 1 by omega, Nat.pow_succ] at h1
    rw [Nat.div_lt_iff_lt_mul (by omega)]
    exact h1
  generalize hl2 : low / 10 = lo at *
  generalize hc2 : cnt - 1 = cn at *
  have d1 := b1.cell
  have d2 := b2.cell
  have d3 := b3.cell
  have g1 := b1.frozen
  have B1 := Lib.hid b1
  have B2 := Lib.hid b2
  have B3 := Lib.hid b3
  have HO1 := Lib.hid ho1
  have HBE := Lib.hid hbe
  have HPW := Lib.hid hpw
  have hcn : cn ≤ 9 := by omega
  clear b1 b2 b3 ho1 hbe hpw e1 e2 e3 hl2 hc2 HC HR HL HO HLOW HT HDIG c1 c2 c3 f1 f3 hcne
  obtain ⟨d, hd⟩ : ∃ d, d = 48 + T % 10 := ⟨_, rfl⟩
  rw [← hd]
  have HD := Lib.hid hd
  have hd57 : d ≤ 57 := by omega
  clear hd
  by_cases hlo : lo = 0
  · by_cases hn0 : n = 0
    · have hN0 : N = 0 := by have := HN.out; rw [hn0] at this; exact M.lims_eq_nil.1 (List.eq_nil_of_length_eq_zero this)
      have HN0 := Lib.hid hN0
      have HT0 := Lib.hid hT0
      clear hN0 hT0
      subst hlo
      subst hn0
      go_wp2
      go_ret2
      refine ⟨⟨o1, o2, o3, 0, 0, 0, 0, c, _, B1.out.set_ _, B2.out.far (p := ⟨Bc, 0, none⟩) (by dsimp only; omega) _, B3.out.far (p := ⟨Bc, 0, none⟩) (by dsimp only; omega) _, by rw [M.lims_zero]; rfl, by omega, ?_, HA.out, by omega, by simp, ?_, (fun h => by omega)⟩, ?_, HBE.out.setCell (p := ⟨Bc, 0, none⟩) (by dsimp only; omega) (Nat.le_refl _) _⟩
      · have := HO1.out
        rw [HN0.out] at this
        exact this.setFar HA.out (by dsimp only; omega) _
      · rw [HDIV.out, HN0.out]; simp
      · rw [tdig_pos HT0.out, ← HD.out, tmore_pos HT0.out]; rfl
    · have hnne : ((n : Int) == 0) = false := by simp; omega
      have HT0 := Lib.hid hT0
      have HLO := Lib.hid hlo
      clear hT0
      subst hlo
      go_wp2
      go_ret2
      refine ⟨⟨o1, o2, o3, 0, cn, N, n, c, _, B1.out, B2.out, B3.out, HN.out, hnb, HO1.out, HA.out, hcn, HPW.out, HDIV.out, fun _ h => ?_⟩, ?_, HBE.out⟩
      · rw [HDIV.out] at h
        have h1 : 0 < N := by
          rcases Nat.eq_zero_or_pos N with h0 | h0
          · have := HN.out; rw [h0, M.lims_zero] at this; simp at this; omega
          · exact h0
        have h2 : 0 < 10 ^ cn * N := Nat.mul_pos (Nat.pow_pos (by omega)) h1
        omega
      · rw [tdig_pos HT0.out, ← HD.out, tmore_pos HT0.out]; rfl
  · have hlne : ((lo : Int) == 0) = false := by simp; omega
    have HT0 := Lib.hid hT0
    clear hT0
    go_wp2
    go_ret2
    refine ⟨⟨o1, o2, o3, lo, cn, N, n, c, _, B1.out, B2.out, B3.out, HN.out, hnb, HO1.out, HA.out, hcn, HPW.out, HDIV.out, fun _ h => ?_⟩, ?_, HBE.out⟩
    · rw [HDIV.out] at h
      omega
    · rw [tdig_pos HT0.out, ← HD.out, tmore_pos HT0.out]; rfl

set_option maxHeartbeats 2000000 in
theorem taker_fill (base Bc Br Bl T low0 n0 c : Nat) (A : Option Addr) (w0 : World) (o1 : base ≤ Br) (o2 : Br < Bl) (o3 : Bl < Bc) (hc : Bx w0 Bc 3 (.int .i64 (0 : Int))) (hr : Bx w0 Br 22 (.slice A n0 c))
    (hl : Bx w0 Bl 44 (.int .u32 (low0 : Int))) (hn : (M.lims T).length = n0) (hnb0 : n0 ≤ 1048576) (ho : Own w0 base A n0 c (M.lims T)) (hA : ∀ p, A = some p → p.block < Br) (hT0 : T ≠ 0) :
    Calls Tryz.prog 147 #[.pointer (some ⟨Bc, 0, none⟩), .pointer (some ⟨Br, 0, none⟩), .pointer (some ⟨Bl, 0, none⟩)] w0 (Took w0 base Bc Br Bl T) := by
  have hn0 : 0 < n0 := by rw [← hn]; exact List.length_pos_iff.2 (fun h => hT0 (M.lims_eq_nil.1 h))
  obtain ⟨g, hAg, hg, hg'⟩ := ho.head hn0
  subst hAg
  have hgB : g < Br := hA _ rfl
  have hwr := OwK.wr (o := 0) (m := n0) ho (by omega)
  rw [List.drop_zero, List.take_of_length_le (by rw [hn]; exact Nat.le_refl _)] at hwr
  have hnne : ((n0 : Int) == 0) = false := by simp; omega
  have c1 := hc.cell
  have c2 := hr.cell
  have HC0 := Lib.hid hc
  have HR0 := Lib.hid hr
  have HL0 := Lib.hid hl
  have HN0 := Lib.hid hn
  have HO0 := Lib.hid ho
  have HA := Lib.hid hA
  have HW := Lib.hid hwr
  clear hc hr hl hn ho hA hwr
  go_enter Tryz.func147, Tryz.ntmps147
  go_wp2_with fail
  refine (divideBy_any g 0 n0 c _ 1000000000 w0 HW.out (by omega) (by omega) (by omega)).mono ?_
  rintro e w2 ⟨zs, rfl, hzl, hzs, hzv, hp⟩
  rw [M.val_lims] at hzv ⊢
  have ho2 := HO0.out.put hp (by omega) hzs
  rw [List.take_zero, List.nil_append, Nat.zero_add, hzl, List.drop_of_length_le (by rw [HN0.out]; exact Nat.le_refl _), List.append_nil] at ho2
  obtain ⟨low, hlowe⟩ : ∃ low, T % 1000000000 = low := ⟨_, rfl⟩
  obtain ⟨N, hNe⟩ : ∃ N, T / 1000000000 = N := ⟨_, rfl⟩
  have hlow9 : low < 1000000000 := by omega
  have hTe : T = low + 10 ^ 9 * N := by omega
  rw [hlowe]
  rw [hNe] at hzv
  have bl2 := ((HL0.out.grown hp.grown (by intro e; injection e with e; omega)).set_ (.int .u32 (low : Int))).far (p := ⟨Bc, 0, none⟩) (by dsimp only; omega) (.int .i64 9)
  have bc2 := ((HC0.out.grown hp.grown (by intro e; injection e with e; omega)).far (p := ⟨Bl, 0, none⟩) (by dsimp only; omega) (.int .u32 (low : Int))).set_ (.int .i64 9)
  have br1 := HR0.out.grown hp.grown (by intro e; injection e with e; omega)
  have br2 := (br1.far (p := ⟨Bl, 0, none⟩) (by dsimp only; omega) (.int .u32 (low : Int))).far (p := ⟨Bc, 0, none⟩) (by dsimp only; omega) (.int .i64 9)
  have ho3 := (ho2.setFar HA.out (q := ⟨Bl, 0, none⟩) (by dsimp only; omega) (.int .u32 (low : Int))).setFar HA.out (q := ⟨Bc, 0, none⟩) (by dsimp only; omega) (.int .i64 9)
  have hbe0 : BA base Bc w0 ((w2.setCell ⟨Bl, 0, none⟩ (.int .u32 (low : Int))).setCell ⟨Bc, 0, none⟩ (.int .i64 9)) :=
    ((BA.refl base Bc w0).put hp hg (by omega) (by omega)).setCell (p := ⟨Bl, 0, none⟩) (by dsimp only; omega) (by dsimp only; omega) _ |>.setCell (p := ⟨Bc, 0, none⟩) (by dsimp only; omega) (Nat.le_refl _) _
  have cl1 := (HL0.out.grown hp.grown (by intro e; injection e with e; omega)).cell
  have fl1 := (HL0.out.grown hp.grown (by intro e; injection e with e; omega)).frozen
  have cc1 := (HC0.out.grown hp.grown (by intro e; injection e with e; omega)).cell
  have fc1 := (HC0.out.grown hp.grown (by intro e; injection e with e; omega)).frozen
  have cr1 := br1.cell
  have BL2 := Lib.hid bl2
  have BC2 := Lib.hid bc2
  have BR2 := Lib.hid br2
  have HO3 := Lib.hid ho3
  have HBE0 := Lib.hid hbe0
  have HZV := Lib.hid hzv
  have HZS := Lib.hid hzs
  have HTE := Lib.hid hTe
  clear bl2 bc2 br2 ho3 hbe0 hzv hzs hTe hlowe hNe hp ho2 br1 hzl
  go_wp2_with fail
  generalize (w2.setCell ⟨Bl, 0, none⟩ (.int .u32 (low : Int))).setCell ⟨Bc, 0, none⟩ (.int .i64 9) = w3 at *
  have cl3 := BL2.out.cell
  have fl3 := BL2.out.frozen
  have cc3 := BC2.out.cell
  have fc3 := BC2.out.frozen
  have cr3 := BR2.out.cell
  have fr3 := BR2.out.frozen
  clear cl1 fl1 cc1 fc1 cr1 c1 c2
  obtain ⟨n, hn⟩ : ∃ n, (M.tr zs).length = n := ⟨_, rfl⟩
  have hnb : n ≤ 1048576 := by
    have h1 := M.tr_length_le zs
    have h2 := HO3.out.len
    omega
  have HNT := Lib.hid hn
  clear hn
  refine (short_any _ _ _ _ _ HO3.out.rd (by omega)).mono ?_
  rw [HNT.out]
  rintro e w' ⟨rfl, rfl⟩
  go_wp2
  have hzt : M.tr zs = M.lims N := by rw [M.tr_eq_lims HZS.out, HZV.out]
  have hlim : (M.lims N).length = n := by rw [← hzt]; exact HNT.out
  have HL : Hid (Bx (w3.setCell ⟨Br, 0, none⟩ (.slice (some ⟨g, 0, none⟩) n c)) Bl 44 (.int .u32 (low : Int))) := BL2.out.far (by dsimp only; omega) _
  have HC : Hid (Bx (w3.setCell ⟨Br, 0, none⟩ (.slice (some ⟨g, 0, none⟩) n c)) Bc 3 (.int .i64 9)) := BC2.out.far (by dsimp only; omega) _
  have HR : Hid (Bx (w3.setCell ⟨Br, 0, none⟩ (.slice (some ⟨g, 0, none⟩) n c)) Br 22 (.slice (some ⟨g, 0, none⟩) n c)) := BR2.out.set_ _
  have hO := HO3.out.short
  rw [hzt, hlim] at hO
  have HO : Hid (Own (w3.setCell ⟨Br, 0, none⟩ (.slice (some ⟨g, 0, none⟩) n c)) base (some ⟨g, 0, none⟩) n c (M.lims N)) := hO.setFar HA.out (Nat.le_refl _) _
  have HB0 : Hid (BA base Bc w0 (w3.setCell ⟨Br, 0, none⟩ (.slice (some ⟨g, 0, none⟩) n c))) := HBE0.out.setCell (p := ⟨Br, 0, none⟩) o1 (by dsimp only; omega) _
  have HN := Lib.hid hlim
  clear hlim hO hzt cl3 fl3 cc3 fc3 cr3 fr3
  generalize w3.setCell ⟨Br, 0, none⟩ (.slice (some ⟨g, 0, none⟩) n c) = w at *
  have c1 := HC.out.cell
  have c2 := HR.out.cell
  have c3 := HL.out.cell
  have f1 := HC.out.frozen
  have f3 := HL.out.frozen
  obtain ⟨cnt, hcnt⟩ : ∃ cnt, cnt = 9 := ⟨_, rfl⟩
  have hcI : (9 : Int) = (cnt : Int) := by omega
  have hlow : low < 10 ^ cnt := by rw [hcnt]; exact hlow9
  have hT : T = low + 10 ^ cnt * N := by rw [hcnt]; exact HTE.out
  obtain ⟨hdig, hdiv⟩ := tk_digit (show 0 < cnt by omega) hT
  have HLOW := Lib.hid hlow
  have HT := Lib.hid hT
  have HDIG := Lib.hid hdig
  have HDIV := Lib.hid hdiv
  have hcne : True := trivial
  clear hlow hT hdig hdiv
  rw [hcI] at HC c1
  have hcp : 0 < cnt := by omega
  have hc9 : cnt ≤ 9 := by omega
  clear hcI hcnt
  go_region
  have e1 : (low : Int) / 10 = ((low / 10 : Nat) : Int) := by omega
  have e2 : (cnt : Int) - 1 = ((cnt - 1 : Nat) : Int) := by omega
  have e3 : (48 : Int) + (low : Int) % 10 = ((48 + T % 10 : Nat) : Int) := by rw [← HDIG.out]; omega
  rw [e1, e2, e3]
  have b3 := ((HL.out.set_ (.int .u32 ((low / 10 : Nat) : Int))).far (p := ⟨Bc, 0, none⟩) (by dsimp only; omega) (.int .i64 ((cnt - 1 : Nat) : Int))).drew
  have b1 := ((HC.out.far (p := ⟨Bl, 0, none⟩) (by dsimp only; omega) (.int .u32 ((low / 10 : Nat) : Int))).set_ (.int .i64 ((cnt - 1 : Nat) : Int))).drew
  have b2 := ((HR.out.far (p := ⟨Bl, 0, none⟩) (by dsimp only; omega) (.int .u32 ((low / 10 : Nat) : Int))).far (p := ⟨Bc, 0, none⟩) (by dsimp only; omega) (.int .i64 ((cnt - 1 : Nat) : Int))).drew
  have ho1 := ((HO.out.setFar HA.out (q := ⟨Bl, 0, none⟩) (by dsimp only; omega) (.int .u32 ((low / 10 : Nat) : Int))).setFar HA.out (q := ⟨Bc, 0, none⟩) (by dsimp only; omega) (.int .i64 ((cnt - 1 : Nat) : Int))).drew
  have hbe := ((HB0.out.setCell (p := ⟨Bl, 0, none⟩) (by dsimp only; omega) (by dsimp only; omega) (.int .u32 ((low / 10 : Nat) : Int))).setCell (p := ⟨Bc, 0, none⟩) (by dsimp only; omega) (by dsimp only; omega) (.int .i64 ((cnt - 1 : Nat) : Int))).drew
  generalize ((w.setCell ⟨Bl, 0, none⟩ (.int .u32 ((low / 10 : Nat) : Int))).setCell ⟨Bc, 0, none⟩ (.int .i64 ((cnt - 1 : Nat) : Int))).drew = W at *
  have hpw : low / 10 < 10 ^ (cnt - 1) := by
    have h1 := HLOW.out
    rw [show cnt = cnt - 1 + 1 by omega, Nat.pow_succ] at h1
    rw [Nat.div_lt_iff_lt_mul (by omega)]
    exact h1
  generalize hl2 : low / 10 = lo at *
  generalize hc2 : cnt - 1 = cn at *
  have d1 := b1.cell
  have d2 := b2.cell
  have d3 := b3.cell
  have g1 := b1.frozen
  have B1 := Lib.hid b1
  have B2 := Lib.hid b2
  have B3 := Lib.hid b3
  have HO1 := Lib.hid ho1
  have HBE := Lib.hid hbe
  have HPW := Lib.hid hpw
  have hcn : cn ≤ 9 := by omega
  clear b1 b2 b3 ho1 hbe hpw e1 e2 e3 hl2 hc2 HC HR HL HO HLOW HT HDIG c1 c2 c3 f1 f3 hcne
  obtain ⟨d, hd⟩ : ∃ d, d = 48 + T % 10 := ⟨_, rfl⟩
  rw [← hd]
  have HD := Lib.hid hd
  have hd57 : d ≤ 57 := by omega
  clear hd
  by_cases hlo : lo = 0
  · by_cases hn0 : n = 0
    · have hN0 : N = 0 := by have := HN.out; rw [hn0] at this; exact M.lims_eq_nil.1 (List.eq_nil_of_length_eq_zero this)
      have HN0 := Lib.hid hN0
      have HT0 := Lib.hid hT0
      clear hN0 hT0
      subst hlo
      subst hn0
      go_wp2
      go_ret2
      refine ⟨⟨o1, o2, o3, 0, 0, 0, 0, c, _, B1.out.set_ _, B2.out.far (p := ⟨Bc, 0, none⟩) (by dsimp only; omega) _, B3.out.far (p := ⟨Bc, 0, none⟩) (by dsimp only; omega) _, by rw [M.lims_zero]; rfl, by omega, ?_, HA.out, by omega, by simp, ?_, (fun h => by omega)⟩, ?_, HBE.out.setCell (p := ⟨Bc, 0, none⟩) (by dsimp only; omega) (Nat.le_refl _) _⟩
      · have := HO1.out
        rw [HN0.out] at this
        exact this.setFar HA.out (by dsimp only; omega) _
      · rw [HDIV.out, HN0.out]; simp
      · rw [tdig_pos HT0.out, ← HD.out, tmore_pos HT0.out]; rfl
    · have hnne : ((n : Int) == 0) = false := by simp; omega
      have HT0 := Lib.hid hT0
      have HLO := Lib.hid hlo
      clear hT0
      subst hlo
      go_wp2
      go_ret2
      refine ⟨⟨o1, o2, o3, 0, cn, N, n, c, _, B1.out, B2.out, B3.out, HN.out, hnb, HO1.out, HA.out, hcn, HPW.out, HDIV.out, fun _ h => ?_⟩, ?_, HBE.out⟩
      · rw [HDIV.out] at h
        have h1 : 0 < N := by
          rcases Nat.eq_zero_or_pos N with h0 | h0
          · have := HN.out; rw [h0, M.lims_zero] at this; simp at this; omega
          · exact h0
        have h2 : 0 < 10 ^ cn * N := Nat.mul_pos (Nat.pow_pos (by omega)) h1
        omega
      · rw [tdig_pos HT0.out, ← HD.out, tmore_pos HT0.out]; rfl
  · have hlne : ((lo : Int) == 0) = false := by simp; omega
    have HT0 := Lib.hid hT0
    clear hT0
    go_wp2
    go_ret2
    refine ⟨⟨o1, o2, o3, lo, cn, N, n, c, _, B1.out, B2.out, B3.out, HN.out, hnb, HO1.out, HA.out, hcn, HPW.out, HDIV.out, fun _ h => ?_⟩, ?_, HBE.out⟩
    · rw [HDIV.out] at h
      omega
    · rw [tdig_pos HT0.out, ← HD.out, tmore_pos HT0.out]; rfl

theorem taker_any (base Bc Br Bl T : Nat) (w : World) (h : Tk w base Bc Br Bl T) :
    Calls Tryz.prog 147 #[.pointer (some ⟨Bc, 0, none⟩), .pointer (some ⟨Br, 0, none⟩), .pointer (some ⟨Bl, 0, none⟩)] w (Took w base Bc Br Bl T) := by
  by_cases hT0 : T = 0
  · subst hT0
    exact taker_end base Bc Br Bl w h
  · obtain ⟨low, cnt, N, n, c, A, hc, hr, hl, hn, hnb, ho, hA, hc9, hlow, hT, hpos⟩ := h.st
    rcases Nat.eq_zero_or_pos cnt with h0 | h0
    · subst h0
      have hN : N = T := by simp at hlow; subst hlow; simp at hT; exact hT.symm
      subst hN
      exact taker_fill base Bc Br Bl N low n c A w h.ord1 h.ord2 h.ord3 hc hr hl hn hnb ho hA hT0
    · exact taker_mid base Bc Br Bl T low cnt N n c A w h.ord1 h.ord2 h.ord3 hc hr hl hn hnb ho hA hc9 hlow hT h0 hT0

end Go.Proofs.YtbhgbilhoonopaaGreat

/- slices.Reverse of bytes, nat.digitTaker, nat.Text: for every row of limbs (of 10^5 at most). -/
namespace Go.Proofs.YtbhgbilhoonopaaGreat
open Go.RowKit
set_option linter.unusedVariables false

def kU8 : Kd Nat := ⟨fun x => .int .u8 (x : Int), fun x => x < 256, 5, 50, 0, 1, fun _ => rfl, Tryz.underlying50, by kernel_rfl, rfl, by decide⟩

theorem grownBy_same {a b c : World} {g : Nat} (h : a.grownBy b (some g)) (k : b.grownBy c (some g)) : a.grownBy c (some g) :=
  ⟨k.os.trans h.os, k.tape.trans h.tape, k.output.trans h.output, Nat.le_trans h.size k.size, fun i hi hn => (k.block i (by have := h.size; omega) hn).trans (h.block i hi hn)⟩
theorem grownBy_drew {a b : World} {r : Option Nat} (h : a.grownBy b r) : a.grownBy b.drew r := ⟨h.os, h.tape, h.output, h.size, h.block⟩

/-- The row, its first and last k elements turned round. -/
def Rev (xs ys : List Nat) (n k : Nat) : Prop := ys.length = n ∧ ∀ i, i < n → ys[i]? = if i < k ∨ n - k ≤ i then xs[n - 1 - i]? else xs[i]?

theorem Rev.start {xs : List Nat} {n : Nat} (h : xs.length = n) : Rev xs xs n 0 := ⟨h, fun i hi => by rw [if_neg (by omega)]⟩

theorem Rev.step {xs ys : List Nat} {n k x y : Nat} (h : Rev xs ys n k) (hk : k < n - 1 - k) (hx : xs[k]? = some x) (hy : xs[n - 1 - k]? = some y) : Rev xs ((ys.set k y).set (n - 1 - k) x) n (k + 1) := by
  refine ⟨by simp [h.1], fun i hi => ?_⟩
  rw [List.getElem?_set, List.getElem?_set, List.length_set, h.1]
  by_cases h1 : n - 1 - k = i
  · rw [if_pos h1, if_pos (by omega), if_pos (by omega), ← h1, show n - 1 - (n - 1 - k) = k by omega, hx]
  · rw [if_neg h1]
    by_cases h2 : k = i
    · rw [if_pos h2, if_pos (by omega), if_pos (by omega), ← h2, hy]
    · rw [if_neg h2, h.2 i hi]
      by_cases h3 : i < k ∨ n - k ≤ i
      · rw [if_pos h3, if_pos (by omega)]
      · rw [if_neg h3, if_neg (by omega)]

theorem Rev.done {xs ys : List Nat} {n k : Nat} (h : Rev xs ys n k) (hl : xs.length = n) (hk : n - 1 ≤ 2 * k) : ys = xs.reverse := by
  apply List.ext_getElem?
  intro i
  by_cases hi : i < n
  · rw [h.2 i hi, List.getElem?_reverse (by omega), hl]
    by_cases h3 : i < k ∨ n - k ≤ i
    · rw [if_pos h3]
    · rw [if_neg h3, show n - 1 - i = i by omega]
  · rw [List.getElem?_eq_none (by rw [h.1]; omega), List.getElem?_eq_none (by rw [List.length_reverse]; omega)]

theorem Rev.get {xs ys : List Nat} {n k i : Nat} (h : Rev xs ys n k) (hi : i < n) (h1 : k ≤ i) (h2 : i < n - k) : ys[i]? = xs[i]? := by
  rw [h.2 i hi, if_neg (by omega)]

def Revd (w : World) (base g n c : Nat) (xs : List Nat) (e : Ending) (w' : World) : Prop :=
  e = .returned (.tuple #[]) ∧ OwK kU8 w' base (some ⟨g, 0, none⟩) n c xs ∧ w.grownBy w' (some g)

set_option maxHeartbeats 2000000 in
theorem reverse_any (base g n c : Nat) (xs : List Nat) (w : World) (h : OwK kU8 w base (some ⟨g, 0, none⟩) n c xs) (hn : n ≤ 1048576) :
    Calls Tryz.prog 123 #[.slice (some ⟨g, 0, none⟩) n c] w (Revd w base g n c xs.reverse) := by
  have H := Lib.hid h
  clear h
  go_enter Tryz.func123, Tryz.ntmps123
  go_wp2
  go_loopw [2, 3] (fun p q wr => ∃ (k : Nat) (ys : List Nat), 2 * k ≤ n ∧ p = .int .i64 k ∧ q = .int .i64 ((n : Int) - 1 - k) ∧ Rev xs ys n k ∧ OwK kU8 wr base (some ⟨g, 0, none⟩) n c ys ∧ w.grownBy wr (some g)) (fun p _ _ => n - (intOf p).toNat)
  case atStart => exact ⟨0, xs, by omega, rfl, by go_num, Rev.start H.out.len, H.out, World.grownBy.refl w _⟩
  case round =>
    obtain ⟨k, ys, hk, rfl, rfl, hv, ho, hg⟩ := hrel
    have HV := Lib.hid hv
    have HO := Lib.hid ho
    have HG := Lib.hid hg
    clear hv ho hg
    by_cases hlt : (k : Int) < (n : Int) - 1 - k
    · obtain ⟨x, hx⟩ : ∃ x, xs[k]? = some x := ⟨_, List.getElem?_eq_getElem (by rw [H.out.len]; omega)⟩
      obtain ⟨y, hy⟩ : ∃ y, xs[n - 1 - k]? = some y := ⟨_, List.getElem?_eq_getElem (by rw [H.out.len]; omega)⟩
      have c1 := HO.out.cellAt ((HV.out.get (i := k) (by omega) (by omega) (by omega)).trans hx)
      have c2 := HO.out.cellAt ((HV.out.get (i := n - 1 - k) (by omega) (by omega) (by omega)).trans hy)
      have f1 := HO.out.frozenAt k
      have f2 := HO.out.frozenAt (n - 1 - k)
      simp only [kU8] at c1 c2
      have hxl : x < 256 := H.out.lim x (List.mem_of_getElem? hx)
      have hyl : y < 256 := H.out.lim y (List.mem_of_getElem? hy)
      have hst := HV.out.step (by omega) hx hy
      obtain ⟨ho2, hg2⟩ := HO.out.set_ k y hyl
      obtain ⟨ho3, hg3⟩ := ho2.set_ (n - 1 - k) x hxl
      have hj : ((n : Int) - 1 - k).toNat = n - 1 - k := by omega
      have HST := Lib.hid hst
      have HO3 := Lib.hid ho3
      have HG2 := Lib.hid hg2
      have HG3 := Lib.hid hg3
      clear hst ho2 ho3 hg2 hg3 hx hy
      go_wp2
      go_region
      go_wp2
      go_roundw
      case rel => exact ⟨k + 1, _, by omega, by go_num, by go_num, HST.out, HO3.out.drew, grownBy_drew (grownBy_same (grownBy_same HG.out HG2.out) HG3.out)⟩
      case measure => simp [intOf]; omega
    · have HD := Lib.hid (HV.out.done H.out.len (by omega))
      go_wp2
      go_end0
      exact ⟨rfl, by rw [← HD.out]; exact HO.out, HG.out⟩

/-- A taker of digits as a value. -/
def takerV (Bc Br Bl : Nat) : Value := .func (.func 147) #[] #[.pointer (some ⟨Bc, 0, none⟩), .pointer (some ⟨Br, 0, none⟩), .pointer (some ⟨Bl, 0, none⟩)]

def GivesTaker (w : World) (T : Nat) (e : Ending) (w' : World) : Prop :=
  ∃ Bc Br Bl, e = .returned (.func (.func 147) #[] #[.pointer (some ⟨Bc, 0, none⟩), .pointer (some ⟨Br, 0, none⟩), .pointer (some ⟨Bl, 0, none⟩)]) ∧ Tk w' w.heap.size Bc Br Bl T ∧ Bc < w'.heap.size ∧ Below w.heap.size w w'

set_option maxHeartbeats 1000000 in
theorem digitTaker_any (A : Option Addr) (n c : Nat) (xs : List Nat) (w : World) (h : Rd w A n c xs) (hn : n ≤ 1048576) :
    Calls Tryz.prog 122 #[.slice A n c] w (GivesTaker w (M.val xs)) := by
  have H := Lib.hid h
  have hlx : (M.lims (M.val xs)).length ≤ 1048576 := by have := M.lims_val_length_le h.Lim; rw [h.len] at this; omega
  clear h
  obtain ⟨nx, hnx⟩ : ∃ nx, (M.lims (M.val xs)).length = nx := ⟨_, rfl⟩
  rw [hnx] at hlx
  have HNX := Lib.hid hnx
  clear hnx
  go_enter Tryz.func122, Tryz.ntmps122
  go_wp2_with fail
  refine (trim_any _ _ _ _ _ H.out (by omega)).mono ?_
  rw [Gives_len HNX.out]
  rintro e w1 ⟨A1, c1, rfl, ho1, hb1⟩
  have HO1 := Lib.hid ho1
  have HB1 := Lib.hid hb1
  clear ho1 hb1
  go_wp2
  go_ret
  refine ⟨w1.heap.size + 1 + 1, w1.heap.size, w1.heap.size + 1, rfl, ⟨HB1.out.size, by omega, by omega, 0, 0, M.val xs, nx, c1, A1, ?_, ?_, ?_, HNX.out, hlx, ?_, fun p hp => (HO1.out.lt hp).2, by omega, by simp, by simp, fun h => by omega⟩, by simp, ?_⟩
  · have := Bx.new ((w1.alloc (.cells #[.slice A1 nx c1] 22)).alloc (.cells #[.int .u32 0] 44)) 3 (.int .i64 0)
    simpa using this
  · exact ((Bx.new w1 22 (.slice A1 nx c1)).alloc _).alloc _
  · have := (Bx.new (w1.alloc (.cells #[.slice A1 nx c1] 22)) 44 (.int .u32 0)).alloc (.cells #[.int .i64 0] 3)
    simpa using this
  · exact ((HO1.out.alloc _).alloc _).alloc _
  · exact ((HB1.out.alloc HB1.out.size _).alloc (by have := HB1.out.size; simp; omega) _).alloc (by have := HB1.out.size; simp; omega) _

theorem OwK.above {α : Type} {K : Kd α} {w w' : World} {base b n c D : Nat} {A : Option Addr} {xs : List α} (h : OwK K w base A n c xs) (hb : BA b D w w') (hD : D < base) : OwK K w' base A n c xs := by
  refine ⟨⟨h.row.1, ?_⟩, h.lim⟩
  rcases h.row.2 with h' | ⟨g, cap, cur, hv, hg, hh, r⟩
  · exact .inl h'
  · exact .inr ⟨g, cap, cur, hv, hg, (hb.above g (by omega)).trans hh, r⟩

theorem Tk.grown {w w' : World} {base Bc Br Bl T : Nat} {row : Option Nat} (h : Tk w base Bc Br Bl T) (hg : w.grownBy w' row) (hr : ∀ g, row = some g → Bc < g) : Tk w' base Bc Br Bl T := by
  obtain ⟨low, cnt, N, n, c, A, hc, hr1, hl, hn, hnb, ho, hA, rest⟩ := h.st
  have o2 := h.ord2
  have o3 := h.ord3
  refine ⟨h.ord1, o2, o3, low, cnt, N, n, c, A, hc.grown hg (fun e => by have := hr _ e.symm; omega), hr1.grown hg (fun e => by have := hr _ e.symm; omega), hl.grown hg (fun e => by have := hr _ e.symm; omega), hn, hnb, ho.grown hg (fun p hp e => ?_), hA, rest⟩
  have h1 := hA p hp
  have h2 := hr _ e.symm
  omega

end Go.Proofs.YtbhgbilhoonopaaGreat

/- nat.Text: for every row of limbs (of 10^5 at most). -/
namespace Go.Proofs.YtbhgbilhoonopaaGreat
open Go.RowKit
set_option linter.unusedVariables false

def slLen : Value → Nat | .slice _ n _ => n | _ => 0

/-- A call answers a text: these bytes. -/
def GivesT (w : World) (l : List Nat) (e : Ending) (w' : World) : Prop := ∃ s, e = .returned (.string s) ∧ M.bytes s = l ∧ Below w.heap.size w w'

theorem bytes_strOfNums {l : List Nat} (h : M.Dig l) : M.bytes (strOfNums (l.map fun x : Nat => (x : Int))) = l := by
  unfold M.bytes
  rw [strOfNums_data, List.map_map, List.map_map]
  have : ∀ x ∈ l, (UInt8.toNat ∘ (fun n : Int => UInt8.ofNat n.toNat) ∘ fun x : Nat => (x : Int)) x = x := by
    intro x hx
    have := h x hx
    simp only [Function.comp, Int.toNat_natCast]
    rw [UInt8.toNat_ofNat']
    omega
  exact (List.map_congr_left this).trans (List.map_id' l)

set_option maxHeartbeats 4000000 in
theorem text_any (A0 : Option Addr) (n0 c0 : Nat) (xs : List Nat) (w : World) (h : Rd w A0 n0 c0 xs) (hn : n0 ≤ 100000) :
    Calls Tryz.prog 85 #[.slice A0 n0 c0] w (GivesT w (M.txt (M.val xs))) := by
  have H := Lib.hid h
  have hL : (M.lows (M.val xs)).length ≤ 1000000 := by have := M.lows_val_len h.Lim; rw [h.len] at this; omega
  clear h
  obtain ⟨V, hV⟩ : ∃ V, M.val xs = V := ⟨_, rfl⟩
  rw [hV] at hL ⊢
  have HV := Lib.hid hV
  clear hV
  go_enter Tryz.func85, Tryz.ntmps85
  go_wp2_with fail
  refine (digitTaker_any _ _ _ _ _ H.out (by omega)).mono ?_
  rw [HV.out]
  rintro e w1 ⟨Bc, Br, Bl, rfl, htk1, hbc1, hb1⟩
  have HTK1 := Lib.hid htk1
  have HB1 := Lib.hid hb1
  clear htk1 hb1
  go_wp2_with fail
  refine (taker_any _ _ _ _ _ _ HTK1.out).mono ?_
  rintro e w2 ⟨htk2, rfl, hba2⟩
  have HTK2 := Lib.hid htk2
  have HBA2 := Lib.hid hba2
  clear htk2 hba2
  go_wp2_with fail
  go_loopw [4, 5, 6] (fun q dg mo wr => ∃ (n c T : Nat) (A : Option Addr), q = .slice A n c ∧ dg = .int .u8 (tdig T : Nat) ∧ mo = .bool (tmore T) ∧ T = V / 10 ^ n ∧ n ≤ (M.lows V).length ∧
      OwK kU8 wr (Bc + 1) A n c ((M.lows V).take n) ∧ Tk wr w.heap.size Bc Br Bl (T / 10) ∧ Below w.heap.size w wr ∧ Bc < wr.heap.size) (fun q _ _ _ => (M.lows V).length - slLen q)
  case atStart =>
    refine ⟨0, 0, V, none, rfl, rfl, rfl, by simp, by omega, OwK.nil_ _ _, HTK2.out, HB1.out.trans HBA2.out.below, ?_⟩
    rw [HBA2.out.size]
    exact hbc1
  case round =>
    obtain ⟨n, c, T, A, rfl, rfl, hmo, hT, hnL, ho, htk, hb, hbc⟩ := hrel
    have HO := Lib.hid ho
    have HTK := Lib.hid htk
    have HB := Lib.hid hb
    have HT := Lib.hid hT
    clear ho htk hb hT HTK1 HTK2 HBA2 HB1
    by_cases hT0 : T = 0
    · subst hT0
      rw [tmore_zero] at hmo
      subst hmo
      have htake := M.lows_take_all V n HT.out.symm
      have ho := HO.out
      rw [htake] at ho
      have HO2 := Lib.hid ho
      clear htake ho
      by_cases hn0 : n = 0
      · subst hn0
        have hV0 : V = 0 := by have := HT.out; simp at this; exact this.symm
        have HV0 := Lib.hid hV0
        clear hV0
        go_wp2
        go_ret
        refine ⟨_, rfl, ?_, HB.out⟩
        rw [HV0.out]
        rfl
      · have hnne : ((n : Int) == 0) = false := by simp; omega
        obtain ⟨g, hA, hg, hg'⟩ := HO2.out.head (by omega)
        subst hA
        have hV0 : V ≠ 0 := by
          intro e
          have := HO2.out.len
          rw [e, M.lows_zero] at this
          simp at this
          omega
        have HV0 := Lib.hid hV0
        clear hV0
        go_wp2_with fail
        refine (reverse_any _ g n c _ _ HO2.out (by omega)).mono ?_
        rintro e w3 ⟨rfl, ho3, hg3⟩
        have hlen3 := ho3.len
        have hconv := run_convert_bytes_arg (P := Tryz.prog) w3 50 5 Tryz.underlying50 Tryz.underlying5 g 0 n c ((M.lows V).reverse.map fun x : Nat => (x : Int)) (by rw [List.length_map]; exact hlen3) (fun i hi => by
          obtain ⟨x, hx⟩ : ∃ x, (M.lows V).reverse[i]? = some x := ⟨_, List.getElem?_eq_getElem (by rw [hlen3]; exact hi)⟩
          have := ho3.cellAt hx
          rw [Nat.zero_add, this]
          simp only [kU8]
          rw [List.getD_eq_getElem?_getD, List.getElem?_map, hx]
          rfl) 9 Tryz.underlying9
        have hb3 := HB.out.grown hg3 HB.out.size (fun k hk => by cases hk; have := HB.out.size; have := HTK.out.ord1; have := HTK.out.ord2; have := HTK.out.ord3; omega)
        have HB3 := Lib.hid hb3
        clear ho3 hg3 hb3 hlen3
        go_wp2
        go_ret
        refine ⟨_, rfl, ?_, HB3.out⟩
        rw [← List.map_reverse, bytes_strOfNums (fun x hx => M.lows_dig V x (List.mem_reverse.1 hx))]
        unfold M.txt
        rw [if_neg HV0.out]
    · rw [tmore_pos hT0] at hmo
      subst hmo
      have hd : tdig T < 256 := by rw [tdig_pos hT0]; omega
      have htd : (M.lows V).take (n + 1) = (M.lows V).take n ++ [tdig T] := by
        rw [tdig_pos hT0, HT.out]
        exact M.lows_take V n (by rw [← HT.out]; exact hT0)
      have hlt : n < (M.lows V).length := M.lows_lt (by rw [← HT.out]; exact hT0)
      have hTn : T / 10 = V / 10 ^ (n + 1) := by rw [HT.out, Nat.pow_succ, Nat.div_div_eq_div_mul]
      have HTD := Lib.hid htd
      have HTN := Lib.hid hTn
      have HD := Lib.hid hd
      generalize tdig T = d at *
      clear htd hTn hd
      go_wp2_with (at_builtin; refine app_own kU8 _ rfl _ _ rfl (Bc + 1) A n c _ rfl (HO.out.alloc _) _ 1 1 [d] rfl (RdK.one _ d HD.out) (by omega) (by simp; omega) ?_; intro A2 c2 w3 ho3 hg3; have HO3 := Lib.hid ho3; have HG3 := Lib.hid hg3; clear ho3 hg3)
      have htk3 := (HTK.out.grown (World.grownBy_alloc wr _ none) (fun g hg => by cases hg)).grown HG3.out (fun g hg => by have := (HO.out.row.lt g hg).1; omega)
      have hb3 := (HB.out.alloc HB.out.size _).grown HG3.out (by have := HB.out.size; simp; omega) (fun g hg => by have := (HO.out.row.lt g hg).1; have := HTK.out.ord1; have := HTK.out.ord2; have := HTK.out.ord3; omega)
      have hsz3 : Bc < w3.heap.size := by have := HG3.out.size; simp at this; omega
      refine (taker_any _ _ _ _ _ _ htk3).mono ?_
      rintro e w4 ⟨htk4, rfl, hba4⟩
      have ho4 := HO3.out.above hba4 (by omega)
      rw [← HTD.out] at ho4
      have hb4 := hb3.trans hba4.below
      have hsz4 : Bc < w4.heap.size := by rw [hba4.size]; exact hsz3
      have HO4 := Lib.hid ho4
      have HTK4 := Lib.hid htk4
      have HB4 := Lib.hid hb4
      clear ho4 htk4 hba4 hb4 htk3 hb3
      go_wp2
      go_roundw
      case rel => exact ⟨n + 1, c2, T / 10, A2, rfl, rfl, rfl, HTN.out, by omega, HO4.out, HTK4.out, HB4.out, hsz4⟩
      case measure => simp only [slLen]; omega

end Go.Proofs.YtbhgbilhoonopaaGreat
