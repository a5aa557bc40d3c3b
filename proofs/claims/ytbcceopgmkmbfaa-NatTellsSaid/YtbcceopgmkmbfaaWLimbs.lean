/- litmusref01.Limbs: limbs of bits. -/
import Derived.Test.YtbcceopgmkmbfaaWBits
namespace Go.Proofs.Ytbcceopgmkmbfaa
open Go.RowKit
set_option linter.unusedVariables false

namespace M
/-- The first i bits as limbs. -/
structure LbR (bs : List Bool) (i : Nat) (ys : List Nat) : Prop where
  len : ys.length = (i + 31) / 32
  lim : Lim ys
  eq : val ys = bval (bs.take i)

theorem LbR.zero (bs : List Bool) : LbR bs 0 [] := ⟨rfl, Lim.nil, rfl⟩
/-- A new limb. -/
theorem LbR.new {bs : List Bool} {i : Nat} {ys : List Nat} (h : LbR bs i ys) (h0 : i % 32 = 0) : (ys ++ [0]).length = i / 32 + 1 ∧ Lim (ys ++ [0]) ∧ val (ys ++ [0]) = bval (bs.take i) := by
  have := h.len
  refine ⟨by rw [List.length_append, h.len]; simp; omega, h.lim.append (Lim.cons R_pos Lim.nil), ?_⟩
  rw [val_append, h.eq]
  simp [val]
theorem two_pow_split (i : Nat) : 2 ^ i = R ^ (i / 32) * 2 ^ (i % 32) := by
  have : R = 2 ^ 32 := rfl
  rw [this, ← Nat.pow_mul, ← Nat.pow_add]
  congr 1
  omega
theorem val_set_add {ys : List Nat} {k y d : Nat} (hy : ys[k]? = some y) : val (ys.set k (y + d)) = val ys + R ^ k * d := by
  induction ys generalizing k with
  | nil => simp at hy
  | cons x xs ih =>
    cases k with
    | zero =>
      simp at hy
      subst hy
      simp only [List.set_cons_zero, val_cons, Nat.pow_zero, Nat.one_mul]
      omega
    | succ k =>
      simp only [List.set_cons_succ, val_cons]
      rw [ih (by simpa using hy), Nat.mul_add, Nat.pow_succ]
      have : R * (R ^ k * d) = R ^ k * R * d := by rw [← Nat.mul_assoc, Nat.mul_comm R]
      omega
theorem val_ge_limb {ys : List Nat} {k y : Nat} (hy : ys[k]? = some y) : R ^ k * y ≤ val ys := by
  induction ys generalizing k with
  | nil => simp at hy
  | cons x xs ih =>
    cases k with
    | zero =>
      simp at hy
      subst hy
      simp only [val_cons, Nat.pow_zero, Nat.one_mul]
      omega
    | succ k =>
      have := ih (k := k) (by simpa using hy)
      have h2 : R * (R ^ k * y) ≤ R * val xs := Nat.mul_le_mul_left _ this
      rw [Nat.pow_succ, val_cons]
      have h3 : R ^ k * R * y = R * (R ^ k * y) := by rw [← Nat.mul_assoc, Nat.mul_comm R]
      omega
/-- The limb that gets bit i holds only lower bits. -/
theorem limb_small {bs : List Bool} {i : Nat} {ys : List Nat} {y : Nat} (he : val ys = bval (bs.take i)) (hy : ys[i / 32]? = some y) : y < 2 ^ (i % 32) := by
  have h1 := val_ge_limb hy
  have h2 := bval_lt (bs.take i)
  have h3 : 2 ^ (bs.take i).length ≤ 2 ^ i := Nat.pow_le_pow_right (by omega) (by rw [List.length_take]; omega)
  rw [two_pow_split i] at h3
  have hP : 0 < R ^ (i / 32) := Nat.pow_pos R_pos
  exact Nat.lt_of_mul_lt_mul_left (a := R ^ (i / 32)) (by omega)
theorem LbR.one {bs : List Bool} {i : Nat} {ys : List Nat} {y : Nat} (hl : ys.length = i / 32 + 1) (hlim : Lim ys) (he : val ys = bval (bs.take i)) (hb : bs[i]? = some true) (hy : ys[i / 32]? = some y) : LbR bs (i + 1) (ys.set (i / 32) (y + 2 ^ (i % 32))) := by
  have hs := limb_small he hy
  have h32 : 2 ^ (i % 32) * 2 ≤ R := by
    have : 2 ^ (i % 32 + 1) ≤ 2 ^ 32 := Nat.pow_le_pow_right (by omega) (by omega)
    rw [Nat.pow_succ] at this
    exact this
  refine ⟨by rw [List.length_set, hl]; omega, ?_, ?_⟩
  · intro x hx
    rcases List.mem_or_eq_of_mem_set hx with hx | rfl
    · exact hlim x hx
    · omega
  · rw [val_set_add hy, he, bval_take hb, two_pow_split i]
    simp
theorem LbR.none {bs : List Bool} {i : Nat} {ys : List Nat} (hl : ys.length = i / 32 + 1) (hlim : Lim ys) (he : val ys = bval (bs.take i)) (hb : bs[i]? = some false) : LbR bs (i + 1) ys := by
  refine ⟨by omega, hlim, ?_⟩
  rw [he, bval_take hb]
  simp
theorem LbR.done {bs : List Bool} {ys : List Nat} (h : LbR bs bs.length ys) (ht : trB bs = bs) : ys = lims (bval bs) := by
  have he := h.eq
  rw [List.take_of_length_le (Nat.le_refl _)] at he
  by_cases h0 : bs = []
  · subst h0
    have : ys = [] := List.eq_nil_of_length_eq_zero (by rw [h.len]; rfl)
    rw [this]
    exact lims_zero.symm
  · have hge := bval_ge ht h0
    have hpos : 0 < bs.length := List.length_pos_iff.2 h0
    have hlen : ys.length ≤ (lims (bval bs)).length := by
      refine Nat.le_of_not_lt fun hc => ?_
      have h1 : (lims (bval bs)).length ≤ ys.length - 1 := by omega
      rw [lims_length_le, h.len] at h1
      have h2 : R ^ ((bs.length + 31) / 32 - 1) ≤ 2 ^ (bs.length - 1) := by
        have : R = 2 ^ 32 := rfl
        rw [this, ← Nat.pow_mul]
        exact Nat.pow_le_pow_right (by omega) (by omega)
      omega
    have e := tr_eq_lims h.lim
    rw [he] at e
    rw [← e]
    have h3 := tr_prefix ys
    rw [List.take_of_length_le (by rw [e]; exact hlen)] at h3
    exact h3.symm
end M

set_option maxHeartbeats 2000000 in
theorem limbs_any (A : Option Addr) (n c : Nat) (bs : List Bool) (w : World) (h : RdB w A n c bs) (hm : n ≤ 1000000) :
    Calls Try.prog 44 #[.slice A n c] w (Gives w (M.lims (M.bval bs))) := by
  have hl := M.trB_length_le bs
  rw [h.len] at hl
  have hs := h.shortB
  rw [← M.bval_trB]
  have ht := M.trB_trB bs
  have H := Lib.hid h
  clear h
  obtain ⟨ts, hts⟩ : ∃ ts, ts = M.trB bs := ⟨_, rfl⟩
  rw [← hts] at hs ht hl ⊢
  obtain ⟨m, hmm⟩ : ∃ m, m = ts.length := ⟨_, rfl⟩
  rw [← hmm] at hs hl
  have HTS := Lib.hid hts
  have HM := Lib.hid hmm
  have HS := Lib.hid hs
  have HT := Lib.hid ht
  clear hts hs ht hmm
  go_enter Try.func44, Try.ntmps44
  go_wp2_with fail
  refine (trimB_any _ _ _ _ _ H.out (by omega)).mono ?_
  rw [← HTS.out, ← HM.out]
  rintro e w' ⟨rfl, rfl⟩
  clear H HTS
  go_wp2_with fail
  go_loopw [3, 4] (fun v i wr => ∃ (k q cp : Nat) (B : Option Addr) (ys : List Nat), k ≤ m ∧ i = .int .i64 (k : Int) ∧ v = .slice B q cp ∧ Own wr w.heap.size B q cp ys ∧ M.LbR ts k ys ∧ Below w.heap.size w wr) (fun _ i _ => m - (intOf i).toNat)
  case atStart => exact ⟨0, 0, 0, none, [], by omega, rfl, rfl, OwK.nil_ _ _, M.LbR.zero _, Below.refl _ _⟩
  case round =>
    obtain ⟨k, q, cp, B, ys, hk, rfl, rfl, ho, hr, hb⟩ := hrel
    have hql : q ≤ 40000 := by have := ho.len; have := hr.len; omega
    have HO := Lib.hid ho
    have HR := Lib.hid hr
    have HB := Lib.hid hb
    clear ho hr hb
    by_cases hkm : k < m
    · obtain ⟨b, o, x, hA, hx, hcell⟩ := (HS.out.below HB.out).atB hkm
      subst hA
      have HX := Lib.hid hx
      have HC := Lib.hid (show ∀ w9, Below w.heap.size w w9 → w9.cell? ⟨b, o + k, none⟩ = some (.bool x) by
        intro w9 hb9
        obtain ⟨b9, o9, x9, hA9, hx9, hc9⟩ := (HS.out.below hb9).atB hkm
        injection hA9 with hA9
        injection hA9 with hA9 hA9'
        subst hA9 hA9'
        have := HX.out
        rw [hx9] at this
        injection this with this
        subst this
        exact hc9)
      clear hx
      obtain ⟨d, hd⟩ : ∃ d, d = k / 32 := ⟨_, rfl⟩
      obtain ⟨r, hr⟩ : ∃ r, r = k % 32 := ⟨_, rfl⟩
      obtain ⟨T, hT⟩ : ∃ T, T = 2 ^ r := ⟨_, rfl⟩
      have hr32 : r < 32 := by omega
      have hTl : T ≤ 2147483648 := by
        have : 2 ^ r ≤ 2 ^ 31 := Nat.pow_le_pow_right (by omega) (by omega)
        rw [hT]
        exact this
      have hT2 : (2 : Int) ^ r % 4294967296 = (T : Int) := by
        have e : (2 : Int) ^ r = ((2 ^ r : Nat) : Int) := by simp
        rw [e, ← hT]
        omega
      have hd1 : (k : Int) / 32 = (d : Int) := by omega
      have hr1 : (k : Int) % 32 = (r : Int) := by omega
      have hd2 : (k : Int).tdiv 32 = (d : Int) := by rw [Int.tdiv_eq_ediv_of_nonneg (by omega)]; omega
      have hr2 : (k : Int).tmod 32 = (r : Int) := by rw [Int.tmod_eq_emod_of_nonneg (by omega)]; omega
      have HDD := Lib.hid hd
      have HRR := Lib.hid hr
      have HTT := Lib.hid hT
      clear hd hr hT
      by_cases h0 : r = 0
      · obtain ⟨hl1, hlim1, hv1⟩ := HR.out.new (by rw [← HRR.out]; exact h0)
        have HL1 := Lib.hid hl1
        have HLIM1 := Lib.hid hlim1
        have HV1 := Lib.hid hv1
        have h0b : ((r : Int) == 0) = true := by simp; omega
        clear hl1 hlim1 hv1
        cases x with
        | false =>
          go_wp2_with (at_builtin; refine app_own kU32 _ rfl _ _ rfl w.heap.size B q cp ys rfl (HO.out.alloc _) _ 1 1 [0] rfl (RdK.one (K := kU32) _ 0 M.R_pos) (by omega) (by have := HB.out.size; simp; omega) ?_; intro A3 c3 w3 ho3 hg3; have hb3 := below_app HB.out HB.out.size HO.out hg3; have hc3 := HC.out w3 hb3; have HO3 := Lib.hid ho3; have HB3 := Lib.hid hb3; clear ho3 hg3 hb3)
          go_roundw
          case rel => exact ⟨k + 1, q + 1, c3, A3, ys ++ [0], by omega, by go_num, rfl, HO3.out, M.LbR.none HL1.out HLIM1.out HV1.out HX.out, HB3.out⟩
          case measure => simp [intOf]; omega
        | true =>
          go_wp2_with (at_builtin; refine app_own kU32 _ rfl _ _ rfl w.heap.size B q cp ys rfl (HO.out.alloc _) _ 1 1 [0] rfl (RdK.one (K := kU32) _ 0 M.R_pos) (by omega) (by have := HB.out.size; simp; omega) ?_; intro A3 c3 w3 ho3 hg3; have hb3 := below_app HB.out HB.out.size HO.out hg3; have hc3 := HC.out w3 hb3; have HO3 := Lib.hid ho3; have HB3 := Lib.hid hb3; clear ho3 hg3 hb3)
          obtain ⟨y, hy⟩ : ∃ y, (ys ++ [0])[d]? = some y := ⟨(ys ++ [0])[d]'(by rw [HL1.out, HDD.out]; omega), List.getElem?_eq_getElem _⟩
          obtain ⟨g, rfl, hg1, hg2⟩ := HO3.out.head (by have h9 := HO3.out.len; rw [HL1.out] at h9; omega)
          have hyd := hy
          rw [HDD.out] at hyd
          have hsm := M.limb_small HV1.out hyd
          rw [← HRR.out, ← HTT.out] at hsm
          have hst := M.LbR.one HL1.out HLIM1.out HV1.out HX.out hyd
          rw [← HDD.out, ← HRR.out, ← HTT.out] at hst
          have c1 := HO3.out.cellAt hy
          have f1 := HO3.out.frozenAt d
          simp only [kU32] at c1
          obtain ⟨z, hz⟩ : ∃ z, z = y + T := ⟨_, rfl⟩
          rw [← hz] at hst
          have hor : bits .or .u32 (y : Int) (T : Int) = (z : Int) := by
            rw [or_u32_nat y T (by omega) (by omega), hz]
            have := Nat.two_pow_add_eq_or_of_lt (i := r) (b := y) (by rw [← HTT.out]; exact hsm) 1
            rw [Nat.mul_one, ← HTT.out] at this
            rw [Nat.or_comm, ← this, Nat.add_comm]
          have hor1 : bits .or .u32 (y : Int) 1 = (z : Int) := by rw [← hor, HTT.out, h0]; rfl
          have hzl : z < M.R := by
            have hm9 : z ∈ (ys ++ [0]).set d z := List.mem_set (show d < (ys ++ [0]).length by rw [HL1.out, HDD.out]; omega) z
            exact hst.lim z hm9
          obtain ⟨ho4, hg4⟩ := HO3.out.set_ d z hzl
          have hdq : d < q + 1 := by have h9 := HO3.out.len; rw [HL1.out, ← HDD.out] at h9; omega
          have HO4 := Lib.hid ho4.drew
          have HB4 := Lib.hid ((HB3.out.setCell (p := ⟨g, d, none⟩) hg1 (.int .u32 (z : Int))).drew)
          have HST := Lib.hid hst
          clear ho4 hg4 hst hy hyd hz hsm hzl
          skip
          go_region
          go_wp2
          go_roundw
          case rel => exact ⟨k + 1, q + 1, _, _, _, by omega, by go_num, rfl, HO4.out, HST.out, HB4.out⟩
          case measure => simp [intOf]; omega
      · have h0b : ((r : Int) == 0) = false := by simp; omega
        have HL1 := Lib.hid (show ys.length = k / 32 + 1 by have := HR.out.len; have := HRR.out; omega)
        cases x with
        | false =>
          go_wp2
          go_roundw
          case rel => exact ⟨k + 1, q, cp, B, ys, by omega, by go_num, rfl, HO.out, M.LbR.none HL1.out HR.out.lim HR.out.eq HX.out, HB.out⟩
          case measure => simp [intOf]; omega
        | true =>
          obtain ⟨y, hy⟩ : ∃ y, (ys)[d]? = some y := ⟨(ys)[d]'(by rw [HL1.out, HDD.out]; omega), List.getElem?_eq_getElem _⟩
          obtain ⟨g, rfl, hg1, hg2⟩ := HO.out.head (by have h9 := HO.out.len; rw [HL1.out] at h9; omega)
          have hyd := hy
          rw [HDD.out] at hyd
          have hsm := M.limb_small HR.out.eq hyd
          rw [← HRR.out, ← HTT.out] at hsm
          have hst := M.LbR.one HL1.out HR.out.lim HR.out.eq HX.out hyd
          rw [← HDD.out, ← HRR.out, ← HTT.out] at hst
          have c1 := HO.out.cellAt hy
          have f1 := HO.out.frozenAt d
          simp only [kU32] at c1
          obtain ⟨z, hz⟩ : ∃ z, z = y + T := ⟨_, rfl⟩
          rw [← hz] at hst
          have hor : bits .or .u32 (y : Int) (T : Int) = (z : Int) := by
            rw [or_u32_nat y T (by omega) (by omega), hz]
            have := Nat.two_pow_add_eq_or_of_lt (i := r) (b := y) (by rw [← HTT.out]; exact hsm) 1
            rw [Nat.mul_one, ← HTT.out] at this
            rw [Nat.or_comm, ← this, Nat.add_comm]
          have hzl : z < M.R := by
            have hm9 : z ∈ (ys).set d z := List.mem_set (show d < (ys).length by rw [HL1.out, HDD.out]; omega) z
            exact hst.lim z hm9
          obtain ⟨ho4, hg4⟩ := HO.out.set_ d z hzl
          have hdq : d < q := by have h9 := HO.out.len; rw [HL1.out, ← HDD.out] at h9; omega
          have HO4 := Lib.hid ho4.drew
          have HB4 := Lib.hid ((HB.out.setCell (p := ⟨g, d, none⟩) hg1 (.int .u32 (z : Int))).drew)
          have HST := Lib.hid hst
          clear ho4 hg4 hst hy hyd hz hsm hzl
          go_wp2
          go_region
          go_wp2
          go_roundw
          case rel => exact ⟨k + 1, q, _, _, _, by omega, by go_num, rfl, HO4.out, HST.out, HB4.out⟩
          case measure => simp [intOf]; omega
    · obtain rfl : k = m := by omega
      have hd := HR.out
      rw [HM.out] at hd
      have HD := Lib.hid (hd.done HT.out)
      clear hd
      go_wp2
      go_ret
      rw [← HD.out, Gives_len HO.out.len]
      exact ⟨B, cp, rfl, HO.out, HB.out⟩

end Go.Proofs.Ytbcceopgmkmbfaa
