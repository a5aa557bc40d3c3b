/- litmusref01.add: rows of bits are added. -/
import Derived.Test.YthjgonfohjgfaaaMK
namespace Go.Proofs.Ythjgonfohjgfaaa
open Go.RowKit
set_option linter.unusedVariables false

theorem M.badd_step {zs : List Bool} {k : Nat} {x y z ca ca' : Bool} {A B : Nat} (hl : zs.length = k) (h : A + B = M.bval zs + 2 ^ k * ca.toNat) (hz : x.toNat + y.toNat + ca.toNat = z.toNat + 2 * ca'.toNat) :
    A + 2 ^ k * x.toNat + (B + 2 ^ k * y.toNat) = M.bval (zs ++ [z]) + 2 ^ (k + 1) * ca'.toNat := by
  rw [M.bval_append, M.bval_one, hl, Nat.pow_succ]
  have e1 : 2 ^ k * (x.toNat + y.toNat + ca.toNat) = 2 ^ k * (z.toNat + 2 * ca'.toNat) := by rw [hz]
  have e2 : 2 ^ k * (x.toNat + y.toNat + ca.toNat) = 2 ^ k * x.toNat + 2 ^ k * y.toNat + 2 ^ k * ca.toNat := by rw [Nat.mul_add, Nat.mul_add]
  have e3 : 2 ^ k * (z.toNat + 2 * ca'.toNat) = 2 ^ k * z.toNat + 2 ^ k * 2 * ca'.toNat := by rw [Nat.mul_add, Nat.mul_assoc]
  omega
theorem bitAt_out {bs : List Bool} {k : Nat} (h : bs.length ≤ k) : bitAt bs k = false := by unfold bitAt; rw [List.getElem?_eq_none h]; rfl

/-- A new row of bits of this number, of so many at most; there may be highest zeros. -/
def GivesAdd (w : World) (k v : Nat) (e : Ending) (w' : World) : Prop := ∃ C p q zs, e = .returned (.slice C p q) ∧ OwB w' w.heap.size C p q zs ∧ p ≤ k ∧ M.bval zs = v ∧ Below w.heap.size w w'

set_option maxHeartbeats 8000000 in
theorem addB_any (A : Option Addr) (n c : Nat) (es : List Bool) (B : Option Addr) (m d : Nat) (bs : List Bool) (w : World) (h : RdB w A n c es) (k : RdB w B m d bs) (hn : n ≤ 1000000) (hm : m ≤ 1000000) :
    Calls Try.prog 91 #[.slice A n c, .slice B m d] w (GivesAdd w (max n m + 1) (M.bval es + M.bval bs)) := by
  have H := Lib.hid h
  have K := Lib.hid k
  clear h k
  obtain ⟨mx, hmx⟩ : ∃ mx, mx = max n m := ⟨_, rfl⟩
  rw [← hmx]
  have hmn : n ≤ mx := by omega
  have hmm : m ≤ mx := by omega
  have hmxl : mx ≤ 1000000 := by omega
  clear hmx
  go_enter Try.func91, Try.ntmps91
  go_wp2
  go_loopw [5, 6, 7] (fun v q i wr => ∃ (k p cp : Nat) (ca : Bool) (D : Option Addr) (zs : List Bool), k ≤ mx + 1 ∧ (mx < k → ca = false) ∧ i = .int .i64 (k : Int) ∧ q = .bool ca ∧ v = .slice D p cp ∧ OwB wr w.heap.size D p cp zs ∧ zs.length = k ∧ M.bval (es.take k) + M.bval (bs.take k) = M.bval zs + 2 ^ k * ca.toNat ∧ Below w.heap.size w wr) (fun _ _ i _ => mx + 1 - (intOf i).toNat)
  case atStart => exact ⟨0, 0, 0, false, none, [], by omega, fun _ => rfl, rfl, rfl, rfl, OwK.nil_ _ _, rfl, rfl, Below.refl _ _⟩
  case round =>
    obtain ⟨k, p, cp, ca, D, zs, hk, hfa, rfl, rfl, rfl, ho, hl, hv, hb⟩ := hrel
    have hpk : p ≤ 1000001 := by have := ho.len; omega
    have HFA := Lib.hid hfa
    have HO := Lib.hid ho
    have HL := Lib.hid hl
    have HV := Lib.hid hv
    have HB := Lib.hid hb
    have HRA := Lib.hid (H.out.below hb)
    have HRB := Lib.hid (K.out.below hb)
    clear ho hl hv hb hfa
    obtain ⟨x, hx⟩ : ∃ x, x = bitAt es k := ⟨_, rfl⟩
    obtain ⟨y, hy⟩ : ∃ y, y = bitAt bs k := ⟨_, rfl⟩
    have HQA := Lib.hid (show Calls Try.prog 108 #[.slice A n c, .int .i64 (k : Int)] wr fun e w' => e = .returned (.bool x) ∧ wr = w' by rw [hx]; exact atB_any _ _ _ _ _ _ HRA.out (by omega))
    have HQB := Lib.hid (show Calls Try.prog 108 #[.slice B m d, .int .i64 (k : Int)] wr fun e w' => e = .returned (.bool y) ∧ wr = w' by rw [hy]; exact atB_any _ _ _ _ _ _ HRB.out (by omega))
    have HST := Lib.hid (show ∀ z ca' : Bool, x.toNat + y.toNat + ca.toNat = z.toNat + 2 * ca'.toNat → M.bval (es.take (k + 1)) + M.bval (bs.take (k + 1)) = M.bval (zs ++ [z]) + 2 ^ (k + 1) * ca'.toNat by
      intro z ca' hz
      rw [bval_take_at, bval_take_at, ← hx, ← hy]
      exact M.badd_step HL.out HV.out hz)
    have HXO := Lib.hid (show n ≤ k → x = false from fun h9 => by rw [hx]; exact bitAt_out (by rw [H.out.len]; exact h9))
    have HYO := Lib.hid (show m ≤ k → y = false from fun h9 => by rw [hy]; exact bitAt_out (by rw [K.out.len]; exact h9))
    clear hx hy
    have step : (k < n ∨ k < m ∨ ca = true) → k < mx + 1 := by
      intro h9
      rcases h9 with h9 | h9 | h9
      · omega
      · omega
      · refine Nat.lt_of_not_le fun hc => ?_
        have := HFA.out (by omega)
        rw [this] at h9
        cases h9
    have HSTEP := Lib.hid step
    clear step
    by_cases hgo : k < n ∨ k < m ∨ ca = true
    · have hkx := HSTEP.out hgo
      by_cases hkn : k < n <;> by_cases hkm : k < m <;> cases ca <;> first | (exfalso; simp at hgo; omega) | skip
      all_goals
        clear hgo
        go_wp2_with fail
        refine (HQA.out).mono ?_
        rintro e w' ⟨rfl, rfl⟩
        go_wp2_with fail
        refine (HQB.out).mono ?_
        rintro e w' ⟨rfl, rfl⟩
        cases x <;> cases y
        all_goals
          go_wp2_with (at_builtin; refine app_own kBool _ rfl _ _ rfl w.heap.size D p cp zs rfl (HO.out.alloc _) _ 1 1 [_] rfl (RdK.one (K := kBool) _ _ trivial) (by omega) (by have := HB.out.size; simp; omega) ?_; intro A3 c3 w3 ho3 hg3; have HO3 := Lib.hid ho3; have HG3 := Lib.hid hg3; clear ho3 hg3)
          go_roundw
          case rel => exact ⟨k + 1, p + 1, c3, _, A3, _, by omega, fun h9 => (by first | rfl | (have h8 := HXO.out (by omega); exact absurd h8 (by decide)) | (have h8 := HYO.out (by omega); exact absurd h8 (by decide))), by go_num, rfl, rfl, HO3.out, by simp [HL.out], HST.out _ _ rfl, below_app HB.out HB.out.size HO.out HG3.out⟩
          case measure => simp [intOf]; omega
    · obtain ⟨h1, h2⟩ : ¬ k < n ∧ ¬ k < m := ⟨fun h9 => hgo (.inl h9), fun h9 => hgo (.inr (.inl h9))⟩
      obtain rfl : ca = false := by cases ca with
        | false => rfl
        | true => exact absurd (.inr (.inr rfl)) hgo
      have hv := HV.out
      rw [List.take_of_length_le (by rw [H.out.len]; omega), List.take_of_length_le (by rw [K.out.len]; omega)] at hv
      have HF := Lib.hid (show M.bval zs = M.bval es + M.bval bs by simp at hv; omega)
      have hpm : p ≤ mx + 1 := by have := HO.out.len; have := HL.out; omega
      clear hv hgo
      go_wp2
      go_ret
      exact ⟨D, p, cp, zs, rfl, HO.out, hpm, HF.out, HB.out⟩

end Go.Proofs.Ythjgonfohjgfaaa

/- litmusref01.mul: rows of bits are multiplied: how many pairs meet at each place, and what is carried. -/
namespace Go.Proofs.Ythjgonfohjgfaaa
open Go.RowKit
set_option linter.unusedVariables false

def kInt : Kd Nat := ⟨fun x => .int .i64 (x : Int), fun x => x ≤ 2000000, 3, 117, 0, 8, fun _ => rfl, Try.underlying117, by kernel_rfl, rfl, by decide⟩

namespace M
/-- Counts at the places of bits. -/
def cval : List Nat → Nat
  | [] => 0
  | x :: xs => x + 2 * cval xs
theorem cval_replicate (n : Nat) : cval (List.replicate n 0) = 0 := by
  induction n with
  | zero => rfl
  | succ n ih => rw [List.replicate_succ, cval, ih]
theorem cval_set {ns : List Nat} {k x : Nat} (h : ns[k]? = some x) : cval (ns.set k (x + 1)) = cval ns + 2 ^ k := by
  induction ns generalizing k with
  | nil => simp at h
  | cons y ys ih =>
    cases k with
    | zero =>
      simp at h
      subst h
      simp only [List.set_cons_zero, cval, Nat.pow_zero]
      omega
    | succ k =>
      simp only [List.set_cons_succ, cval]
      rw [ih (by simpa using h), Nat.pow_succ]
      omega
theorem cval_append (xs ys : List Nat) : cval (xs ++ ys) = cval xs + 2 ^ xs.length * cval ys := by
  induction xs with
  | nil => simp [cval]
  | cons x xs ih =>
    rw [List.cons_append, cval, ih, cval, List.length_cons, Nat.pow_succ]
    have : 2 ^ xs.length * 2 * cval ys = 2 * (2 ^ xs.length * cval ys) := by rw [Nat.mul_comm (2 ^ xs.length), Nat.mul_assoc]
    omega
theorem cval_take {xs : List Nat} {k x : Nat} (h : xs[k]? = some x) : cval (xs.take (k + 1)) = cval (xs.take k) + 2 ^ k * x := by
  have hk : k < xs.length := (List.getElem?_eq_some_iff.1 h).1
  rw [take_snoc h, cval_append, List.length_take, Nat.min_eq_left (by omega)]
  simp [cval]

/-- The counts when i bits of the one, and k of the other at the next, have met. -/
structure CnR (es bs : List Bool) (i k : Nat) (ns : List Nat) : Prop where
  len : ns.length = es.length + bs.length
  eq : cval ns = bval (es.take i) * bval bs + 2 ^ i * bval (bs.take k)
  lo : ∀ (j x : Nat), ns[j]? = some x → x ≤ i + 1
  hi : ∀ (j x : Nat), ns[j]? = some x → i + k ≤ j → x ≤ i
theorem CnR.start (es bs : List Bool) : CnR es bs 0 0 (List.replicate (es.length + bs.length) 0) := by
  refine ⟨by simp, by rw [cval_replicate]; simp [bval], fun j x h => ?_, fun j x h _ => ?_⟩
  · rw [List.getElem?_replicate] at h
    split at h
    · cases h; omega
    · cases h
  · rw [List.getElem?_replicate] at h
    split at h
    · cases h; omega
    · cases h
theorem CnR.yes {es bs : List Bool} {i k x : Nat} {ns : List Nat} (h : CnR es bs i k ns) (hb : bs[k]? = some true) (hx : ns[i + k]? = some x) : CnR es bs i (k + 1) (ns.set (i + k) (x + 1)) := by
  have hxi := h.hi _ _ hx (Nat.le_refl _)
  refine ⟨by rw [List.length_set]; exact h.len, ?_, fun j y hy => ?_, fun j y hy hj => ?_⟩
  · rw [cval_set hx, h.eq, bval_take hb, Nat.mul_add, Nat.pow_add]
    simp
    omega
  · rw [List.getElem?_set] at hy
    split at hy
    · split at hy
      · cases hy; omega
      · cases hy
    · exact h.lo j y hy
  · rw [List.getElem?_set, if_neg (by omega)] at hy
    exact h.hi j y hy (by omega)
theorem CnR.no {es bs : List Bool} {i k : Nat} {ns : List Nat} (h : CnR es bs i k ns) (hb : bs[k]? = some false) : CnR es bs i (k + 1) ns := by
  refine ⟨h.len, ?_, h.lo, fun j y hy hj => h.hi j y hy (by omega)⟩
  rw [h.eq, bval_take hb]
  simp
theorem CnR.next {es bs : List Bool} {i : Nat} {ns : List Nat} (h : CnR es bs i bs.length ns) (he : es[i]? = some true) : CnR es bs (i + 1) 0 ns := by
  refine ⟨h.len, ?_, fun j y hy => Nat.le_succ_of_le (h.lo j y hy), fun j y hy _ => h.lo j y hy⟩
  rw [h.eq, bval_take he, List.take_of_length_le (Nat.le_refl _), Nat.add_mul]
  simp [bval]
theorem CnR.skip {es bs : List Bool} {i : Nat} {ns : List Nat} (h : CnR es bs i 0 ns) (he : es[i]? = some false) : CnR es bs (i + 1) 0 ns := by
  refine ⟨h.len, ?_, fun j y hy => Nat.le_succ_of_le (h.lo j y hy), fun j y hy _ => h.lo j y hy⟩
  rw [h.eq, bval_take he]
  simp [bval]
theorem carry_step {zs : List Bool} {k ca x C : Nat} (hl : zs.length = k) (h : bval zs + 2 ^ k * ca = C) : bval (zs ++ [decide ((ca + x) % 2 = 1)]) + 2 ^ (k + 1) * ((ca + x) / 2) = C + 2 ^ k * x := by
  rw [bval_append, bval_one, hl, Nat.pow_succ]
  have e0 : (decide ((ca + x) % 2 = 1)).toNat = (ca + x) % 2 := by
    by_cases h9 : (ca + x) % 2 = 1
    · rw [decide_eq_true h9, h9]; rfl
    · rw [decide_eq_false h9]
      show 0 = _
      omega
  rw [e0]
  have e1 : 2 ^ k * ((ca + x) % 2 + 2 * ((ca + x) / 2)) = 2 ^ k * (ca + x) := by congr 1; omega
  have e2 : 2 ^ k * ((ca + x) % 2 + 2 * ((ca + x) / 2)) = 2 ^ k * ((ca + x) % 2) + 2 ^ k * 2 * ((ca + x) / 2) := by rw [Nat.mul_add, Nat.mul_assoc]
  have e3 : 2 ^ k * (ca + x) = 2 ^ k * ca + 2 ^ k * x := Nat.mul_add _ _ _
  omega
end M

set_option maxHeartbeats 4000000 in
theorem mulB_any (A : Option Addr) (n c : Nat) (es : List Bool) (B : Option Addr) (m d : Nat) (bs : List Bool) (w : World) (h : RdB w A n c es) (k : RdB w B m d bs) (hn : n ≤ 500000) (hm : m ≤ 500000) :
    Calls Try.prog 95 #[.slice A n c, .slice B m d] w (GivesBits w (M.bval es * M.bval bs)) := by
  have H := Lib.hid h
  have K := Lib.hid k
  clear h k
  go_enter Try.func95, Try.ntmps95
  go_wp2_with (at_make; refine make_full kInt _ rfl _ _ rfl .i64 .i64 _ _ (n + m) rfl rfl (by omega) (by omega) (by omega) (Nat.zero_le _) ?_; intro w1 ho1 hb1; have HO1 := Lib.hid ho1; have HB1 := Lib.hid hb1; clear ho1 hb1)
  go_loopg [6] n (fun g i wr => ∃ (k : Nat) (ns : List Nat), k ≤ n ∧ g = n - k ∧ i = .int .i64 (k : Int) ∧ M.CnR es bs k 0 ns ∧ OwK kInt wr w.heap.size (some ⟨w.heap.size, 0, none⟩) (n + m) (n + m) ns ∧ Below w.heap.size w wr)
  case atStart =>
    refine ⟨0, _, by omega, rfl, rfl, M.CnR.start es bs, ?_, HB1.out⟩
    rw [H.out.len, K.out.len]
    exact HO1.out
  case round =>
    obtain ⟨i, ns, hi, hg, rfl, hc, ho, hb⟩ := hrel
    have HG := Lib.hid hg
    have HC := Lib.hid hc
    have HO := Lib.hid ho
    have HB := Lib.hid hb
    clear hg hc ho hb HO1 HB1
    by_cases hin : i < n
    · obtain ⟨b, o, x, hA, hx, hcell⟩ := (H.out.below HB.out).atB hin
      subst hA
      have HX := Lib.hid hx
      clear hx
      have HCE := Lib.hid (show ∀ w9, Below w.heap.size w w9 → w9.cell? ⟨b, o + i, none⟩ = some (.bool x) by
        intro w9 hb9
        obtain ⟨b9, o9, x9, hA9, hx9, hc9⟩ := (H.out.below hb9).atB hin
        injection hA9 with hA9
        injection hA9 with hA9 hA9'
        subst hA9 hA9'
        have := HX.out
        rw [hx9] at this
        injection this with this
        subst this
        exact hc9)
      clear hcell
      go_wp2
      go_loopg [7] m (fun g v wr => ∃ (k : Nat) (ns : List Nat), k ≤ m ∧ (x = false → k = 0) ∧ g = m - k ∧ v = .int .i64 (k : Int) ∧ M.CnR es bs i k ns ∧ OwK kInt wr w.heap.size (some ⟨w.heap.size, 0, none⟩) (n + m) (n + m) ns ∧ Below w.heap.size w wr)
      case atStart => exact ⟨0, ns, by omega, fun _ => rfl, rfl, rfl, HC.out, HO.out, HB.out⟩
      case round =>
        obtain ⟨k, ns2, hk, hx0, hg2, rfl, hc2, ho2, hb2⟩ := hrel
        have hcell := HCE.out wr hb2
        have HX0 := Lib.hid hx0
        have HG2 := Lib.hid hg2
        have HC2 := Lib.hid hc2
        have HO2 := Lib.hid ho2
        have HB2 := Lib.hid hb2
        clear hx0 hg2 hc2 ho2 hb2 HC HO HB
        cases x with
        | false =>
          have hk0 := HX0.out rfl
          subst hk0
          have HN := Lib.hid (HC2.out.skip HX.out)
          go_wp2
          go_roundg (n - (i + 1))
          case measure => have := HG.out; omega
          case rel => exact ⟨i + 1, ns2, by omega, rfl, by go_num, HN.out, HO2.out, HB2.out⟩
        | true =>
          by_cases hkm : k < m
          · obtain ⟨b', o', y, hB, hy, hcy⟩ := (K.out.below HB2.out).atB hkm
            subst hB
            have HY := Lib.hid hy
            clear hy
            cases y with
            | false =>
              have HN := Lib.hid (HC2.out.no HY.out)
              go_wp2
              go_roundg (m - (k + 1))
              case measure => have := HG2.out; omega
              case rel => exact ⟨k + 1, ns2, by omega, (fun h9 => by cases h9), rfl, by go_num, HN.out, HO2.out, HB2.out⟩
            | true =>
              obtain ⟨t, ht⟩ : ∃ t, ns2[i + k]? = some t := ⟨ns2[i + k]'(by rw [HO2.out.len]; omega), List.getElem?_eq_getElem _⟩
              have htl := HC2.out.lo _ _ ht
              have c1 := HO2.out.cellAt ht
              have f1 := HO2.out.frozenAt (i + k)
              simp only [kInt] at c1
              have HN := Lib.hid (HC2.out.yes HY.out ht)
              obtain ⟨ho3, hg3⟩ := HO2.out.set_ (i + k) (t + 1) (show t + 1 ≤ 2000000 by omega)
              have HO3 := Lib.hid ho3
              have HB3 := Lib.hid (HB2.out.setCell (p := ⟨w.heap.size, i + k, none⟩) (Nat.le_refl _) (.int .i64 ((t + 1 : Nat) : Int)))
              clear ht ho3 hg3
              go_wp2
              go_roundg (m - (k + 1))
              case measure => have := HG2.out; omega
              case rel => exact ⟨k + 1, _, by omega, (fun h9 => by cases h9), rfl, by go_num, HN.out, HO3.out, HB3.out⟩
          · obtain rfl : k = m := by omega
            have hcn := HC2.out
            rw [← K.out.len] at hcn
            have HN := Lib.hid (hcn.next HX.out)
            clear hcn
            go_wp2
            go_roundg (n - (i + 1))
            case measure => have := HG.out; omega
            case rel => exact ⟨i + 1, ns2, by omega, rfl, by go_num, HN.out, HO2.out, HB2.out⟩
    · obtain rfl : i = n := by omega
      have heq := HC.out.eq
      rw [List.take_of_length_le (by rw [H.out.len]; exact Nat.le_refl _)] at heq
      simp only [List.take_zero, M.bval, Nat.mul_zero, Nat.add_zero] at heq
      have HE := Lib.hid heq
      clear heq
      go_wp2
      go_loopw [8, 9, 10] (fun v q j wr => ∃ (k p cp ca : Nat) (D : Option Addr) (zs : List Bool), k ≤ i + m ∧ j = .int .i64 (k : Int) ∧ q = .int .i64 (ca : Int) ∧ ca ≤ 1000001 ∧ v = .slice D p cp ∧ OwB wr (w.heap.size + 1) D p cp zs ∧ zs.length = k ∧ M.bval zs + 2 ^ k * ca = M.cval (ns.take k) ∧ OwK kInt wr w.heap.size (some ⟨w.heap.size, 0, none⟩) (i + m) (i + m) ns ∧ Below w.heap.size w wr ∧ w.heap.size + 1 ≤ wr.heap.size) (fun _ _ j _ => i + m - (intOf j).toNat)
      case atStart => exact ⟨0, 0, 0, 0, none, [], by omega, rfl, rfl, by omega, rfl, OwK.nil_ _ _, rfl, rfl, HO.out, HB.out, (HO.out.lt rfl).2⟩
      case round =>
        obtain ⟨k, p, cp, ca, D, zs, hk, rfl, rfl, hca, rfl, ho3, hl3, hv3, ho4, hb4, hsz⟩ := hrel
        have hpk : p ≤ 1000000 := by have := ho3.len; omega
        have HO3 := Lib.hid ho3
        have HL3 := Lib.hid hl3
        have HV3 := Lib.hid hv3
        have HO4 := Lib.hid ho4
        have HB4 := Lib.hid hb4
        clear ho3 hl3 hv3 ho4 hb4
        by_cases hkn : k < i + m
        · obtain ⟨t, ht⟩ : ∃ t, ns[k]? = some t := ⟨ns[k]'(by rw [HO4.out.len]; exact hkn), List.getElem?_eq_getElem _⟩
          have htl := HC.out.lo _ _ ht
          have c1 := HO4.out.cellAt ht
          simp only [kInt] at c1
          obtain ⟨bt, hbt⟩ : ∃ bt : Bool, bt = decide ((ca + t) % 2 = 1) := ⟨_, rfl⟩
          obtain ⟨ca2, hca2⟩ : ∃ ca2, ca2 = (ca + t) / 2 := ⟨_, rfl⟩
          have hst := M.carry_step (x := t) HL3.out HV3.out
          rw [← M.cval_take ht, ← hbt, ← hca2] at hst
          have HST := Lib.hid hst
          have h2l : ca2 ≤ 1000001 := by omega
          have e1 : (((ca : Int) + (t : Int)).tmod 2 == 1) = bt := by
            rw [Int.tmod_eq_emod_of_nonneg (by omega), hbt, Bool.eq_iff_iff]
            simp
            omega
          have e4 : (((ca : Int) + (t : Int)) % 2 == 1) = bt := by
            rw [hbt, Bool.eq_iff_iff]
            simp
            omega
          have e2 : ((ca : Int) + (t : Int)).tdiv 2 = (ca2 : Int) := by rw [Int.tdiv_eq_ediv_of_nonneg (by omega), hca2]; omega
          have e3 : ((ca : Int) + (t : Int)) / 2 = (ca2 : Int) := by rw [hca2]; omega
          clear hst ht hbt hca2
          go_wp2_with (at_builtin; refine app_own kBool _ rfl _ _ rfl (w.heap.size + 1) D p cp zs rfl (HO3.out.alloc _) _ 1 1 [bt] rfl (RdK.one (K := kBool) _ bt trivial) (by omega) (by simp; omega) ?_; intro A5 c5 w5 ho5 hg5; have HO5 := Lib.hid ho5; have HG5 := Lib.hid hg5; clear ho5 hg5)
          go_roundw
          case rel =>
            have hlt5 : ∀ k9, (Value.slice D p cp).ownBlock = some k9 → w.heap.size + 1 ≤ k9 := fun k9 h9 => (HO3.out.row.lt k9 h9).1
            have hs5 := HG5.out.size
            simp only [World.size_alloc] at hs5
            refine ⟨k + 1, p + 1, c5, ca2, A5, zs ++ [bt], by omega, by go_num, by go_num, h2l, rfl, HO5.out, by simp [HL3.out], HST.out, ?_, ?_, by omega⟩
            · exact (HO4.out.alloc _).grown HG5.out (fun q hq e => by cases hq; have := hlt5 _ e.symm; dsimp only at this; omega)
            · exact (HB4.out.alloc HB4.out.size _).grown HG5.out (by simp; have := HB4.out.size; omega) (fun k9 h9 => by have := hlt5 k9 h9; omega)
          case measure => simp [intOf]; omega
        · obtain rfl : k = i + m := by omega
          have hv := HV3.out
          rw [List.take_of_length_le (by rw [HO4.out.len]; exact Nat.le_refl _), HE.out] at hv
          have h1 := M.bval_lt es
          have h2 := M.bval_lt bs
          rw [H.out.len] at h1
          rw [K.out.len] at h2
          have h3 : M.bval es * M.bval bs < 2 ^ i * 2 ^ m := Nat.mul_lt_mul'' h1 h2
          rw [← Nat.pow_add] at h3
          have hca0 : ca = 0 := by
            refine Nat.eq_zero_of_not_pos fun h9 => ?_
            have : 2 ^ (i + m) * 1 ≤ 2 ^ (i + m) * ca := Nat.mul_le_mul_left _ h9
            omega
          have HF := Lib.hid (show M.bval zs = M.bval es * M.bval bs by rw [hca0, Nat.mul_zero, Nat.add_zero] at hv; exact hv)
          clear hv h1 h2 h3 hca0
          go_wp2_with fail
          refine (trimB_any _ _ _ _ _ HO3.out.rd (by omega)).mono ?_
          rintro e w' ⟨rfl, rfl⟩
          go_wp2_with fail
          go_ret
          exact ⟨D, _, cp, M.trB zs, rfl, (HO3.out.shortB).mono (by omega), M.trB_trB _, by rw [M.bval_trB]; exact HF.out, HB4.out⟩

end Go.Proofs.Ythjgonfohjgfaaa
