/- litmusref01.div and Gcd: long division of rows of bits. -/
import Derived.Test.YtbcceopgmkmbfaaWLess
import Derived.Test.YtbcceopgmkmbfaaWWorks
namespace Go.Proofs.Ytbcceopgmkmbfaa
open Go.RowKit
set_option linter.unusedVariables false

namespace M
structure DbR (es : List Bool) (V n j : Nat) (qs rs : List Bool) : Prop where
  ql : qs.length = n - j
  tr : trB rs = rs
  lt : bval rs < V
  eq : bval (es.drop j) = bval qs * V + bval rs
theorem DbR.less {es qs rs r1 : List Bool} {V n i : Nat} {x : Bool} (h : DbR es V n (i + 1) qs rs) (hi : i < n) (hx : es[i]? = some x) (ht : trB r1 = r1) (hv : bval r1 = x.toNat + 2 * bval rs) (hl : bval r1 < V) : DbR es V n i (false :: qs) r1 := by
  refine ⟨by rw [List.length_cons, h.ql]; omega, ht, hl, ?_⟩
  rw [drop_pred hx, bval_cons, h.eq, bval_cons, hv, Nat.mul_add]
  have : (false.toNat + 2 * bval qs) * V = 2 * (bval qs * V) := by simp [Nat.mul_assoc]
  omega
theorem DbR.more {es qs rs r1 r2 : List Bool} {V n i : Nat} {x : Bool} (h : DbR es V n (i + 1) qs rs) (hi : i < n) (hx : es[i]? = some x) (ht : trB r2 = r2) (hv : bval r1 = x.toNat + 2 * bval rs) (hl : ¬ bval r1 < V) (hv2 : bval r2 = bval r1 - V) : DbR es V n i (true :: qs) r2 := by
  have hb := Bool.toNat_lt x
  have hlt := h.lt
  refine ⟨by rw [List.length_cons, h.ql]; omega, ht, by omega, ?_⟩
  rw [drop_pred hx, bval_cons, h.eq, bval_cons, hv2, hv, Nat.mul_add]
  have : (true.toNat + 2 * bval qs) * V = V + 2 * (bval qs * V) := by simp [Nat.add_mul, Nat.mul_assoc]
  omega
end M

theorem set_repB (j : Nat) (qs : List Bool) (q : Bool) : (List.replicate (j + 1) false ++ qs).set j q = List.replicate j false ++ q :: qs := by
  rw [List.replicate_succ', List.append_assoc, List.set_append, if_neg (by simp)]
  simp

def GivesDiv (w : World) (x y : Nat) (e : Ending) (w' : World) : Prop :=
  ∃ A n c qs B m d rs, e = .returned (.tuple #[.slice A n c, .slice B m d]) ∧ RdB w' A n c qs ∧ M.trB qs = qs ∧ M.bval qs = x ∧ RdB w' B m d rs ∧ M.trB rs = rs ∧ M.bval rs = y ∧ Below w.heap.size w w'

/-- The loop's state in the world. -/
structure DB (w wr : World) (n : Nat) (es : List Bool) (V j : Nat) (R : Option Addr) (p cp : Nat) (qs rs : List Bool) : Prop where
  math : M.DbR es V n j qs rs
  rd : RdB wr R p cp rs
  apart : ∀ q, R = some q → w.heap.size < q.block
  own : OwB wr w.heap.size (some ⟨w.heap.size, 0, none⟩) n n (List.replicate j false ++ qs)
  below : Below w.heap.size w wr

set_option maxHeartbeats 4000000 in
theorem divB_any (A : Option Addr) (n c : Nat) (es : List Bool) (B : Option Addr) (m d : Nat) (bs : List Bool) (w : World) (h : RdB w A n c es) (k : RdB w B m d bs) (hn : n ≤ 1000000) (hm : m ≤ 900000) (ht : M.trB bs = bs) (hV : 0 < M.bval bs) :
    Calls Try.prog 49 #[.slice A n c, .slice B m d] w (GivesDiv w (M.bval es / M.bval bs) (M.bval es % M.bval bs)) := by
  obtain ⟨V, hVe⟩ : ∃ V, V = M.bval bs := ⟨_, rfl⟩
  rw [← hVe] at hV ⊢
  have H := Lib.hid h
  have K := Lib.hid k
  have HT := Lib.hid ht
  have HV := Lib.hid hVe
  have HVP := Lib.hid hV
  clear h k ht hVe hV
  go_enter Try.func49, Try.ntmps49
  go_wp2_with (at_make; refine make_full kBool _ rfl _ _ rfl .i64 .i64 _ _ n rfl rfl (by omega) (by omega) (by omega) trivial ?_; intro w1 ho1 hb1; have HO1 := Lib.hid ho1; have HB1 := Lib.hid hb1; clear ho1 hb1)
  go_loopw [7, 8] (fun v i wr => ∃ (j p cp : Nat) (R : Option Addr) (qs rs : List Bool), j ≤ n ∧ i = .int .i64 ((j : Int) - 1) ∧ v = .slice R p cp ∧ DB w wr n es V j R p cp qs rs) (fun _ i _ => (intOf i + 1).toNat)
  case atStart =>
    refine ⟨n, 0, 0, none, [], [], Nat.le_refl _, rfl, rfl, ⟨⟨by simp, rfl, HVP.out, ?_⟩, RdK.empty _ _ _ (fun _ => rfl), (fun _ h => by cases h), ?_, HB1.out⟩⟩
    · rw [List.drop_of_length_le (by rw [H.out.len]; exact Nat.le_refl _)]
      simp [M.bval]
    · rw [List.append_nil]
      exact HO1.out
  case round =>
    obtain ⟨j, p, cp, R, qs, rs, hj, rfl, rfl, hdb⟩ := hrel
    have HD := Lib.hid hdb
    clear hdb
    have hpm : p ≤ m := by
      have h1 := M.bval_len HD.out.math.tr (k := m) (Nat.lt_trans HD.out.math.lt (by rw [HV.out, ← K.out.len]; exact M.bval_lt bs))
      rw [HD.out.rd.len] at h1
      exact h1
    by_cases h0 : j = 0
    · subst h0
      have hfin := HD.out.math.eq
      rw [List.drop_zero] at hfin
      have hq : M.bval qs = M.bval es / V ∧ M.bval rs = M.bval es % V := by
        have hlt := HD.out.math.lt
        rw [hfin]
        constructor
        · rw [Nat.add_comm, Nat.mul_comm, Nat.add_mul_div_left _ _ HVP.out, Nat.div_eq_of_lt hlt, Nat.zero_add]
        · rw [Nat.add_comm, Nat.mul_comm, Nat.add_mul_mod_self_left, Nat.mod_eq_of_lt hlt]
      have ho := HD.out.own
      rw [List.replicate_zero, List.nil_append] at ho
      have HO := Lib.hid ho
      have HQ := Lib.hid hq
      clear ho hq hfin
      go_wp2_with fail
      refine (trimB_any _ _ _ _ _ HO.out.rd (by omega)).mono ?_
      rintro e w' ⟨rfl, rfl⟩
      go_wp2_with fail
      go_ret2
      exact ⟨_, _, _, M.trB qs, R, p, cp, rs, rfl, HO.out.rd.shortB, M.trB_trB _, by rw [M.bval_trB]; exact HQ.out.1, HD.out.rd, HD.out.math.tr, HQ.out.2, HD.out.below⟩
    · obtain ⟨i, rfl⟩ : ∃ i, j = i + 1 := ⟨j - 1, by omega⟩
      have hji : ((i + 1 : Nat) : Int) - 1 = (i : Int) := by omega
      obtain ⟨b, o, x, hA, hx, hcell⟩ := (H.out.below HD.out.below).atB (show i < n by omega)
      subst hA
      have HX := Lib.hid hx
      have hown : OwB (wr.alloc (.cells #[.bool x] 4)) wr.heap.size (some ⟨wr.heap.size, 0, none⟩) 1 1 [x] := ⟨World.ownsRow_lit wr #[.bool x] 1 (Nat.le_refl _) (by unfold maxLen; omega) rfl, fun _ _ => trivial⟩
      have HW := Lib.hid hown
      clear hx hown
      go_wp2_with (at_builtin; refine app_own kBool _ rfl _ _ rfl wr.heap.size _ 1 1 [x] rfl HW.out R p cp rs rfl (HD.out.rd.alloc _) (by omega) (by simp) ?_; intro A3 c3 w3 ho3 hg3; have HO3 := Lib.hid ho3; have HB3 := Lib.hid (((Below.refl wr.heap.size wr).alloc (Nat.le_refl _) (.cells #[.bool x] 4)).grown hg3 (by simp) (fun k hk => by cases hk; exact Nat.le_refl _)); clear ho3 hg3)
      have hgq : w.heap.size < wr.heap.size := (HD.out.own.lt rfl).2
      obtain ⟨r1, hr1⟩ : ∃ r1, r1 = M.trB ([x] ++ rs) := ⟨_, rfl⟩
      obtain ⟨n1, hn1⟩ : ∃ n1, n1 = r1.length := ⟨_, rfl⟩
      have ht1 : M.trB r1 = r1 := by rw [hr1, M.trB_trB]
      have hv1 : M.bval r1 = x.toNat + 2 * M.bval rs := by rw [hr1, M.bval_trB]; rfl
      have hn1l : n1 ≤ 1 + m := by
        have h1 := M.trB_length_le ([x] ++ rs)
        rw [← hr1, List.length_append, HD.out.rd.len] at h1
        simp at h1
        omega
      have ho4 := HO3.out.shortB
      rw [← hr1, ← hn1] at ho4
      have HR1 := Lib.hid hr1
      have HN1 := Lib.hid hn1
      have HT1 := Lib.hid ht1
      have HV1 := Lib.hid hv1
      have HO4 := Lib.hid ho4
      clear hr1 hn1 ht1 hv1 ho4 hcell
      refine (trimB_any _ _ _ _ _ HO3.out.rd (by omega)).mono ?_
      rw [← HR1.out, ← HN1.out]
      rintro e w' ⟨rfl, rfl⟩
      go_wp2_with fail
      have hKB := Lib.hid ((K.out.below HD.out.below).below HB3.out)
      refine (less_any _ _ _ _ _ _ _ _ _ HO4.out.rd hKB.out (by omega) (by omega)).mono ?_
      rw [← HV.out]
      rintro e w5 ⟨rfl, hb5⟩
      have hb35 := bl_trans HB3.out hb5
      have HO5 := Lib.hid (HO4.out.below hb5)
      have HK5 := Lib.hid (hKB.out.below hb5)
      have HQ5 := Lib.hid (HD.out.own.below hb35)
      have HB5 := Lib.hid hb35
      clear hb5 hb35 HO4 hKB HO3 HB3 HW
      by_cases hlt : M.bval r1 < V
      · have hdl : decide (M.bval r1 < V) = true := decide_eq_true hlt
        have HST := Lib.hid (HD.out.math.less (by omega) HX.out HT1.out HV1.out hlt)
        rw [hdl]
        clear hdl hlt
        go_wp2
        go_roundw
        case rel =>
          refine ⟨i, n1, c3, A3, false :: qs, r1, by omega, by go_num, rfl, ⟨HST.out, HO5.out.rd, fun q hq => by have := (HO5.out.lt hq).1; omega, ?_, ?_⟩⟩
          · have := HQ5.out
            rw [List.replicate_succ', List.append_assoc] at this
            exact this
          · exact HD.out.below.trans (HB5.out.mono HD.out.below.size)
        case measure => simp [intOf]
      · have hdl : decide (M.bval r1 < V) = false := decide_eq_false hlt
        have HLT := Lib.hid hlt
        rw [hdl]
        clear hdl hlt
        go_wp2_with fail
        refine (subB_any _ _ _ _ _ _ _ _ _ HO5.out.rd HK5.out (by omega) ?_ (by rw [← HV.out]; have := HLT.out; omega)).mono ?_
        · refine Nat.le_of_not_lt fun hc => ?_
          have h9 := M.bval_lt_of_len (xs := r1) (ys := bs) HT.out (by rw [← HN1.out, K.out.len]; exact hc)
          rw [← HV.out] at h9
          exact HLT.out h9
        rw [← HV.out]
        rintro e w6 ⟨A6, n6, c6, r6, rfl, o6, t6, v6, b6⟩
        have HST := Lib.hid (HD.out.math.more (by omega) HX.out t6 HV1.out HLT.out v6)
        have hQ6 := HQ5.out.below b6
        have hcq := hQ6.cellAt (j := i) (x := false) (by rw [List.getElem?_append_left (by simp), List.getElem?_replicate, if_pos (by omega)])
        have hfq := hQ6.frozenAt i
        simp only [kBool] at hcq
        obtain ⟨q1, q2⟩ := hQ6.set_ i true trivial
        rw [set_repB] at q1
        have hap : ∀ q, A6 = some q → w.heap.size < q.block := fun q hq => by have := (o6.lt hq).1; have := HB5.out.size; omega
        have hrd := o6.rd.grown q2 (fun q hq _ e => by have := hap q hq; injection e with e; omega)
        have hbb := (HD.out.below.trans (HB5.out.mono HD.out.below.size)).trans (b6.mono (by have := HB5.out.size; omega))
        have HQ7 := Lib.hid q1
        have HRD := Lib.hid hrd
        have HAP := Lib.hid hap
        have HBB := Lib.hid (hbb.setCell (p := ⟨w.heap.size, i, none⟩) (Nat.le_refl _) (.bool true))
        clear q1 q2 hrd hap hbb hQ6 o6 t6 v6 b6
        have hin : i < n := by omega
        go_wp2
        go_roundw
        case rel => exact ⟨i, n6, c6, A6, true :: qs, r6, by omega, by go_num, rfl, ⟨HST.out, HRD.out, HAP.out, HQ7.out, HBB.out⟩⟩
        case measure => simp [intOf]

/-- The loop of Gcd. -/
def GcB (w : World) (G k : Nat) (p q : Value) (wr : World) : Prop :=
  ∃ A n c xs B m d ys, p = .slice A n c ∧ q = .slice B m d ∧ RdB wr A n c xs ∧ RdB wr B m d ys ∧ M.trB ys = ys ∧ M.bval ys = k ∧ Nat.gcd (M.bval xs) k = G ∧ n ≤ 1000000 ∧ m ≤ 900000 ∧ Below w.heap.size w wr

set_option maxHeartbeats 2000000 in
theorem gcdB_any (A : Option Addr) (n c : Nat) (xs : List Nat) (B : Option Addr) (m d : Nat) (ys : List Nat) (w : World) (h : Rd w A n c xs) (k : Rd w B m d ys) (hn : n ≤ 1000) (hm : m ≤ 1000) :
    Calls Try.prog 32 #[.slice A n c, .slice B m d] w (Gives w (M.lims (Nat.gcd (M.val xs) (M.val ys)))) := by
  have hx := M.val_lt h.Lim
  have hy := M.val_lt k.Lim
  rw [h.len] at hx
  rw [k.len] at hy
  have h2 : ∀ j, M.R ^ j = 2 ^ (32 * j) := fun j => by rw [Nat.pow_mul]; rfl
  rw [h2] at hx hy
  obtain ⟨G, hG⟩ : ∃ G, G = Nat.gcd (M.val xs) (M.val ys) := ⟨_, rfl⟩
  rw [← hG]
  have H := Lib.hid h
  have K := Lib.hid k
  have HG := Lib.hid hG
  have HX := Lib.hid hx
  have HY := Lib.hid hy
  clear h k hG h2 hx hy
  go_enter Try.func32, Try.ntmps32
  go_wp2_with fail
  refine (bits_any _ _ _ _ _ H.out (by omega)).mono ?_
  rintro e w1 ⟨A1, n1, c1, as1, rfl, o1, t1, v1, b1⟩
  have hl1 := M.bval_len t1 (by rw [v1]; exact HX.out)
  rw [o1.len] at hl1
  have HO1 := Lib.hid o1
  have HV1 := Lib.hid v1
  have HB1 := Lib.hid b1
  clear o1 t1 v1 b1
  go_wp2_with fail
  refine (bits_any _ _ _ _ _ (K.out.below HB1.out) (by omega)).mono ?_
  rintro e w2 ⟨A2, n2, c2, as2, rfl, o2, t2, v2, b2⟩
  have hl2 := M.bval_len t2 (by rw [v2]; exact HY.out)
  rw [o2.len] at hl2
  have HR := Lib.hid (show GcB w G (M.val ys) (.slice A1 n1 c1) (.slice A2 n2 c2) w2 from
    ⟨A1, n1, c1, as1, A2, n2, c2, as2, rfl, rfl, HO1.out.rd.below b2, o2.rd, t2, v2, by rw [HV1.out]; exact HG.out.symm, by omega, by omega, bl_trans HB1.out b2⟩)
  clear o2 t2 v2 b2 HO1 HV1 HB1 H K HX HY HG hl1 hl2
  go_wp2_with fail
  go_loopg [5, 6] (M.val ys) (fun k p q wr => GcB w G k p q wr)
  case atStart => exact HR.out
  case round =>
    obtain ⟨A3, n3, c3, x3, B3, m3, d3, y3, rfl, rfl, r1, r2, t3, v3, hg, hn3, hm3, hb⟩ := hrel
    have HR1 := Lib.hid r1
    have HR2 := Lib.hid r2
    have HT := Lib.hid t3
    have HV := Lib.hid v3
    have HG := Lib.hid hg
    have HB := Lib.hid hb
    clear r1 r2 t3 v3 hg hb HR
    by_cases h0 : m3 = 0
    · have hk0 : gk = 0 := by
        rw [← HV.out]
        exact (M.bval_zero HT.out).1 (by rw [HR2.out.len]; exact h0)
      have HE := Lib.hid (show M.bval x3 = G by rw [← HG.out, hk0, Nat.gcd_zero_right])
      clear hk0
      subst h0
      go_wp2_with fail
      refine (limbs_any _ _ _ _ _ HR1.out hn3).mono ?_
      rw [HE.out]
      rintro e w4 ⟨A4, c4, rfl, o4, b4⟩
      go_wp2_with fail
      go_ret
      exact ⟨A4, c4, rfl, o4.mono HB.out.size, bl_trans HB.out b4⟩
    · have hkp : 0 < M.bval y3 := by
        refine Nat.pos_of_ne_zero fun hc => h0 ?_
        rw [← HR2.out.len]
        exact (M.bval_zero HT.out).2 hc
      have hpos : 0 < m3 := by omega
      have HKP := Lib.hid hkp
      clear hkp
      go_wp2_with fail
      refine (divB_any _ _ _ _ _ _ _ _ _ HR1.out HR2.out hn3 hm3 HT.out HKP.out).mono ?_
      rintro e w4 ⟨A4, n4, c4, q4, B4, m4, d4, r4, rfl, s1, s2, s3, s4, s5, s6, b4⟩
      have hmod : M.bval x3 % M.bval y3 < gk := by rw [← HV.out]; exact Nat.mod_lt _ HKP.out
      have hm4 : m4 ≤ 900000 := by
        have h1 := M.bval_len s5 (k := m3) (by rw [s6]; exact Nat.lt_trans (Nat.mod_lt _ HKP.out) (by rw [← HR2.out.len]; exact M.bval_lt y3))
        rw [s4.len] at h1
        omega
      have HR := Lib.hid (show GcB w G (M.bval x3 % M.bval y3) (.slice B3 m3 d3) (.slice B4 m4 d4) w4 from
        ⟨B3, m3, d3, y3, B4, m4, d4, r4, rfl, rfl, HR2.out.below b4, s4, s5, s6, by rw [← HG.out, ← HV.out, Nat.gcd_comm (M.bval y3), ← Nat.gcd_rec (M.bval y3), Nat.gcd_comm], by omega, hm4, bl_trans HB.out b4⟩)
      clear s1 s2 s3 s4 s5 s6 b4 hm4
      go_wp2_with fail
      go_roundg (M.bval x3 % M.bval y3)
      case measure => exact hmod
      case rel => exact HR.out

end Go.Proofs.Ytbcceopgmkmbfaa
