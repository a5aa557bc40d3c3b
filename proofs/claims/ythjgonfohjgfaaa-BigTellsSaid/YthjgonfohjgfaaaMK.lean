/- litmusref01.less and sub: rows of bits are compared, and taken away. -/
import Derived.Test.YthjgonfohjgfaaaMJ
import Derived.Test.YthjgonfohjgfaaaMF
import Derived.Test.YthjgonfohjgfaaaMI
namespace Go.Proofs.Ythjgonfohjgfaaa
open Go.RowKit
set_option linter.unusedVariables false

namespace M
theorem bval_cut (xs : List Bool) (k : Nat) (h : k ≤ xs.length) : bval xs = bval (xs.take k) + 2 ^ k * bval (xs.drop k) := by
  have := bval_append (xs.take k) (xs.drop k)
  rw [List.take_append_drop, List.length_take, Nat.min_eq_left h] at this
  exact this
/-- The highest place where two rows differ tells. -/
theorem bval_differ {es bs : List Bool} {n k : Nat} {x y : Bool} (ha : es.length = n) (hb : bs.length = n) (hd : es.drop (k + 1) = bs.drop (k + 1)) (hx : es[k]? = some x) (hy : bs[k]? = some y) (hne : x ≠ y) : decide (bval es < bval bs) = y := by
  have hk : k < n := by rw [← ha]; exact (List.getElem?_eq_some_iff.1 hx).1
  have e1 := bval_cut es k (by omega)
  have e2 := bval_cut bs k (by omega)
  rw [drop_pred hx, bval_cons] at e1
  rw [drop_pred hy, bval_cons, ← hd] at e2
  have h1 := bval_lt (es.take k)
  have h2 := bval_lt (bs.take k)
  rw [List.length_take, ha, Nat.min_eq_left (by omega)] at h1
  rw [List.length_take, hb, Nat.min_eq_left (by omega)] at h2
  rw [Nat.mul_add] at e1 e2
  cases x <;> cases y
  · exact absurd rfl hne
  · rw [decide_eq_true]
    simp at e1 e2
    omega
  · rw [decide_eq_false]
    simp at e1 e2
    omega
  · exact absurd rfl hne
end M

theorem OwK.drewNB {w : World} {base : Nat} {A : Option Addr} {n c : Nat} {xs : List Bool} (h : OwB w base A n c xs) (k : Nat) : OwB (w.drewN k) base A n c xs := ⟨⟨h.row.1, h.row.2⟩, h.lim⟩

set_option maxHeartbeats 2000000 in
theorem less_any (A : Option Addr) (n c : Nat) (es : List Bool) (B : Option Addr) (m d : Nat) (bs : List Bool) (w : World) (h : RdB w A n c es) (k : RdB w B m d bs) (hn : n ≤ 1000000) (hm : m ≤ 1000000) :
    Calls Try.prog 93 #[.slice A n c, .slice B m d] w fun e w' => e = .returned (.bool (decide (M.bval es < M.bval bs))) ∧ Below w.heap.size w w' := by
  have hl := M.trB_length_le es
  have kl := M.trB_length_le bs
  rw [h.len] at hl
  rw [k.len] at kl
  have hs := h.shortB
  have ks := k.shortB
  rw [← M.bval_trB es, ← M.bval_trB bs]
  have ht := M.trB_trB es
  have kt := M.trB_trB bs
  have H := Lib.hid h
  have K := Lib.hid k
  clear h k
  obtain ⟨ta, hta⟩ : ∃ ta, ta = M.trB es := ⟨_, rfl⟩
  obtain ⟨tb, htb⟩ : ∃ tb, tb = M.trB bs := ⟨_, rfl⟩
  rw [← hta] at hs ht hl ⊢
  rw [← htb] at ks kt kl ⊢
  obtain ⟨na, hna⟩ : ∃ na, na = ta.length := ⟨_, rfl⟩
  obtain ⟨nb, hnb⟩ : ∃ nb, nb = tb.length := ⟨_, rfl⟩
  rw [← hna] at hs hl
  rw [← hnb] at ks kl
  have HTA := Lib.hid hta
  have HTB := Lib.hid htb
  have HNA := Lib.hid hna
  have HNB := Lib.hid hnb
  have HS := Lib.hid hs
  have KS := Lib.hid ks
  have HT := Lib.hid ht
  have KT := Lib.hid kt
  clear hta htb hs ks ht kt hna hnb
  obtain ⟨r, hr⟩ : ∃ r, r = decide (M.bval ta < M.bval tb) := ⟨_, rfl⟩
  rw [← hr]
  have HR := Lib.hid hr
  clear hr
  go_enter Try.func93, Try.ntmps93
  go_wp2_with fail
  refine (trimB_any _ _ _ _ _ H.out (by omega)).mono ?_
  rw [← HTA.out, ← HNA.out]
  rintro e w' ⟨rfl, rfl⟩
  go_wp2_with fail
  refine (trimB_any _ _ _ _ _ K.out (by omega)).mono ?_
  rw [← HTB.out, ← HNB.out]
  rintro e w' ⟨rfl, rfl⟩
  clear H K HTA HTB
  by_cases hab : na = nb
  · subst hab
    go_wp2
    go_loopw [5] (fun i wr => ∃ k : Nat, k ≤ na ∧ i = .int .i64 ((k : Int) - 1) ∧ ta.drop k = tb.drop k ∧ Below w.heap.size w wr) (fun i _ => (intOf i + 1).toNat)
    case atStart => exact ⟨na, Nat.le_refl _, rfl, by rw [List.drop_of_length_le (by rw [← HNA.out]; exact Nat.le_refl _), List.drop_of_length_le (by rw [← HNB.out]; exact Nat.le_refl _)], Below.refl _ _⟩
    case round =>
      obtain ⟨k, hk, rfl, hd, hb⟩ := hrel
      have HD := Lib.hid hd
      have HB := Lib.hid hb
      clear hd hb
      by_cases h0 : k = 0
      · subst h0
        have HE := Lib.hid (show false = r by
          rw [HR.out]
          have := HD.out
          rw [List.drop_zero, List.drop_zero] at this
          rw [this]
          simp)
        go_wp2
        go_ret
        exact ⟨ret_bool HE.out, HB.out⟩
      · obtain ⟨i, rfl⟩ : ∃ i, k = i + 1 := ⟨k - 1, by omega⟩
        have hji : ((i + 1 : Nat) : Int) - 1 = (i : Int) := by omega
        obtain ⟨b, o, x, hA, hx, hcell⟩ := (HS.out.below HB.out).atB (show i < na by omega)
        obtain ⟨b', o', y, hB, hy, hcell'⟩ := (KS.out.below HB.out).atB (show i < na by omega)
        subst hA hB
        have HX := Lib.hid hx
        have HY := Lib.hid hy
        clear hx hy
        by_cases hxy : x = y
        · subst hxy
          have HD2 := Lib.hid (show ta.drop i = tb.drop i by rw [M.drop_pred HX.out, M.drop_pred HY.out, HD.out])
          have hsame : (x != x) = false := by simp
          go_wp2
          go_quiet (fail)
          go_wp2
          go_roundw
          case rel => exact ⟨i, by omega, by go_num, HD2.out, below_drewN HB.out _⟩
          case measure => simp [intOf]
        · have HE := Lib.hid (show y = r by rw [HR.out]; exact (M.bval_differ HNA.out.symm HNB.out.symm HD.out HX.out HY.out hxy).symm)
          have hdr : ∀ j, (wr.drewN j).cell? ⟨b', o' + i, none⟩ = some (.bool y) := fun j => hcell'
          cases x <;> cases y
          · exact absurd rfl hxy
          · clear hxy
            go_wp2
            go_quiet (fail)
            go_wp2
            go_ret
            exact ⟨ret_bool HE.out, below_drewN HB.out _⟩
          · clear hxy
            go_wp2
            go_quiet (fail)
            go_wp2
            go_ret
            exact ⟨ret_bool HE.out, below_drewN HB.out _⟩
          · exact absurd rfl hxy
  · by_cases hlt : na < nb
    · have HE := Lib.hid (show true = r by
        rw [HR.out, decide_eq_true]
        exact M.bval_lt_of_len KT.out (by rw [← HNA.out, ← HNB.out]; exact hlt))
      go_wp2
      go_ret
      exact ⟨ret_bool (by rw [← HE.out]), Below.refl _ _⟩
    · have HE := Lib.hid (show false = r by
        rw [HR.out, decide_eq_false]
        have := M.bval_lt_of_len (xs := tb) (ys := ta) HT.out (by rw [← HNA.out, ← HNB.out]; omega)
        omega)
      go_wp2
      go_ret
      exact ⟨ret_bool (by rw [← HE.out]), Below.refl _ _⟩

/-- at in a world that has drawn. -/
theorem atB_q {A : Option Addr} {n c : Nat} {bs : List Bool} {w : World} (i k : Nat) (h : RdB w A n c bs) (hm : n ≤ 4194304) :
    Calls Try.prog 108 #[.slice A n c, .int .i64 (i : Int)] (w.drewN k) fun e w'' => e = .returned (.bool (bitAt bs i)) ∧ ∃ m, w'' = w.drewN m :=
  (atB_any A n c bs i (w.drewN k) ⟨h.len, h.cap, h.nil, h.lim, h.cells⟩ hm).mono fun _ _ ⟨he, hw⟩ => ⟨he, k, hw.symm⟩

theorem bval_take_at (bs : List Bool) (k : Nat) : M.bval (bs.take (k + 1)) = M.bval (bs.take k) + 2 ^ k * (bitAt bs k).toNat := by
  cases h : bs[k]? with
  | none =>
    have hl : bs.length ≤ k := List.getElem?_eq_none_iff.1 h
    rw [List.take_of_length_le (by omega), List.take_of_length_le hl]
    unfold bitAt
    rw [h]
    simp
  | some x =>
    rw [M.bval_take h]
    unfold bitAt
    rw [h]
    rfl

set_option maxHeartbeats 4000000 in
theorem subB_any (A : Option Addr) (n c : Nat) (es : List Bool) (B : Option Addr) (m d : Nat) (bs : List Bool) (w : World) (h : RdB w A n c es) (k : RdB w B m d bs) (hn : n ≤ 1000000) (hm : m ≤ n) (hle : M.bval bs ≤ M.bval es) :
    Calls Try.prog 94 #[.slice A n c, .slice B m d] w (GivesBits w (M.bval es - M.bval bs)) := by
  have H := Lib.hid h
  have K := Lib.hid k
  clear h k
  go_enter Try.func94, Try.ntmps94
  go_wp2
  go_loopw [5, 6, 7] (fun v q i wr => ∃ (k p cp : Nat) (bo : Bool) (D : Option Addr) (zs : List Bool), k ≤ n ∧ i = .int .i64 (k : Int) ∧ q = .bool bo ∧ v = .slice D p cp ∧ OwB wr w.heap.size D p cp zs ∧ zs.length = k ∧ M.bval (es.take k) + 2 ^ k * bo.toNat = M.bval zs + M.bval (bs.take k) ∧ Below w.heap.size w wr) (fun _ _ i _ => n - (intOf i).toNat)
  case atStart => exact ⟨0, 0, 0, false, none, [], by omega, rfl, rfl, rfl, OwK.nil_ _ _, rfl, rfl, Below.refl _ _⟩
  case round =>
    obtain ⟨k, p, cp, bo, D, zs, hk, rfl, rfl, rfl, ho, hl, hv, hb⟩ := hrel
    have hpk : p ≤ 1000000 := by have := ho.len; omega
    have HO := Lib.hid ho
    have HL := Lib.hid hl
    have HV := Lib.hid hv
    have HB := Lib.hid hb
    clear ho hl hv hb
    by_cases hkn : k < n
    · obtain ⟨b, o, x, hA, hx, hcell⟩ := (H.out.below HB.out).atB hkn
      subst hA
      have HX := Lib.hid hx
      clear hx
      have hK := K.out.below HB.out
      have HK := Lib.hid hK
      clear hK
      obtain ⟨y, hy⟩ : ∃ y, y = bitAt bs k := ⟨_, rfl⟩
      have HY := Lib.hid hy
      have hstep : ∀ z bo' : Bool, x.toNat + 2 * bo'.toNat = z.toNat + y.toNat + bo.toNat → M.bval (es.take (k + 1)) + 2 ^ (k + 1) * bo'.toNat = M.bval (zs ++ [z]) + M.bval (bs.take (k + 1)) := by
        intro z bo' hz
        rw [M.bval_take HX.out, bval_take_at, ← HY.out]
        exact M.bsub_step (es := es) (bs := bs) HL.out HV.out hz
      have HST := Lib.hid hstep
      have HQ := Lib.hid (show ∀ j, Calls Try.prog 108 #[.slice B m d, .int .i64 (k : Int)] (wr.drewN j) fun e w'' => e = .returned (.bool y) ∧ ∃ m, w'' = wr.drewN m from fun j => by rw [hy]; exact atB_q k j HK.out (by omega))
      clear hstep hy
      cases x <;> cases y <;> cases bo
      all_goals
        go_wp2
        go_quiet ((go_at_call 108; exact HQ.out _))
        go_wp2_with (at_builtin; refine app_own kBool _ rfl _ _ rfl w.heap.size D p cp zs rfl (HO.out.drewNB _ |>.alloc _) _ 1 1 [_] rfl (RdK.one (K := kBool) _ _ trivial) (by omega) (by have := HB.out.size; simp; omega) ?_; intro A3 c3 w3 ho3 hg3; have HO3 := Lib.hid ho3; have HG3 := Lib.hid hg3; clear ho3 hg3)
        go_roundw
        case rel => exact ⟨k + 1, p + 1, c3, _, A3, _, by omega, by go_num, rfl, rfl, HO3.out, by simp [HL.out], HST.out _ _ rfl, below_app (below_drewN HB.out _) HB.out.size (HO.out.drewNB _) HG3.out⟩
        case measure => simp [intOf]; omega
    · obtain rfl : k = n := by omega
      have hv := HV.out
      rw [List.take_of_length_le (by rw [H.out.len]; exact Nat.le_refl _), List.take_of_length_le (by rw [K.out.len]; exact hm)] at hv
      have hzl := M.bval_lt zs
      rw [HL.out] at hzl
      have hfin : M.bval zs = M.bval es - M.bval bs := by
        cases bo with
        | false => simp at hv; omega
        | true =>
          have := M.bval_lt es
          rw [H.out.len] at this
          simp at hv
          omega
      have HF := Lib.hid hfin
      clear hv hzl hfin
      go_wp2_with fail
      refine (trimB_any _ _ _ _ _ HO.out.rd (by omega)).mono ?_
      rintro e w' ⟨rfl, rfl⟩
      go_wp2_with fail
      go_ret
      exact ⟨D, _, cp, M.trB zs, rfl, HO.out.shortB, M.trB_trB _, by rw [M.bval_trB]; exact HF.out, HB.out⟩

end Go.Proofs.Ythjgonfohjgfaaa

/- litmusref01.div and Gcd: long division of rows of bits. -/
namespace Go.Proofs.Ythjgonfohjgfaaa
open Go.RowKit
set_option linter.unusedVariables false

namespace M
structure DbR (es : List Bool) (V n j : Nat) (qs rs : List Bool) : Prop where
  ql : qs.length = n - j
  tr : trB rs = rs
  lt : bval rs < V
  eq : bval (es.drop j) = bval qs * V + bval rs
theorem DbR.less {es qs rs r1 : List Bool} {V n i : Nat} {x : Bool} (h : DbR es V n (i + 1) qs rs) (hi : i < n) (hx : es[i]? = some x) (ht : trB r1 = r1) (hv : bval r1 = x.toNat + 2 * bval rs) (hl : bval r1 < V) : DbR es V n i (false :: qs) r1 := by
  refine ⟨by rw [List.length_cons, h.ql]; omega, ht, hl, ?_⟩
  rw [drop_pred hx, bval_cons, h.eq, bval_cons, hv, Nat.mul_add]
  have : (false.toNat + 2 * bval qs) * V = 2 * (bval qs * V) := by simp [Nat.mul_assoc]
  omega
theorem DbR.more {es qs rs r1 r2 : List Bool} {V n i : Nat} {x : Bool} (h : DbR es V n (i + 1) qs rs) (hi : i < n) (hx : es[i]? = some x) (ht : trB r2 = r2) (hv : bval r1 = x.toNat + 2 * bval rs) (hl : ¬ bval r1 < V) (hv2 : bval r2 = bval r1 - V) : DbR es V n i (true :: qs) r2 := by
  have hb := Bool.toNat_lt x
  have hlt := h.lt
  refine ⟨by rw [List.length_cons, h.ql]; omega, ht, by omega, ?_⟩
  rw [drop_pred hx, bval_cons, h.eq, bval_cons, hv2, hv, Nat.mul_add]
  have : (true.toNat + 2 * bval qs) * V = V + 2 * (bval qs * V) := by simp [Nat.add_mul, Nat.mul_assoc]
  omega
end M

theorem set_repB (j : Nat) (qs : List Bool) (q : Bool) : (List.replicate (j + 1) false ++ qs).set j q = List.replicate j false ++ q :: qs := by
  rw [List.replicate_succ', List.append_assoc, List.set_append, if_neg (by simp)]
  simp

def GivesDiv (w : World) (x y : Nat) (e : Ending) (w' : World) : Prop :=
  ∃ A n c qs B m d rs, e = .returned (.tuple #[.slice A n c, .slice B m d]) ∧ RdB w' A n c qs ∧ M.trB qs = qs ∧ M.bval qs = x ∧ RdB w' B m d rs ∧ M.trB rs = rs ∧ M.bval rs = y ∧ Below w.heap.size w w'

/-- The loop's state in the world. -/
structure DB (w wr : World) (n : Nat) (es : List Bool) (V j : Nat) (R : Option Addr) (p cp : Nat) (qs rs : List Bool) : Prop where
  math : M.DbR es V n j qs rs
  rd : RdB wr R p cp rs
  apart : ∀ q, R = some q → w.heap.size < q.block
  own : OwB wr w.heap.size (some ⟨w.heap.size, 0, none⟩) n n (List.replicate j false ++ qs)
  below : Below w.heap.size w wr

set_option maxHeartbeats 4000000 in
theorem divB_any (A : Option Addr) (n c : Nat) (es : List Bool) (B : Option Addr) (m d : Nat) (bs : List Bool) (w : World) (h : RdB w A n c es) (k : RdB w B m d bs) (hn : n ≤ 1000000) (hm : m ≤ 900000) (ht : M.trB bs = bs) (hV : 0 < M.bval bs) :
    Calls Try.prog 101 #[.slice A n c, .slice B m d] w (GivesDiv w (M.bval es / M.bval bs) (M.bval es % M.bval bs)) := by
  obtain ⟨V, hVe⟩ : ∃ V, V = M.bval bs := ⟨_, rfl⟩
  rw [← hVe] at hV ⊢
  have H := Lib.hid h
  have K := Lib.hid k
  have HT := Lib.hid ht
  have HV := Lib.hid hVe
  have HVP := Lib.hid hV
  clear h k ht hVe hV
  go_enter Try.func101, Try.ntmps101
  go_wp2_with (at_make; refine make_full kBool _ rfl _ _ rfl .i64 .i64 _ _ n rfl rfl (by omega) (by omega) (by omega) trivial ?_; intro w1 ho1 hb1; have HO1 := Lib.hid ho1; have HB1 := Lib.hid hb1; clear ho1 hb1)
  go_loopw [7, 8] (fun v i wr => ∃ (j p cp : Nat) (R : Option Addr) (qs rs : List Bool), j ≤ n ∧ i = .int .i64 ((j : Int) - 1) ∧ v = .slice R p cp ∧ DB w wr n es V j R p cp qs rs) (fun _ i _ => (intOf i + 1).toNat)
  case atStart =>
    refine ⟨n, 0, 0, none, [], [], Nat.le_refl _, rfl, rfl, ⟨⟨by simp, rfl, HVP.out, ?_⟩, RdK.empty _ _ _ (fun _ => rfl), (fun _ h => by cases h), ?_, HB1.out⟩⟩
    · rw [List.drop_of_length_le (by rw [H.out.len]; exact Nat.le_refl _)]
      simp [M.bval]
    · rw [List.append_nil]
      exact HO1.out
  case round =>
    obtain ⟨j, p, cp, R, qs, rs, hj, rfl, rfl, hdb⟩ := hrel
    have HD := Lib.hid hdb
    clear hdb
    have hpm : p ≤ m := by
      have h1 := M.bval_len HD.out.math.tr (k := m) (Nat.lt_trans HD.out.math.lt (by rw [HV.out, ← K.out.len]; exact M.bval_lt bs))
      rw [HD.out.rd.len] at h1
      exact h1
    by_cases h0 : j = 0
    · subst h0
      have hfin := HD.out.math.eq
      rw [List.drop_zero] at hfin
      have hq : M.bval qs = M.bval es / V ∧ M.bval rs = M.bval es % V := by
        have hlt := HD.out.math.lt
        rw [hfin]
        constructor
        · rw [Nat.add_comm, Nat.mul_comm, Nat.add_mul_div_left _ _ HVP.out, Nat.div_eq_of_lt hlt, Nat.zero_add]
        · rw [Nat.add_comm, Nat.mul_comm, Nat.add_mul_mod_self_left, Nat.mod_eq_of_lt hlt]
      have ho := HD.out.own
      rw [List.replicate_zero, List.nil_append] at ho
      have HO := Lib.hid ho
      have HQ := Lib.hid hq
      clear ho hq hfin
      go_wp2_with fail
      refine (trimB_any _ _ _ _ _ HO.out.rd (by omega)).mono ?_
      rintro e w' ⟨rfl, rfl⟩
      go_wp2_with fail
      go_ret2
      exact ⟨_, _, _, M.trB qs, R, p, cp, rs, rfl, HO.out.rd.shortB, M.trB_trB _, by rw [M.bval_trB]; exact HQ.out.1, HD.out.rd, HD.out.math.tr, HQ.out.2, HD.out.below⟩
    · obtain ⟨i, rfl⟩ : ∃ i, j = i + 1 := ⟨j - 1, by omega⟩
      have hji : ((i + 1 : Nat) : Int) - 1 = (i : Int) := by omega
      obtain ⟨b, o, x, hA, hx, hcell⟩ := (H.out.below HD.out.below).atB (show i < n by omega)
      subst hA
      have HX := Lib.hid hx
      have hown : OwB (wr.alloc (.cells #[.bool x] 4)) wr.heap.size (some ⟨wr.heap.size, 0, none⟩) 1 1 [x] := ⟨World.ownsRow_lit wr #[.bool x] 1 (Nat.le_refl _) (by unfold maxLen; omega) rfl, fun _ _ => trivial⟩
      have HW := Lib.hid hown
      clear hx hown
      go_wp2_with (at_builtin; refine app_own kBool _ rfl _ _ rfl wr.heap.size _ 1 1 [x] rfl HW.out R p cp rs rfl (HD.out.rd.alloc _) (by omega) (by simp) ?_; intro A3 c3 w3 ho3 hg3; have HO3 := Lib.hid ho3; have HB3 := Lib.hid (((Below.refl wr.heap.size wr).alloc (Nat.le_refl _) (.cells #[.bool x] 4)).grown hg3 (by simp) (fun k hk => by cases hk; exact Nat.le_refl _)); clear ho3 hg3)
      have hgq : w.heap.size < wr.heap.size := (HD.out.own.lt rfl).2
      obtain ⟨r1, hr1⟩ : ∃ r1, r1 = M.trB ([x] ++ rs) := ⟨_, rfl⟩
      obtain ⟨n1, hn1⟩ : ∃ n1, n1 = r1.length := ⟨_, rfl⟩
      have ht1 : M.trB r1 = r1 := by rw [hr1, M.trB_trB]
      have hv1 : M.bval r1 = x.toNat + 2 * M.bval rs := by rw [hr1, M.bval_trB]; rfl
      have hn1l : n1 ≤ 1 + m := by
        have h1 := M.trB_length_le ([x] ++ rs)
        rw [← hr1, List.length_append, HD.out.rd.len] at h1
        simp at h1
        omega
      have ho4 := HO3.out.shortB
      rw [← hr1, ← hn1] at ho4
      have HR1 := Lib.hid hr1
      have HN1 := Lib.hid hn1
      have HT1 := Lib.hid ht1
      have HV1 := Lib.hid hv1
      have HO4 := Lib.hid ho4
      clear hr1 hn1 ht1 hv1 ho4 hcell
      refine (trimB_any _ _ _ _ _ HO3.out.rd (by omega)).mono ?_
      rw [← HR1.out, ← HN1.out]
      rintro e w' ⟨rfl, rfl⟩
      go_wp2_with fail
      have hKB := Lib.hid ((K.out.below HD.out.below).below HB3.out)
      refine (less_any _ _ _ _ _ _ _ _ _ HO4.out.rd hKB.out (by omega) (by omega)).mono ?_
      rw [← HV.out]
      rintro e w5 ⟨rfl, hb5⟩
      have hb35 := bl_trans HB3.out hb5
      have HO5 := Lib.hid (HO4.out.below hb5)
      have HK5 := Lib.hid (hKB.out.below hb5)
      have HQ5 := Lib.hid (HD.out.own.below hb35)
      have HB5 := Lib.hid hb35
      clear hb5 hb35 HO4 hKB HO3 HB3 HW
      by_cases hlt : M.bval r1 < V
      · have hdl : decide (M.bval r1 < V) = true := decide_eq_true hlt
        have HST := Lib.hid (HD.out.math.less (by omega) HX.out HT1.out HV1.out hlt)
        rw [hdl]
        clear hdl hlt
        go_wp2
        go_roundw
        case rel =>
          refine ⟨i, n1, c3, A3, false :: qs, r1, by omega, by go_num, rfl, ⟨HST.out, HO5.out.rd, fun q hq => by have := (HO5.out.lt hq).1; omega, ?_, ?_⟩⟩
          · have := HQ5.out
            rw [List.replicate_succ', List.append_assoc] at this
            exact this
          · exact HD.out.below.trans (HB5.out.mono HD.out.below.size)
        case measure => simp [intOf]
      · have hdl : decide (M.bval r1 < V) = false := decide_eq_false hlt
        have HLT := Lib.hid hlt
        rw [hdl]
        clear hdl hlt
        go_wp2_with fail
        refine (subB_any _ _ _ _ _ _ _ _ _ HO5.out.rd HK5.out (by omega) ?_ (by rw [← HV.out]; have := HLT.out; omega)).mono ?_
        · refine Nat.le_of_not_lt fun hc => ?_
          have h9 := M.bval_lt_of_len (xs := r1) (ys := bs) HT.out (by rw [← HN1.out, K.out.len]; exact hc)
          rw [← HV.out] at h9
          exact HLT.out h9
        rw [← HV.out]
        rintro e w6 ⟨A6, n6, c6, r6, rfl, o6, t6, v6, b6⟩
        have HST := Lib.hid (HD.out.math.more (by omega) HX.out t6 HV1.out HLT.out v6)
        have hQ6 := HQ5.out.below b6
        have hcq := hQ6.cellAt (j := i) (x := false) (by rw [List.getElem?_append_left (by simp), List.getElem?_replicate, if_pos (by omega)])
        have hfq := hQ6.frozenAt i
        simp only [kBool] at hcq
        obtain ⟨q1, q2⟩ := hQ6.set_ i true trivial
        rw [set_repB] at q1
        have hap : ∀ q, A6 = some q → w.heap.size < q.block := fun q hq => by have := (o6.lt hq).1; have := HB5.out.size; omega
        have hrd := o6.rd.grown q2 (fun q hq _ e => by have := hap q hq; injection e with e; omega)
        have hbb := (HD.out.below.trans (HB5.out.mono HD.out.below.size)).trans (b6.mono (by have := HB5.out.size; omega))
        have HQ7 := Lib.hid q1
        have HRD := Lib.hid hrd
        have HAP := Lib.hid hap
        have HBB := Lib.hid (hbb.setCell (p := ⟨w.heap.size, i, none⟩) (Nat.le_refl _) (.bool true))
        clear q1 q2 hrd hap hbb hQ6 o6 t6 v6 b6
        have hin : i < n := by omega
        go_wp2
        go_roundw
        case rel => exact ⟨i, n6, c6, A6, true :: qs, r6, by omega, by go_num, rfl, ⟨HST.out, HRD.out, HAP.out, HQ7.out, HBB.out⟩⟩
        case measure => simp [intOf]

/-- The loop of Gcd. -/
def GcB (w : World) (G k : Nat) (p q : Value) (wr : World) : Prop :=
  ∃ A n c xs B m d ys, p = .slice A n c ∧ q = .slice B m d ∧ RdB wr A n c xs ∧ RdB wr B m d ys ∧ M.trB ys = ys ∧ M.bval ys = k ∧ Nat.gcd (M.bval xs) k = G ∧ n ≤ 1000000 ∧ m ≤ 900000 ∧ Below w.heap.size w wr

end Go.Proofs.Ythjgonfohjgfaaa

/- litmusref01 in numbers alone. -/
namespace Go.Proofs.Ythjgonfohjgfaaa
open Go.RowKit
set_option linter.unusedVariables false

section
variable {w w' : World} {A B : Option Addr} {n c m d v x y k j : Nat}
theorem SameN_yes (h : Tm w A n c x k) (g : Tm w B m d y j) (hk : k ≤ 1000) (hj : j ≤ 1000) (e : x = y) : Calls Try.prog 11 #[.slice A n c, .slice B m d] w fun e w' => e = .returned (.bool true) ∧ Below w.heap.size w w' := by
  have hl := h.le
  have gl := g.le
  subst e
  refine (Same_any _ _ _ _ _ _ _ _ _ h.rd g.rd (by omega) (by omega)).mono fun e' w' r => ⟨?_, r.2⟩
  rw [r.1, decide_eq_true rfl]
end

end Go.Proofs.Ythjgonfohjgfaaa
