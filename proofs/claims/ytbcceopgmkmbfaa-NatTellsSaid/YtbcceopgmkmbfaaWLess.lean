/- litmusref01.less and sub: rows of bits are compared, and taken away. -/
import Derived.Test.YtbcceopgmkmbfaaWLimbs
namespace Go.Proofs.Ytbcceopgmkmbfaa
open Go.RowKit
set_option linter.unusedVariables false

namespace M
theorem bval_cut (xs : List Bool) (k : Nat) (h : k ≤ xs.length) : bval xs = bval (xs.take k) + 2 ^ k * bval (xs.drop k) := by
  have := bval_append (xs.take k) (xs.drop k)
  rw [List.take_append_drop, List.length_take, Nat.min_eq_left h] at this
  exact this
/-- The highest place where two rows differ tells. -/
theorem bval_differ {es bs : List Bool} {n k : Nat} {x y : Bool} (ha : es.length = n) (hb : bs.length = n) (hd : es.drop (k + 1) = bs.drop (k + 1)) (hx : es[k]? = some x) (hy : bs[k]? = some y) (hne : x ≠ y) : decide (bval es < bval bs) = y := by
  have hk : k < n := by rw [← ha]; exact (List.getElem?_eq_some_iff.1 hx).1
  have e1 := bval_cut es k (by omega)
  have e2 := bval_cut bs k (by omega)
  rw [drop_pred hx, bval_cons] at e1
  rw [drop_pred hy, bval_cons, ← hd] at e2
  have h1 := bval_lt (es.take k)
  have h2 := bval_lt (bs.take k)
  rw [List.length_take, ha, Nat.min_eq_left (by omega)] at h1
  rw [List.length_take, hb, Nat.min_eq_left (by omega)] at h2
  rw [Nat.mul_add] at e1 e2
  cases x <;> cases y
  · exact absurd rfl hne
  · rw [decide_eq_true]
    simp at e1 e2
    omega
  · rw [decide_eq_false]
    simp at e1 e2
    omega
  · exact absurd rfl hne
end M

theorem OwK.drewNB {w : World} {base : Nat} {A : Option Addr} {n c : Nat} {xs : List Bool} (h : OwB w base A n c xs) (k : Nat) : OwB (w.drewN k) base A n c xs := ⟨⟨h.row.1, h.row.2⟩, h.lim⟩

set_option maxHeartbeats 2000000 in
theorem less_any (A : Option Addr) (n c : Nat) (es : List Bool) (B : Option Addr) (m d : Nat) (bs : List Bool) (w : World) (h : RdB w A n c es) (k : RdB w B m d bs) (hn : n ≤ 1000000) (hm : m ≤ 1000000) :
    Calls Try.prog 42 #[.slice A n c, .slice B m d] w fun e w' => e = .returned (.bool (decide (M.bval es < M.bval bs))) ∧ Below w.heap.size w w' := by
  have hl := M.trB_length_le es
  have kl := M.trB_length_le bs
  rw [h.len] at hl
  rw [k.len] at kl
  have hs := h.shortB
  have ks := k.shortB
  rw [← M.bval_trB es, ← M.bval_trB bs]
  have ht := M.trB_trB es
  have kt := M.trB_trB bs
  have H := Lib.hid h
  have K := Lib.hid k
  clear h k
  obtain ⟨ta, hta⟩ : ∃ ta, ta = M.trB es := ⟨_, rfl⟩
  obtain ⟨tb, htb⟩ : ∃ tb, tb = M.trB bs := ⟨_, rfl⟩
  rw [← hta] at hs ht hl ⊢
  rw [← htb] at ks kt kl ⊢
  obtain ⟨na, hna⟩ : ∃ na, na = ta.length := ⟨_, rfl⟩
  obtain ⟨nb, hnb⟩ : ∃ nb, nb = tb.length := ⟨_, rfl⟩
  rw [← hna] at hs hl
  rw [← hnb] at ks kl
  have HTA := Lib.hid hta
  have HTB := Lib.hid htb
  have HNA := Lib.hid hna
  have HNB := Lib.hid hnb
  have HS := Lib.hid hs
  have KS := Lib.hid ks
  have HT := Lib.hid ht
  have KT := Lib.hid kt
  clear hta htb hs ks ht kt hna hnb
  obtain ⟨r, hr⟩ : ∃ r, r = decide (M.bval ta < M.bval tb) := ⟨_, rfl⟩
  rw [← hr]
  have HR := Lib.hid hr
  clear hr
  go_enter Try.func42, Try.ntmps42
  go_wp2_with fail
  refine (trimB_any _ _ _ _ _ H.out (by omega)).mono ?_
  rw [← HTA.out, ← HNA.out]
  rintro e w' ⟨rfl, rfl⟩
  go_wp2_with fail
  refine (trimB_any _ _ _ _ _ K.out (by omega)).mono ?_
  rw [← HTB.out, ← HNB.out]
  rintro e w' ⟨rfl, rfl⟩
  clear H K HTA HTB
  by_cases hab : na = nb
  · subst hab
    go_wp2
    go_loopw [5] (fun i wr => ∃ k : Nat, k ≤ na ∧ i = .int .i64 ((k : Int) - 1) ∧ ta.drop k = tb.drop k ∧ Below w.heap.size w wr) (fun i _ => (intOf i + 1).toNat)
    case atStart => exact ⟨na, Nat.le_refl _, rfl, by rw [List.drop_of_length_le (by rw [← HNA.out]; exact Nat.le_refl _), List.drop_of_length_le (by rw [← HNB.out]; exact Nat.le_refl _)], Below.refl _ _⟩
    case round =>
      obtain ⟨k, hk, rfl, hd, hb⟩ := hrel
      have HD := Lib.hid hd
      have HB := Lib.hid hb
      clear hd hb
      by_cases h0 : k = 0
      · subst h0
        have HE := Lib.hid (show false = r by
          rw [HR.out]
          have := HD.out
          rw [List.drop_zero, List.drop_zero] at this
          rw [this]
          simp)
        go_wp2
        go_ret
        exact ⟨ret_bool HE.out, HB.out⟩
      · obtain ⟨i, rfl⟩ : ∃ i, k = i + 1 := ⟨k - 1, by omega⟩
        have hji : ((i + 1 : Nat) : Int) - 1 = (i : Int) := by omega
        obtain ⟨b, o, x, hA, hx, hcell⟩ := (HS.out.below HB.out).atB (show i < na by omega)
        obtain ⟨b', o', y, hB, hy, hcell'⟩ := (KS.out.below HB.out).atB (show i < na by omega)
        subst hA hB
        have HX := Lib.hid hx
        have HY := Lib.hid hy
        clear hx hy
        by_cases hxy : x = y
        · subst hxy
          have HD2 := Lib.hid (show ta.drop i = tb.drop i by rw [M.drop_pred HX.out, M.drop_pred HY.out, HD.out])
          have hsame : (x != x) = false := by simp
          go_wp2
          go_quiet (fail)
          go_wp2
          go_roundw
          case rel => exact ⟨i, by omega, by go_num, HD2.out, below_drewN HB.out _⟩
          case measure => simp [intOf]
        · have HE := Lib.hid (show y = r by rw [HR.out]; exact (M.bval_differ HNA.out.symm HNB.out.symm HD.out HX.out HY.out hxy).symm)
          have hdr : ∀ j, (wr.drewN j).cell? ⟨b', o' + i, none⟩ = some (.bool y) := fun j => hcell'
          cases x <;> cases y
          · exact absurd rfl hxy
          · clear hxy
            go_wp2
            go_quiet (fail)
            go_wp2
            go_ret
            exact ⟨ret_bool HE.out, below_drewN HB.out _⟩
          · clear hxy
            go_wp2
            go_quiet (fail)
            go_wp2
            go_ret
            exact ⟨ret_bool HE.out, below_drewN HB.out _⟩
          · exact absurd rfl hxy
  · by_cases hlt : na < nb
    · have HE := Lib.hid (show true = r by
        rw [HR.out, decide_eq_true]
        exact M.bval_lt_of_len KT.out (by rw [← HNA.out, ← HNB.out]; exact hlt))
      go_wp2
      go_ret
      exact ⟨ret_bool (by rw [← HE.out]), Below.refl _ _⟩
    · have HE := Lib.hid (show false = r by
        rw [HR.out, decide_eq_false]
        have := M.bval_lt_of_len (xs := tb) (ys := ta) HT.out (by rw [← HNA.out, ← HNB.out]; omega)
        omega)
      go_wp2
      go_ret
      exact ⟨ret_bool (by rw [← HE.out]), Below.refl _ _⟩

/-- at in a world that has drawn. -/
theorem atB_q {A : Option Addr} {n c : Nat} {bs : List Bool} {w : World} (i k : Nat) (h : RdB w A n c bs) (hm : n ≤ 4194304) :
    Calls Try.prog 65 #[.slice A n c, .int .i64 (i : Int)] (w.drewN k) fun e w'' => e = .returned (.bool (bitAt bs i)) ∧ ∃ m, w'' = w.drewN m :=
  (atB_any A n c bs i (w.drewN k) ⟨h.len, h.cap, h.nil, h.lim, h.cells⟩ hm).mono fun _ _ ⟨he, hw⟩ => ⟨he, k, hw.symm⟩

theorem bval_take_at (bs : List Bool) (k : Nat) : M.bval (bs.take (k + 1)) = M.bval (bs.take k) + 2 ^ k * (bitAt bs k).toNat := by
  cases h : bs[k]? with
  | none =>
    have hl : bs.length ≤ k := List.getElem?_eq_none_iff.1 h
    rw [List.take_of_length_le (by omega), List.take_of_length_le hl]
    unfold bitAt
    rw [h]
    simp
  | some x =>
    rw [M.bval_take h]
    unfold bitAt
    rw [h]
    rfl

set_option maxHeartbeats 4000000 in
theorem subB_any (A : Option Addr) (n c : Nat) (es : List Bool) (B : Option Addr) (m d : Nat) (bs : List Bool) (w : World) (h : RdB w A n c es) (k : RdB w B m d bs) (hn : n ≤ 1000000) (hm : m ≤ n) (hle : M.bval bs ≤ M.bval es) :
    Calls Try.prog 45 #[.slice A n c, .slice B m d] w (GivesBits w (M.bval es - M.bval bs)) := by
  have H := Lib.hid h
  have K := Lib.hid k
  clear h k
  go_enter Try.func45, Try.ntmps45
  go_wp2
  go_loopw [5, 6, 7] (fun v q i wr => ∃ (k p cp : Nat) (bo : Bool) (D : Option Addr) (zs : List Bool), k ≤ n ∧ i = .int .i64 (k : Int) ∧ q = .bool bo ∧ v = .slice D p cp ∧ OwB wr w.heap.size D p cp zs ∧ zs.length = k ∧ M.bval (es.take k) + 2 ^ k * bo.toNat = M.bval zs + M.bval (bs.take k) ∧ Below w.heap.size w wr) (fun _ _ i _ => n - (intOf i).toNat)
  case atStart => exact ⟨0, 0, 0, false, none, [], by omega, rfl, rfl, rfl, OwK.nil_ _ _, rfl, rfl, Below.refl _ _⟩
  case round =>
    obtain ⟨k, p, cp, bo, D, zs, hk, rfl, rfl, rfl, ho, hl, hv, hb⟩ := hrel
    have hpk : p ≤ 1000000 := by have := ho.len; omega
    have HO := Lib.hid ho
    have HL := Lib.hid hl
    have HV := Lib.hid hv
    have HB := Lib.hid hb
    clear ho hl hv hb
    by_cases hkn : k < n
    · obtain ⟨b, o, x, hA, hx, hcell⟩ := (H.out.below HB.out).atB hkn
      subst hA
      have HX := Lib.hid hx
      clear hx
      have hK := K.out.below HB.out
      have HK := Lib.hid hK
      clear hK
      obtain ⟨y, hy⟩ : ∃ y, y = bitAt bs k := ⟨_, rfl⟩
      have HY := Lib.hid hy
      have hstep : ∀ z bo' : Bool, x.toNat + 2 * bo'.toNat = z.toNat + y.toNat + bo.toNat → M.bval (es.take (k + 1)) + 2 ^ (k + 1) * bo'.toNat = M.bval (zs ++ [z]) + M.bval (bs.take (k + 1)) := by
        intro z bo' hz
        rw [M.bval_take HX.out, bval_take_at, ← HY.out]
        exact M.bsub_step (es := es) (bs := bs) HL.out HV.out hz
      have HST := Lib.hid hstep
      have HQ := Lib.hid (show ∀ j, Calls Try.prog 65 #[.slice B m d, .int .i64 (k : Int)] (wr.drewN j) fun e w'' => e = .returned (.bool y) ∧ ∃ m, w'' = wr.drewN m from fun j => by rw [hy]; exact atB_q k j HK.out (by omega))
      clear hstep hy
      cases x <;> cases y <;> cases bo
      all_goals
        go_wp2
        go_quiet ((go_at_call 65; exact HQ.out _))
        go_wp2_with (at_builtin; refine app_own kBool _ rfl _ _ rfl w.heap.size D p cp zs rfl (HO.out.drewNB _ |>.alloc _) _ 1 1 [_] rfl (RdK.one (K := kBool) _ _ trivial) (by omega) (by have := HB.out.size; simp; omega) ?_; intro A3 c3 w3 ho3 hg3; have HO3 := Lib.hid ho3; have HG3 := Lib.hid hg3; clear ho3 hg3)
        go_roundw
        case rel => exact ⟨k + 1, p + 1, c3, _, A3, _, by omega, by go_num, rfl, rfl, HO3.out, by simp [HL.out], HST.out _ _ rfl, below_app (below_drewN HB.out _) HB.out.size (HO.out.drewNB _) HG3.out⟩
        case measure => simp [intOf]; omega
    · obtain rfl : k = n := by omega
      have hv := HV.out
      rw [List.take_of_length_le (by rw [H.out.len]; exact Nat.le_refl _), List.take_of_length_le (by rw [K.out.len]; exact hm)] at hv
      have hzl := M.bval_lt zs
      rw [HL.out] at hzl
      have hfin : M.bval zs = M.bval es - M.bval bs := by
        cases bo with
        | false => simp at hv; omega
        | true =>
          have := M.bval_lt es
          rw [H.out.len] at this
          simp at hv
          omega
      have HF := Lib.hid hfin
      clear hv hzl hfin
      go_wp2_with fail
      refine (trimB_any _ _ _ _ _ HO.out.rd (by omega)).mono ?_
      rintro e w' ⟨rfl, rfl⟩
      go_wp2_with fail
      go_ret
      exact ⟨D, _, cp, M.trB zs, rfl, HO.out.shortB, M.trB_trB _, by rw [M.bval_trB]; exact HF.out, HB.out⟩

end Go.Proofs.Ytbcceopgmkmbfaa
