/- litmusref01.Text: digits, the lowest first, that are doubled for each bit, from the highest on. -/
import Derived.Test.YthjgonfohjgfaaaMN
import Derived.Test.YthjgonfohjgfaaaMG
namespace Go.Proofs.Ythjgonfohjgfaaa
open Go.RowKit
set_option linter.unusedVariables false

namespace M
def dval : List Nat → Nat
  | [] => 0
  | x :: xs => x + 10 * dval xs
theorem dval_append (xs ys : List Nat) : dval (xs ++ ys) = dval xs + 10 ^ xs.length * dval ys := by
  induction xs with
  | nil => simp [dval]
  | cons x xs ih =>
    rw [List.cons_append, dval, ih, dval, List.length_cons, Nat.pow_succ]
    have : 10 ^ xs.length * 10 * dval ys = 10 * (10 ^ xs.length * dval ys) := by rw [Nat.mul_comm (10 ^ xs.length), Nat.mul_assoc]
    omega
theorem dval_take {xs : List Nat} {k x : Nat} (h : xs[k]? = some x) : dval (xs.take (k + 1)) = dval (xs.take k) + 10 ^ k * x := by
  have hk : k < xs.length := (List.getElem?_eq_some_iff.1 h).1
  rw [take_snoc h, dval_append, List.length_take, Nat.min_eq_left (by omega)]
  simp [dval]
/-- Digits of a number, the lowest first, the highest not 0. -/
structure Dg (ds : List Nat) (v : Nat) : Prop where
  lim : ∀ x ∈ ds, x < 10
  val : dval ds = v
  top : ∀ x, ds.getLast? = some x → x ≠ 0
theorem Dg.lows {ds : List Nat} {v : Nat} (h : Dg ds v) : ds.map (48 + ·) = M.lows v := by
  induction ds generalizing v with
  | nil =>
    have := h.val
    rw [← this]
    exact lows_zero.symm
  | cons x xs ih =>
    have hx := h.lim x (by simp)
    have hv := h.val
    rw [dval] at hv
    have ht : Dg xs (dval xs) := by
      refine ⟨fun y hy => h.lim y (by simp [hy]), rfl, fun y hy => h.top y ?_⟩
      cases xs with
      | nil => simp at hy
      | cons z zs => rw [List.getLast?_cons_cons]; exact hy
    have hne : v ≠ 0 := by
      intro h0
      cases xs with
      | nil =>
        have := h.top x (by simp)
        simp [dval] at hv
        omega
      | cons z zs =>
        have e1 := ih ht
        have e0 : dval (z :: zs) = 0 := by omega
        rw [e0, lows_zero] at e1
        simp at e1
    rw [List.map_cons, ih ht, lows_pos hne]
    have e1 : v % 10 = x := by omega
    have e2 : v / 10 = dval xs := by omega
    rw [e1, e2]
/-- Doubling: k digits are done. -/
structure Db (ds : List Nat) (b k ca : Nat) (zs : List Nat) : Prop where
  len : zs.length = k
  lim : ∀ x ∈ zs, x < 10
  ca1 : ca ≤ 1
  eq : 2 * dval (ds.take k) + b = dval zs + 10 ^ k * ca
  top : ∀ l, zs.getLast? = some l → ∃ x c, ds[k - 1]? = some x ∧ l + 10 * ca = 2 * x + c
theorem Db.start (ds : List Nat) (b : Nat) (hb : b ≤ 1) : Db ds b 0 b [] := ⟨rfl, (fun x hx => by cases hx), hb, by simp [dval], fun l h => by simp at h⟩
theorem Db.step {ds zs : List Nat} {b k ca x : Nat} (h : Db ds b k ca zs) (hx : ds[k]? = some x) (hl : x < 10) : Db ds b (k + 1) ((2 * x + ca) / 10) (zs ++ [(2 * x + ca) % 10]) := by
  have hc := h.ca1
  refine ⟨by simp [h.len], ?_, by omega, ?_, ?_⟩
  · intro y hy
    rcases List.mem_append.1 hy with hy | hy
    · exact h.lim y hy
    · simp at hy
      omega
  · have e := h.eq
    rw [dval_take hx, dval_append, h.len, Nat.pow_succ]
    have e1 : 10 ^ k * (2 * x + ca) = 10 ^ k * ((2 * x + ca) % 10 + 10 * ((2 * x + ca) / 10)) := by congr 1; omega
    have e2 : 10 ^ k * (2 * x + ca) = 2 * (10 ^ k * x) + 10 ^ k * ca := by rw [Nat.mul_add, Nat.mul_left_comm]
    have e3 : 10 ^ k * ((2 * x + ca) % 10 + 10 * ((2 * x + ca) / 10)) = 10 ^ k * ((2 * x + ca) % 10) + 10 ^ k * 10 * ((2 * x + ca) / 10) := by rw [Nat.mul_add, Nat.mul_assoc]
    simp only [dval, Nat.mul_zero, Nat.add_zero]
    omega
  · intro l hl'
    rw [List.getLast?_append] at hl'
    simp at hl'
    exact ⟨x, ca, by simpa using hx, by omega⟩
theorem Db.done0 {ds zs : List Nat} {b V : Nat} (hd : Dg ds V) (h : Db ds b ds.length 0 zs) : Dg zs (2 * V + b) := by
  refine ⟨h.lim, ?_, ?_⟩
  · have := h.eq
    rw [List.take_of_length_le (Nat.le_refl _), hd.val] at this
    omega
  · intro l hl
    obtain ⟨x, c, hx, he⟩ := h.top l hl
    have hne := hd.top x (by rw [List.getLast?_eq_getElem?]; exact hx)
    omega
theorem Db.done1 {ds zs : List Nat} {b V : Nat} (hd : Dg ds V) (h : Db ds b ds.length 1 zs) : Dg (zs ++ [1]) (2 * V + b) := by
  refine ⟨?_, ?_, ?_⟩
  · intro y hy
    rcases List.mem_append.1 hy with hy | hy
    · exact h.lim y hy
    · simp at hy; omega
  · have := h.eq
    rw [List.take_of_length_le (Nat.le_refl _), hd.val] at this
    rw [dval_append, h.len]
    simp only [dval]
    omega
  · intro l hl
    rw [List.getLast?_append] at hl
    simp at hl
    omega
end M

set_option maxHeartbeats 4000000 in
theorem textR_any (A : Option Addr) (n c : Nat) (xs : List Nat) (w : World) (h : Rd w A n c xs) (hn : n ≤ 1000) : Calls Try.prog 78 #[.slice A n c] w (GivesT w (M.txt (M.val xs))) := by
  obtain ⟨V, hV⟩ : ∃ V, V = M.val xs := ⟨_, rfl⟩
  rw [← hV]
  have hlt := M.val_lt h.Lim
  rw [h.len, ← hV, pow_R] at hlt
  have H := Lib.hid h
  have HV := Lib.hid hV
  have HLT := Lib.hid hlt
  clear h hV hlt
  go_enter Try.func78, Try.ntmps78
  go_wp2_with fail
  refine (bits_any _ _ _ _ _ H.out hn).mono ?_
  rw [← HV.out]
  rintro e w1 ⟨A1, n1, c1, es, rfl, o1, t1, v1, b1⟩
  have hl1 := M.bval_len t1 (by rw [v1]; exact HLT.out)
  rw [o1.len] at hl1
  have HR := Lib.hid o1.rd
  have HV1 := Lib.hid v1
  have HB1 := Lib.hid b1
  clear o1 t1 v1 b1 H HV HLT
  go_wp2_with fail
  go_loopg [4, 5] n1 (fun g v i wr => ∃ (j p cp : Nat) (D : Option Addr) (ds : List Nat), j ≤ n1 ∧ g = j ∧ i = .int .i64 ((j : Int) - 1) ∧ v = .slice D p cp ∧ OwK kU8 wr w1.heap.size D p cp ds ∧ p ≤ n1 - j ∧ M.Dg ds (M.bval (es.drop j)) ∧ Below w1.heap.size w1 wr)
  case atStart =>
    refine ⟨n1, 0, 0, none, [], Nat.le_refl _, rfl, rfl, rfl, OwK.nil_ _ _, by omega, ⟨(fun x hx => by cases hx), ?_, fun l hl => by simp at hl⟩, Below.refl _ _⟩
    rw [List.drop_of_length_le (by rw [HR.out.len]; exact Nat.le_refl _)]
    rfl
  case round =>
    obtain ⟨j, p, cp, D, ds, hj, hg, rfl, rfl, ho, hp, hd, hb⟩ := hrel
    have HG := Lib.hid hg
    have HO := Lib.hid ho
    have HD := Lib.hid hd
    have HB := Lib.hid hb
    clear hg ho hd hb
    by_cases h0 : j = 0
    · subst h0
      obtain ⟨wo, rfl⟩ : ∃ wo, wo = wr := ⟨_, rfl⟩
      have hdV := HD.out
      rw [List.drop_zero, HV1.out] at hdV
      have HDV := Lib.hid hdV
      have HBB := Lib.hid (bl_trans HB1.out HB.out)
      clear hdV
      by_cases hp0 : p = 0
      · subst hp0
        have hds : ds = [] := List.eq_nil_of_length_eq_zero HO.out.len
        have HE := Lib.hid (show M.txt V = [48] by
          have := HDV.out.val
          rw [hds] at this
          rw [← this]
          rfl)
        clear hds
        go_wp2
        go_ret
        exact ⟨_, rfl, by rw [HE.out]; rfl, HBB.out⟩
      · have hpos : 0 < p := by omega
        have hpne : ((p : Int) == 0) = false := by simp; omega
        have HE := Lib.hid (show (ds.map (48 + ·)).reverse = M.txt V by
          have hlow := HDV.out.lows
          have hne : V ≠ 0 := by
            intro h9
            rw [h9, M.lows_zero] at hlow
            have := HO.out.len
            have h8 := congrArg List.length hlow
            simp at h8
            rw [h8] at this
            simp at this
            omega
          unfold M.txt
          rw [if_neg hne, hlow])
        have hpl : p ≤ 100000 := by omega
        go_wp2_with (at_make; refine make_full kU8 _ rfl _ _ rfl .i64 .i64 _ _ p rfl rfl (by omega) (by omega) (by omega) (show (0 : Nat) < 256 by omega) ?_; intro w2 ho2 hb2; have HO2 := Lib.hid ho2; have HB2 := Lib.hid hb2; clear ho2 hb2)
        have hD2 := HO.out.below HB2.out
        have hDlt : ∀ q, D = some q → q.block < wo.heap.size := fun q hq => (HO.out.lt hq).2
        have HD2 := Lib.hid hD2
        have HDL := Lib.hid hDlt
        clear hD2 hDlt
        go_loopg [10] p (fun g v w3 => ∃ k : Nat, k ≤ p ∧ g = p - k ∧ v = .int .i64 (k : Int) ∧ OwK kU8 w3 wo.heap.size (some ⟨wo.heap.size, 0, none⟩) p p (List.replicate (p - k) 0 ++ ((ds.take k).map (48 + ·)).reverse) ∧ Below wo.heap.size wo w3)
        case atStart => exact ⟨0, by omega, rfl, rfl, by rw [Nat.sub_zero, List.take_zero, List.map_nil, List.reverse_nil, List.append_nil]; exact HO2.out, HB2.out⟩
        case round =>
          obtain ⟨k, hk, hg3, rfl, ho3, hb3⟩ := hrel
          have HG3 := Lib.hid hg3
          have HO3 := Lib.hid ho3
          have HB3 := Lib.hid hb3
          clear hg3 ho3 hb3
          by_cases hkp : k < p
          · obtain ⟨y, hy⟩ : ∃ y, ds[k]? = some y := ⟨ds[k]'(by rw [HO.out.len]; exact hkp), List.getElem?_eq_getElem _⟩
            have hyl := HDV.out.lim y (List.mem_of_getElem? hy)
            obtain ⟨g, rfl, hg1, hg2⟩ := HO.out.head (by omega)
            have cy := (HO.out.below HB3.out).cellAt hy
            have hq : p - k = (p - 1 - k) + 1 := by omega
            have hset0 := HO3.out
            rw [hq] at hset0
            have cz := hset0.cellAt (j := p - 1 - k) (x := 0) (by rw [List.getElem?_append_left (by simp), List.getElem?_replicate, if_pos (by omega)])
            have fz := hset0.frozenAt (p - 1 - k)
            simp only [kU8] at cy cz
            obtain ⟨z, hz⟩ : ∃ z, z = 48 + y := ⟨_, rfl⟩
            obtain ⟨ho4, hg4⟩ := hset0.set_ (p - 1 - k) z (show z < 256 by omega)
            rw [set_rep] at ho4
            have hlist : z :: ((ds.take k).map (48 + ·)).reverse = ((ds.take (k + 1)).map (48 + ·)).reverse := by rw [M.take_snoc hy, hz]; simp
            rw [hlist] at ho4
            have hz2 : (48 : Int) + (y : Int) = (z : Int) := by rw [hz]; simp
            have hj : ((p : Int) - 1 - k).toNat = p - 1 - k := by omega
            have HO4 := Lib.hid ho4
            have HB4 := Lib.hid (HB3.out.setCell (p := ⟨wo.heap.size, p - 1 - k, none⟩) (Nat.le_refl _) (.int .u8 (z : Int)))
            clear ho4 hg4 hlist hset0 hy hq hz
            go_wp2
            go_roundg (p - (k + 1))
            case measure => have := HG3.out; omega
            case rel =>
              refine ⟨k + 1, by omega, rfl, by go_num, ?_, HB4.out⟩
              rw [show p - (k + 1) = p - 1 - k by omega]
              exact HO4.out
          · obtain rfl : k = p := by omega
            have hfin := HO3.out
            rw [Nat.sub_self, List.replicate_zero, List.nil_append, List.take_of_length_le (by rw [HO.out.len]; exact Nat.le_refl _), HE.out] at hfin
            have hlen3 := hfin.len
            have hconv := run_convert_bytes_arg (P := Try.prog) wr 23 5 Try.underlying23 Try.underlying5 wo.heap.size 0 k k ((M.txt V).map fun x : Nat => (x : Int)) (by rw [List.length_map]; exact hlen3) (fun i hi => by
              obtain ⟨x, hx⟩ : ∃ x, (M.txt V)[i]? = some x := ⟨_, List.getElem?_eq_getElem (by rw [hlen3]; exact hi)⟩
              have := hfin.cellAt hx
              rw [Nat.zero_add, this]
              simp only [kU8]
              rw [List.getD_eq_getElem?_getD, List.getElem?_map, hx]
              rfl) 9 Try.underlying9
            have HB5 := Lib.hid (bl_trans HBB.out HB3.out)
            clear hfin hlen3
            go_wp2
            go_ret
            refine ⟨_, rfl, ?_, HB5.out⟩
            exact bytes_strOfNums (M.txt_dig V)
    · obtain ⟨i, rfl⟩ : ∃ i, j = i + 1 := ⟨j - 1, by omega⟩
      have hji : ((i + 1 : Nat) : Int) - 1 = (i : Int) := by omega
      obtain ⟨b, o, x, hA, hx, hcell⟩ := (HR.out.below HB.out).atB (show i < n1 by omega)
      subst hA
      obtain ⟨bt, hbt⟩ : ∃ bt, bt = x.toNat := ⟨_, rfl⟩
      have hbt1 : bt ≤ 1 := by rw [hbt]; have := Bool.toNat_lt x; omega
      have HBV := Lib.hid (show M.bval (es.drop i) = 2 * M.bval (es.drop (i + 1)) + bt by rw [M.drop_pred hx, M.bval_cons, hbt]; omega)
      clear hx
      cases x with
      | false =>
        obtain rfl : bt = 0 := hbt
        go_wp2
        go_loopg [6, 7] p (fun g q v wr => ∃ (k ca : Nat) (zs : List Nat), k ≤ p ∧ g = p - k ∧ q = .int .u8 (ca : Int) ∧ v = .int .i64 (k : Int) ∧ M.Db ds 0 k ca zs ∧ OwK kU8 wr w1.heap.size D p cp (zs ++ ds.drop k) ∧ Below w1.heap.size w1 wr)
        case atStart => exact ⟨0, 0, [], Nat.zero_le _, rfl, rfl, rfl, M.Db.start ds 0 (by omega), by simpa using HO.out, HB.out⟩
        case round =>
          obtain ⟨k, ca, zs, hk, hg2, rfl, rfl, hdb, ho2, hb2⟩ := hrel
          have hca := hdb.ca1
          have HG2 := Lib.hid hg2
          have HDB := Lib.hid hdb
          have HO2 := Lib.hid ho2
          have HB2 := Lib.hid hb2
          clear hg2 hdb ho2 hb2
          by_cases hkp : k < p
          · obtain ⟨y, hy⟩ : ∃ y, ds[k]? = some y := ⟨ds[k]'(by rw [HO.out.len]; exact hkp), List.getElem?_eq_getElem _⟩
            have hyl := HD.out.lim y (List.mem_of_getElem? hy)
            obtain ⟨g, rfl, hg1, hg3⟩ := HO2.out.head (by omega)
            have hyk : (zs ++ ds.drop k)[k]? = some y := by
              rw [List.getElem?_append_right (by rw [HDB.out.len]; exact Nat.le_refl _), HDB.out.len, Nat.sub_self, List.getElem?_drop, Nat.add_zero]
              exact hy
            have cy := HO2.out.cellAt hyk
            have fy := HO2.out.frozenAt k
            simp only [kU8] at cy
            obtain ⟨z, hz⟩ : ∃ z, z = (2 * y + ca) % 10 := ⟨_, rfl⟩
            obtain ⟨ca2, hca2⟩ : ∃ ca2, ca2 = (2 * y + ca) / 10 := ⟨_, rfl⟩
            have hst := HDB.out.step hy hyl
            rw [← hz, ← hca2] at hst
            obtain ⟨ho4, hg4⟩ := HO2.out.set_ k z (show z < 256 by omega)
            have hset : (zs ++ ds.drop k).set k z = zs ++ [z] ++ ds.drop (k + 1) := by
              rw [M.drop_pred hy, List.set_append, if_neg (by rw [HDB.out.len]; omega), HDB.out.len, Nat.sub_self, List.set_cons_zero, List.append_assoc]
              rfl
            rw [hset] at ho4
            have e1 : (2 * (y : Int) + (ca : Int)) % 10 = z := by rw [hz]; omega
            have e2 : (2 * (y : Int) + (ca : Int)) / 10 = ca2 := by rw [hca2]; omega
            have HST := Lib.hid hst
            have HO4 := Lib.hid ho4
            have HB4 := Lib.hid (HB2.out.setCell (p := ⟨g, k, none⟩) hg1 (.int .u8 (z : Int)))
            clear hst ho4 hg4 hset hy hyk hz hca2
            go_wp2
            go_roundg (p - (k + 1))
            case measure => have := HG2.out; omega
            case rel => exact ⟨k + 1, ca2, zs ++ [z], by omega, rfl, by go_num, by go_num, HST.out, HO4.out, HB4.out⟩
          · obtain rfl : k = p := by omega
            have hod := HO2.out
            rw [List.drop_of_length_le (by rw [HO.out.len]; exact Nat.le_refl _), List.append_nil] at hod
            have hdd := HDB.out
            rw [← HO.out.len] at hdd
            have HOD := Lib.hid hod
            have hpl : k ≤ 100000 := by omega
            rcases (show ca = 0 ∨ ca = 1 by omega) with rfl | rfl
            · have hfin := hdd.done0 HD.out
              rw [← HBV.out] at hfin
              have HF := Lib.hid hfin
              clear hod hdd hfin
              go_wp2
              go_roundg i
              case measure => have := HG.out; omega
              case rel => exact ⟨i, k, cp, D, zs, by omega, rfl, by go_num, rfl, HOD.out, by omega, HF.out, HB2.out⟩
            · have hfin := hdd.done1 HD.out
              rw [← HBV.out] at hfin
              have HF := Lib.hid hfin
              clear hod hdd hfin
              go_wp2_with (at_builtin; refine app_own kU8 _ rfl _ _ rfl w1.heap.size D k cp zs rfl (HOD.out.alloc _) _ 1 1 [1] rfl (RdK.one (K := kU8) _ 1 (show 1 < 256 by omega)) (by omega) (by have := HB2.out.size; simp; omega) ?_; intro A5 c5 w5 ho5 hg5; have HO5 := Lib.hid ho5; have HG5 := Lib.hid hg5; clear ho5 hg5)
              go_roundg i
              case measure => have := HG.out; omega
              case rel => exact ⟨i, k + 1, c5, A5, zs ++ [1], by omega, rfl, by go_num, rfl, HO5.out, by omega, HF.out, below_app HB2.out HB2.out.size HOD.out HG5.out⟩
      | true =>
        obtain rfl : bt = 1 := hbt
        go_wp2
        go_loopg [6, 7] p (fun g q v wr => ∃ (k ca : Nat) (zs : List Nat), k ≤ p ∧ g = p - k ∧ q = .int .u8 (ca : Int) ∧ v = .int .i64 (k : Int) ∧ M.Db ds 1 k ca zs ∧ OwK kU8 wr w1.heap.size D p cp (zs ++ ds.drop k) ∧ Below w1.heap.size w1 wr)
        case atStart => exact ⟨0, 1, [], Nat.zero_le _, rfl, rfl, rfl, M.Db.start ds 1 (by omega), by simpa using HO.out, HB.out⟩
        case round =>
          obtain ⟨k, ca, zs, hk, hg2, rfl, rfl, hdb, ho2, hb2⟩ := hrel
          have hca := hdb.ca1
          have HG2 := Lib.hid hg2
          have HDB := Lib.hid hdb
          have HO2 := Lib.hid ho2
          have HB2 := Lib.hid hb2
          clear hg2 hdb ho2 hb2
          by_cases hkp : k < p
          · obtain ⟨y, hy⟩ : ∃ y, ds[k]? = some y := ⟨ds[k]'(by rw [HO.out.len]; exact hkp), List.getElem?_eq_getElem _⟩
            have hyl := HD.out.lim y (List.mem_of_getElem? hy)
            obtain ⟨g, rfl, hg1, hg3⟩ := HO2.out.head (by omega)
            have hyk : (zs ++ ds.drop k)[k]? = some y := by
              rw [List.getElem?_append_right (by rw [HDB.out.len]; exact Nat.le_refl _), HDB.out.len, Nat.sub_self, List.getElem?_drop, Nat.add_zero]
              exact hy
            have cy := HO2.out.cellAt hyk
            have fy := HO2.out.frozenAt k
            simp only [kU8] at cy
            obtain ⟨z, hz⟩ : ∃ z, z = (2 * y + ca) % 10 := ⟨_, rfl⟩
            obtain ⟨ca2, hca2⟩ : ∃ ca2, ca2 = (2 * y + ca) / 10 := ⟨_, rfl⟩
            have hst := HDB.out.step hy hyl
            rw [← hz, ← hca2] at hst
            obtain ⟨ho4, hg4⟩ := HO2.out.set_ k z (show z < 256 by omega)
            have hset : (zs ++ ds.drop k).set k z = zs ++ [z] ++ ds.drop (k + 1) := by
              rw [M.drop_pred hy, List.set_append, if_neg (by rw [HDB.out.len]; omega), HDB.out.len, Nat.sub_self, List.set_cons_zero, List.append_assoc]
              rfl
            rw [hset] at ho4
            have e1 : (2 * (y : Int) + (ca : Int)) % 10 = z := by rw [hz]; omega
            have e2 : (2 * (y : Int) + (ca : Int)) / 10 = ca2 := by rw [hca2]; omega
            have HST := Lib.hid hst
            have HO4 := Lib.hid ho4
            have HB4 := Lib.hid (HB2.out.setCell (p := ⟨g, k, none⟩) hg1 (.int .u8 (z : Int)))
            clear hst ho4 hg4 hset hy hyk hz hca2
            go_wp2
            go_roundg (p - (k + 1))
            case measure => have := HG2.out; omega
            case rel => exact ⟨k + 1, ca2, zs ++ [z], by omega, rfl, by go_num, by go_num, HST.out, HO4.out, HB4.out⟩
          · obtain rfl : k = p := by omega
            have hod := HO2.out
            rw [List.drop_of_length_le (by rw [HO.out.len]; exact Nat.le_refl _), List.append_nil] at hod
            have hdd := HDB.out
            rw [← HO.out.len] at hdd
            have HOD := Lib.hid hod
            have hpl : k ≤ 100000 := by omega
            rcases (show ca = 0 ∨ ca = 1 by omega) with rfl | rfl
            · have hfin := hdd.done0 HD.out
              rw [← HBV.out] at hfin
              have HF := Lib.hid hfin
              clear hod hdd hfin
              go_wp2
              go_roundg i
              case measure => have := HG.out; omega
              case rel => exact ⟨i, k, cp, D, zs, by omega, rfl, by go_num, rfl, HOD.out, by omega, HF.out, HB2.out⟩
            · have hfin := hdd.done1 HD.out
              rw [← HBV.out] at hfin
              have HF := Lib.hid hfin
              clear hod hdd hfin
              go_wp2_with (at_builtin; refine app_own kU8 _ rfl _ _ rfl w1.heap.size D k cp zs rfl (HOD.out.alloc _) _ 1 1 [1] rfl (RdK.one (K := kU8) _ 1 (show 1 < 256 by omega)) (by omega) (by have := HB2.out.size; simp; omega) ?_; intro A5 c5 w5 ho5 hg5; have HO5 := Lib.hid ho5; have HG5 := Lib.hid hg5; clear ho5 hg5)
              go_roundg i
              case measure => have := HG.out; omega
              case rel => exact ⟨i, k + 1, c5, A5, zs ++ [1], by omega, rfl, by go_num, rfl, HO5.out, by omega, HF.out, below_app HB2.out HB2.out.size HOD.out HG5.out⟩

end Go.Proofs.Ythjgonfohjgfaaa
