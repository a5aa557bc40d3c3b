/- nat.short cuts the noughts at a row's high end; nat.limb is a limb, or 0 beyond the row: for every slice of limbs. -/
import Derived.Test.YtbhgbilhoonopaaGreatMB
namespace Go.Proofs.YtbhgbilhoonopaaGreat
open Go.RowKit
set_option linter.unusedVariables false

set_option maxHeartbeats 400000 in
theorem short_any (A : Option Addr) (n c : Nat) (xs : List Nat) (w : World) (h : Rd w A n c xs) (hm : n ≤ 4194304) :
    Calls Tryz.prog 111 #[.slice A n c] w fun e w' => e = .returned (.slice A (M.tr xs).length c) ∧ w = w' := by
  have hc := h.cap
  have H := Lib.hid h
  clear h
  go_enter Tryz.func111, Tryz.ntmps111
  go_wp2
  go_loop [3] (fun i => ∃ k : Nat, k ≤ n ∧ i = .int .i64 k ∧ M.tr (xs.take k) = M.tr xs) (fun i => (intOf i).toNat)
  case atStart => exact ⟨n, Nat.le_refl _, rfl, by rw [List.take_of_length_le (by rw [H.out.len]; exact Nat.le_refl _)]⟩
  case round =>
    obtain ⟨k, hk, rfl, ht⟩ := hrel
    have HT := Lib.hid ht
    clear ht
    by_cases h0 : k = 0
    · subst h0
      go_wp2
      go_ret
      exact ⟨by rw [← HT.out]; rfl, rfl⟩
    · obtain ⟨b, o, x, hA, hx, hxl, hcell⟩ := H.out.at32 (show k - 1 < n by omega)
      subst hA
      have hk1 : 0 < k := by omega
      have HX := Lib.hid hx
      clear hx
      by_cases hx0 : x = 0
      · subst hx0
        go_wp2
        go_round
        case rel => exact ⟨k - 1, by omega, by go_num, by rw [← HT.out, show k = k - 1 + 1 by omega, M.tr_take_succ HX.out, M.tr_snoc_zero]; simp⟩
        case measure => simp [intOf]; omega
      · have hl : (M.tr xs).length = k := by
          rw [← HT.out, show k = k - 1 + 1 by omega, M.tr_take_succ HX.out, M.tr_snoc_pos _ hx0, ← M.tr_take_succ HX.out, List.length_take, H.out.len]
          omega
        have HL := Lib.hid hl
        clear hl
        go_wp2
        go_ret
        exact ⟨ret_slice HL.out.symm, rfl⟩

set_option maxHeartbeats 400000 in
theorem limb_any (A : Option Addr) (n c : Nat) (xs : List Nat) (i : Int) (w : World) (h : Rd w A n c xs) (hm : n ≤ 4194304) (h0 : 0 ≤ i) :
    Calls Tryz.prog 152 #[.slice A n c, .int .i64 i] w fun e w' => e = .returned (.int .u32 (M.limbAt xs i.toNat : Nat)) ∧ w = w' := by
  obtain ⟨k, rfl⟩ := Int.eq_ofNat_of_zero_le h0
  rw [Int.toNat_natCast]
  have H := Lib.hid h
  clear h
  by_cases hk : k < n
  · obtain ⟨b, o, x, hA, hx, hxl, hcell⟩ := H.out.at32 hk
    subst hA
    rw [M.limbAt_some hx]
    clear hx H
    go_enter Tryz.func152, Tryz.ntmps152
    go_wp2
    go_ret
    exact ⟨rfl, rfl⟩
  · rw [M.limbAt_none (by rw [H.out.len]; omega)]
    clear H
    go_enter Tryz.func152, Tryz.ntmps152
    go_wp2
    go_ret
    exact ⟨rfl, rfl⟩

end Go.Proofs.YtbhgbilhoonopaaGreat

/- slices.Clone, nat.Trim, nat.From, nat.Small: for every slice of limbs. -/
namespace Go.Proofs.YtbhgbilhoonopaaGreat
open Go.RowKit
set_option linter.unusedVariables false

set_option maxHeartbeats 400000 in
theorem clone_any (A : Option Addr) (n c : Nat) (xs : List Nat) (w : World) (h : Rd w A n c xs) (hm : n ≤ 4194304) :
    Calls Tryz.prog 149 #[.slice A n c] w (Gives w xs) := by
  have hq := fun (a : Option Addr) (n c : Nat) (w : World) => Lib.run_eql_slice_nil (P := Tryz.prog) w 22 44 a n c 0 0 Tryz.underlying22
  have hl := h.len
  cases A with
  | none =>
    have hn : n = 0 := by have := h.nil rfl; have := h.cap; omega
    subst hn
    have hx : xs = [] := List.eq_nil_of_length_eq_zero hl
    subst hx
    clear h hl
    go_enter Tryz.func149, Tryz.ntmps149
    go_wp2
    go_ret
    exact ⟨none, 0, rfl, OwK.nil_ _ _, Below.refl _ _⟩
  | some ad =>
    have H := Lib.hid h
    have HL := Lib.hid hl
    clear h hl
    go_enter Tryz.func149, Tryz.ntmps149
    go_wp2_with (at_builtin; refine app_own kU32 _ rfl _ _ rfl w.heap.size _ 0 0 [] rfl (OwK.lit0 (Nat.le_refl _)) (some ad) n c xs rfl (H.out.alloc _) ?b1 ?b2 ?_; rotate_right; intro A1 c1 w1 ho1 hg1)
    case b1 => omega
    case b2 => simp
    go_ret
    have e : 0 + n = xs.length := by rw [HL.out]; omega
    rw [e] at ho1
    refine ⟨A1, c1, ret_slice HL.out.symm, ho1, ((Below.refl _ _).alloc (Nat.le_refl _) _).grown hg1 (by simp) (fun k hk => ?_)⟩
    cases hk
    exact Nat.le_refl _

set_option maxHeartbeats 400000 in
theorem trim_any (A : Option Addr) (n c : Nat) (xs : List Nat) (w : World) (h : Rd w A n c xs) (hm : n ≤ 4194304) :
    Calls Tryz.prog 124 #[.slice A n c] w (Gives w (M.lims (M.val xs))) := by
  have hs := M.tr_length_le xs
  rw [h.len] at hs
  rw [← M.tr_eq_lims h.Lim]
  have H := Lib.hid h
  clear h
  go_enter Tryz.func124, Tryz.ntmps124
  go_wp2_with (first
    | (go_at_call 111; refine (short_any _ _ _ xs _ H.out hm).mono ?_; rintro e w' ⟨rfl, rfl⟩)
    | (go_at_call 149; refine (clone_any _ _ _ _ _ H.out.short (by omega)).mono ?_; rintro e w' ⟨A1, c1, rfl, ho1, hb1⟩))
  go_ret
  exact ⟨A1, c1, rfl, ho1, hb1⟩

theorem lims_small (n : Nat) (h : n < 18446744073709551616) : M.lims n = M.tr [n % M.R, n / M.R] := by
  have h1 : n % M.R < M.R := Nat.mod_lt _ M.R_pos
  have h2 : n / M.R < M.R := by rw [M.R_eq]; omega
  have hl : M.Lim [n % M.R, n / M.R] := M.Lim.cons h1 (M.Lim.cons h2 M.Lim.nil)
  rw [M.tr_eq_lims hl]
  simp only [M.val, Nat.mul_zero, Nat.add_zero]
  rw [Nat.mod_add_div]

/-- A new block of two limbs. -/
theorem Rd.two (w : World) (x y : Nat) (hx : x < M.R) (hy : y < M.R) : Own (w.alloc (.cells #[.int .u32 (x : Int), .int .u32 (y : Int)] 44)) w.heap.size (some ⟨w.heap.size, 0, none⟩) 2 2 [x, y] :=
  ⟨World.ownsRow_lit w #[.int .u32 (x : Int), .int .u32 (y : Int)] 2 (Nat.le_refl _) (by unfold maxLen; omega) rfl, M.Lim.cons hx (M.Lim.cons hy M.Lim.nil)⟩

set_option maxHeartbeats 400000 in
theorem from_any (n : Int) (w : World) (h0 : 0 ≤ n) (h1 : n < 18446744073709551616) :
    Calls Tryz.prog 90 #[.int .u64 n] w (Gives w (M.lims n.toNat)) := by
  obtain ⟨m, rfl⟩ := Int.eq_ofNat_of_zero_le h0
  rw [Int.toNat_natCast]
  have hm : m < 18446744073709551616 := by omega
  have hlt1 : m % M.R < M.R := Nat.mod_lt _ M.R_pos
  have hlt2 : m / M.R < M.R := by rw [M.R_eq]; omega
  have ho := Rd.two w _ _ hlt1 hlt2
  rw [lims_small m hm]
  have HO := Lib.hid ho
  have H1 := Lib.hid (show (m : Int) % 4294967296 = ((m % M.R : Nat) : Int) by rw [M.R_eq]; omega)
  have H2 := Lib.hid (show (m : Int) / 4294967296 = ((m / M.R : Nat) : Int) by rw [M.R_eq]; omega)
  clear ho hlt1 hlt2 hm
  go_enter Tryz.func90, Tryz.ntmps90
  go_wp2_with fail
  rw [H1.out, H2.out]
  refine (short_any _ _ _ _ _ HO.out.rd (by omega)).mono ?_
  rintro e w' ⟨rfl, rfl⟩
  go_wp2
  go_ret
  exact ⟨_, _, rfl, HO.out.short, (Below.refl _ _).alloc (Nat.le_refl _) _⟩

set_option maxHeartbeats 400000 in
theorem small_yes (A : Option Addr) (n c : Nat) (xs : List Nat) (w : World) (h : Rd w A n c xs) (hm : n ≤ 4194304) (hv : M.val xs < 18446744073709551616) :
    Calls Tryz.prog 131 #[.slice A n c] w fun e w' => e = .returned (.tuple #[.int .u64 (M.val xs), .bool true]) ∧ w = w' := by
  have hs : (M.tr xs).length ≤ 2 := by
    rw [M.tr_eq_lims h.Lim, M.lims_length_le]
    exact hv
  have hx0 := M.limbAt_lt h.Lim 0
  have hx1 := M.limbAt_lt h.Lim 1
  rw [M.val_two hs]
  rw [M.R_eq] at hx0 hx1 ⊢
  have H := Lib.hid h
  clear h hv
  go_enter Tryz.func131, Tryz.ntmps131
  go_wp2_with fail
  refine (short_any _ _ _ _ _ H.out hm).mono ?_
  rintro e w' ⟨rfl, rfl⟩
  go_wp2_with fail
  refine (limb_any _ _ _ _ _ _ H.out hm (by omega)).mono ?_
  rintro e w' ⟨rfl, rfl⟩
  go_wp2_with fail
  refine (limb_any _ _ _ _ _ _ H.out hm (by omega)).mono ?_
  rintro e w' ⟨rfl, rfl⟩
  go_wp2_with fail
  go_ret2
  exact ⟨ret_eq (by rw [← or_lo_hi _ _ hx0 hx1]; rfl), rfl⟩

set_option maxHeartbeats 400000 in
theorem small_no (A : Option Addr) (n c : Nat) (xs : List Nat) (w : World) (h : Rd w A n c xs) (hm : n ≤ 4194304) (hv : ¬ M.val xs < 18446744073709551616) :
    Calls Tryz.prog 131 #[.slice A n c] w fun e w' => e = .returned (.tuple #[.int .u64 0, .bool false]) ∧ w = w' := by
  have hs : 2 < (M.tr xs).length := by
    rw [M.tr_eq_lims h.Lim]
    refine Nat.lt_of_not_le fun hc => hv (M.lims_length_le.1 hc)
  have H := Lib.hid h
  clear h hv
  go_enter Tryz.func131, Tryz.ntmps131
  go_wp2_with fail
  refine (short_any _ _ _ _ _ H.out hm).mono ?_
  rintro e w' ⟨rfl, rfl⟩
  go_wp2_with fail
  go_ret2
  exact ⟨rfl, rfl⟩

end Go.Proofs.YtbhgbilhoonopaaGreat

/- litmusref01.Same, same, few, sub2: for every slice of limbs. -/
namespace Go.Proofs.YtbhgbilhoonopaaGreat
open Go.RowKit
set_option linter.unusedVariables false

theorem take_snoc_eq {α : Type} {xs ys : List α} {k : Nat} {x y : α} (h : xs.take k = ys.take k) (hx : xs[k]? = some x) (hy : ys[k]? = some y) (e : x = y) : xs.take (k + 1) = ys.take (k + 1) := by
  rw [List.take_add_one, List.take_add_one, h, hx, hy, e]

theorem below_drewN {B : Nat} {a w : World} (h : Below B a w) (n : Nat) : Below B a (w.drewN n) := ⟨h.os, h.tape, h.output, h.size, h.block⟩

set_option maxHeartbeats 1000000 in
theorem Same_any (A : Option Addr) (n c : Nat) (xs : List Nat) (B : Option Addr) (m d : Nat) (ys : List Nat) (w : World) (h : Rd w A n c xs) (k : Rd w B m d ys) (hm : n ≤ 4194304) (hm' : m ≤ 4194304) :
    Calls Tryz.prog 73 #[.slice A n c, .slice B m d] w fun e w' => e = .returned (.bool (decide (xs = ys))) ∧ Below w.heap.size w w' := by
  have H := Lib.hid h
  have K := Lib.hid k
  clear h k
  by_cases hnm : n = m
  · have hne : (((n : Nat) : Int) != (m : Int)) = false := by simp [hnm]
    subst hnm
    go_enter Tryz.func73, Tryz.ntmps73
    go_wp2
    go_loopw [5] (fun i wr => ∃ k : Nat, k ≤ n ∧ i = .int .i64 k ∧ xs.take k = ys.take k ∧ Below w.heap.size w wr) (fun i _ => n - (intOf i).toNat)
    case atStart => exact ⟨0, Nat.zero_le _, rfl, rfl, Below.refl _ _⟩
    case round =>
      obtain ⟨k, hk, rfl, ht, hb⟩ := hrel
      have HT := Lib.hid ht
      have HB := Lib.hid hb
      clear ht hb
      by_cases hkn : k < n
      · obtain ⟨b, o, x, hA, hx, hxl, hcell⟩ := (H.out.below HB.out).at32 hkn
        obtain ⟨b', o', y, hA', hy, hyl, hcell'⟩ := (K.out.below HB.out).at32 hkn
        subst hA hA'
        have HX := Lib.hid hx
        have HY := Lib.hid hy
        clear hx hy
        by_cases hxy : x = y
        · have hne2 : ((x : Int) != (y : Int)) = false := by simp [hxy]
          go_wp2
          go_quiet (fail)
          go_wp2
          go_roundw
          case rel => exact ⟨k + 1, by omega, by go_num, take_snoc_eq HT.out HX.out HY.out hxy, below_drewN HB.out _⟩
          case measure => simp [intOf]; omega
        · have hne2 : ((x : Int) != (y : Int)) = true := by simp; omega
          go_wp2
          go_quiet (fail)
          go_wp2
          go_ret
          refine ⟨ret_bool ?_, below_drewN HB.out _⟩
          symm
          rw [decide_eq_false_iff_not]
          intro e
          rw [e, HY.out] at HX
          exact hxy (Option.some.inj HX.out).symm
      · go_wp2
        go_ret
        refine ⟨ret_bool ?_, HB.out⟩
        symm
        rw [decide_eq_true_iff]
        have h1 := HT.out
        rw [List.take_of_length_le (by rw [H.out.len]; omega), List.take_of_length_le (by rw [K.out.len]; omega)] at h1
        exact h1
  · have hne : (((n : Nat) : Int) != (m : Int)) = true := by simp; omega
    go_enter Tryz.func73, Tryz.ntmps73
    go_wp2
    go_ret
    refine ⟨ret_bool ?_, Below.refl _ _⟩
    symm
    rw [decide_eq_false_iff_not]
    intro e
    have := H.out.len
    have := K.out.len
    rw [e] at *
    omega

end Go.Proofs.YtbhgbilhoonopaaGreat

/- nat.sum adds rows by columns: for one to three rows of limbs; nat.Add. -/
namespace Go.Proofs.YtbhgbilhoonopaaGreat
open Go.RowKit
set_option linter.unusedVariables false

/-- A slice of limbs, with what it reads as. -/
structure Sl where
  A : Option Addr
  n : Nat
  c : Nat
  xs : List Nat
def Sl.Rd (w : World) (s : Sl) : Prop := RdK kU32 w s.A s.n s.c s.xs

/-- A slice of slices of limbs. -/
structure Rws (w : World) (b : Nat) (rs : List Sl) : Prop where
  cells : ∀ (i : Nat) (s : Sl), rs[i]? = some s → w.cell? ⟨b, i, none⟩ = some (.slice s.A s.n s.c)
  rd : ∀ s ∈ rs, s.Rd w
  few : ∀ s ∈ rs, s.n ≤ 1048576
  lt : b < w.heap.size

def xss (rs : List Sl) : List (List Nat) := rs.map Sl.xs

theorem Rws.below {w w' : World} {b : Nat} {rs : List Sl} (h : Rws w b rs) (hb : Below w.heap.size w w') : Rws w' b rs :=
  ⟨fun i s hs => (hb.cell (p := ⟨b, i, none⟩) h.lt).trans (h.cells i s hs), fun s hs => RdK.below (h.rd s hs) hb, h.few, by have := hb.size; have := h.lt; omega⟩

theorem Rws.limAll {w : World} {b : Nat} {rs : List Sl} (h : Rws w b rs) : ∀ r ∈ xss rs, M.Lim r := by
  intro r hr
  obtain ⟨s, hs, rfl⟩ := List.mem_map.1 hr
  exact (h.rd s hs).lim

set_option maxHeartbeats 2000000 in
theorem sum_any (b : Nat) (rs : List Sl) (cnt : Nat) (w : World) (h : Rws w b rs) (hn : rs.length = cnt) (h1 : 1 ≤ cnt) (h3 : cnt ≤ 3) :
    Calls Tryz.prog 142 #[.slice (some ⟨b, 0, none⟩) cnt cnt] w (Gives w (M.lims (M.vals (xss rs)))) := by
  have H := Lib.hid h
  have HN := Lib.hid hn
  clear h hn
  go_enter Tryz.func142, Tryz.ntmps142
  go_wp2
  go_loop [3, 13] (fun l i => ∃ k m : Nat, k ≤ cnt ∧ i = .int .i64 k ∧ l = .int .i64 m ∧ m ≤ 1048576 ∧ ∀ s ∈ rs.take k, s.n ≤ m) (fun _ i => cnt - (intOf i).toNat)
  case atStart => exact ⟨0, 0, Nat.zero_le _, rfl, rfl, by omega, by simp⟩
  case round =>
    obtain ⟨k, m, hk, rfl, rfl, hm, hall⟩ := hrel
    have HA := Lib.hid hall
    clear hall
    by_cases hkc : k < cnt
    · obtain ⟨s, hs⟩ : ∃ s, rs[k]? = some s := ⟨_, List.getElem?_eq_getElem (by rw [HN.out]; exact hkc)⟩
      have hcell := H.out.cells k s hs
      have hsn := H.out.few s (List.mem_of_getElem? hs)
      have HS := Lib.hid hs
      clear hs
      have key : ∀ m', m ≤ m' → s.n ≤ m' → ∀ s' ∈ rs.take (k + 1), s'.n ≤ m' := by
        intro m' h1 h2 s' hs'
        rw [List.take_add_one, HS.out] at hs'
        rcases List.mem_append.1 hs' with h | h
        · exact Nat.le_trans (HA.out s' h) h1
        · simp at h; subst h; exact h2
      have HK := Lib.hid key
      clear key
      obtain ⟨sA, sn, sc, sxs⟩ := s
      dsimp only at hcell hsn HK
      by_cases hms : (m : Int) < sn
      · go_wp2
        go_round
        case rel => exact ⟨k + 1, sn, by omega, by go_num, rfl, by omega, HK.out _ (by omega) (by omega)⟩
        case measure => simp [intOf]; omega
      · go_wp2
        all_goals
          go_round
          case rel => exact ⟨k + 1, m, by omega, by go_num, by go_num, by omega, HK.out _ (by omega) (by omega)⟩
          case measure => simp [intOf]; omega
    · have hall : ∀ r ∈ xss rs, r.length ≤ m := by
        intro r hr
        obtain ⟨s, hs, rfl⟩ := List.mem_map.1 hr
        have := HA.out s (by rw [List.take_of_length_le (by rw [HN.out]; omega)]; exact hs)
        rw [(H.out.rd s hs).len]
        exact this
      have HAll := Lib.hid hall
      clear hall HA
      go_wp2_with (at_make; refine make_own kU32 _ rfl _ _ rfl .i64 .i64 _ (m + 1) rfl rfl (by omega) (by omega) ?_; intro w1 ho1 hb1; have HO1 := Lib.hid ho1; have HB1 := Lib.hid hb1; clear ho1 hb1)
      go_loopw [6, 7, 26] (fun v q i wr => ∃ (k cy cp : Nat) (A : Option Addr) (ds : List Nat), k ≤ m ∧ i = .int .i64 k ∧ q = .int .u64 cy ∧ cy < cnt ∧ v = .slice A k cp ∧ Own wr w.heap.size A k cp ds ∧
          M.val ds + M.R ^ k * cy = M.tot (xss rs) k ∧ Below w.heap.size w wr) (fun _ _ i _ => m - (intOf i).toNat)
      case atStart => exact ⟨0, 0, m + 1, some ⟨w.heap.size, 0, none⟩, [], Nat.zero_le _, rfl, rfl, by omega, rfl, HO1.out, by rw [M.tot_zero]; rfl, HB1.out⟩
      case round =>
        obtain ⟨k, cy, cp, A, ds, hk, rfl, rfl, hcy, rfl, ho, hv, hb⟩ := hrel
        have HO := Lib.hid ho
        have HV := Lib.hid hv
        have HB := Lib.hid hb
        clear ho hv hb
        have HR := Lib.hid (H.out.below HB.out)
        by_cases hkm : k < m
        · go_wp2
          go_loop [7, 31] (fun q i => ∃ j c' : Nat, j ≤ cnt ∧ i = .int .i64 j ∧ q = .int .u64 c' ∧ c' = cy + M.col (xss (rs.take j)) k) (fun _ i => cnt - (intOf i).toNat)
          case atStart => exact ⟨0, cy, Nat.zero_le _, rfl, rfl, by simp [xss, M.col]⟩
          case round =>
            obtain ⟨j, c', hj, rfl, rfl, hc'⟩ := hrel
            have HC := Lib.hid hc'
            clear hc'
            by_cases hjc : j < cnt
            · obtain ⟨s, hs⟩ : ∃ s, rs[j]? = some s := ⟨_, List.getElem?_eq_getElem (by rw [HN.out]; exact hjc)⟩
              have hcell := HR.out.cells j s hs
              have hsn := HR.out.few s (List.mem_of_getElem? hs)
              have hrd := HR.out.rd s (List.mem_of_getElem? hs)
              have hst : M.col (xss (rs.take (j + 1))) k = M.col (xss (rs.take j)) k + M.limbAt s.xs k := by
                unfold xss
                rw [List.map_take, List.map_take]
                exact M.col_take_succ (by rw [List.getElem?_map, hs]; rfl) k
              have hlim := M.limbAt_lt (RdK.Lim hrd) k
              have hle : M.col (xss (rs.take j)) k + j ≤ j * M.R := by
                have h0 := M.col_le (rs := xss (rs.take j)) (fun r hr => by
                  obtain ⟨s', hs', rfl⟩ := List.mem_map.1 hr
                  exact RdK.Lim (HR.out.rd s' (List.mem_of_mem_take hs'))) k
                have h1 : (xss (rs.take j)).length = j := by unfold xss; rw [List.length_map, List.length_take, HN.out]; omega
                rw [h1] at h0
                exact h0
              have hjR : j * M.R ≤ 3 * M.R := Nat.mul_le_mul_right _ (by omega)
              rw [M.R_eq] at hlim hle hjR
              have hc'b : c' ≤ 12884901900 := by rw [HC.out]; omega
              have HRd := Lib.hid hrd
              have HST := Lib.hid hst
              clear hs hrd hst hle hjR
              obtain ⟨sA, sn, sc, sxs⟩ := s
              dsimp only at hcell hsn HST hlim
              go_wp2_with (go_at_call 152; refine (limb_any _ _ _ sxs _ _ HRd.out (Nat.le_trans hsn (by omega)) (by omega)).mono ?_; rintro e w' ⟨rfl, rfl⟩)
              go_round
              case rel => exact ⟨j + 1, c' + M.limbAt sxs k, by omega, by go_num, by go_num, by rw [HC.out, HST.out]; omega⟩
              case measure => simp [intOf]; omega
            · have hjc' : j = cnt := by omega
              have hc2 : c' = cy + M.col (xss rs) k := by
                rw [HC.out, hjc', List.take_of_length_le (by rw [HN.out]; exact Nat.le_refl _)]
              have hlen : (xss rs).length = cnt := by unfold xss; rw [List.length_map, HN.out]
              have hcq := M.sum_carry HR.out.limAll (i := k) (c := cy) (by rw [hlen]; exact hcy)
              have hstep := M.sum_step HO.out.len HV.out
              have hcle := M.col_le HR.out.limAll k
              rw [hlen] at hcle
              have hcR : cnt * M.R ≤ 3 * M.R := Nat.mul_le_mul_right _ h3
              rw [← hc2] at hcq hstep
              have hcb : c' ≤ 12884901900 := by rw [M.R_eq] at hcle hcR; omega
              have hd : c' % M.R < M.R := Nat.mod_lt _ M.R_pos
              rw [hlen] at hcq
              have HST := Lib.hid hstep
              have HCQ := Lib.hid hcq
              have HD := Lib.hid hd
              clear hc2 hstep hcq hcle hcR hlen HC hjc' hd
              obtain ⟨d, hd⟩ : ∃ d : Nat, d = c' % M.R := ⟨_, rfl⟩
              obtain ⟨q, hq⟩ : ∃ q : Nat, q = c' / M.R := ⟨_, rfl⟩
              rw [← hd, ← hq] at HST
              rw [← hd] at HD
              rw [← hq] at HCQ
              have hd2 : (c' : Int) % 4294967296 = d := by rw [hd, M.R_eq]; omega
              have hq2 : (c' : Int) / 4294967296 = q := by rw [hq, M.R_eq]; omega
              have HMK : k + 1 ≤ 8388608 := by omega
              clear hd hq
              go_wp2_with (at_builtin; refine app_own kU32 _ rfl _ _ rfl w.heap.size A k cp ds rfl (HO.out.alloc _) _ 1 1 [d] rfl (RdK.one _ d HD.out) HMK (by have := HB.out.size; simp; omega) ?_; intro A2 c2 w2 ho2 hg2; have HO2 := Lib.hid ho2; have HG2 := Lib.hid hg2; clear ho2 hg2)
              go_roundw
              case rel => exact ⟨k + 1, q, c2, A2, ds ++ [d], by omega, by go_num, by go_num, HCQ.out, rfl, HO2.out, HST.out, below_app HB.out HB.out.size HO.out HG2.out⟩
              case measure => simp [intOf]; omega
        · obtain rfl : k = m := by omega
          have hcyR : cy < M.R := by rw [M.R_eq]; omega
          have hmod : (cy : Int) % 4294967296 = cy := by omega
          have hval : M.vals (xss rs) = M.val (ds ++ [cy]) := by
            rw [← M.tot_all HAll.out, ← HV.out, M.val_append, HO.out.len]
            simp [M.val]
          have HVAL := Lib.hid hval
          have HCY := Lib.hid hcyR
          clear hval hcyR
          go_wp2_with (first
            | (at_builtin; refine app_own kU32 _ rfl _ _ rfl w.heap.size A k cp ds rfl (HO.out.alloc _) _ 1 1 [cy] rfl (RdK.one _ cy HCY.out) (by omega) (by have := HB.out.size; simp; omega) ?_; intro A2 c2 w2 ho2 hg2; have HO2 := Lib.hid ho2; have HG2 := Lib.hid hg2; clear ho2 hg2)
            | (go_at_call 111; refine (short_any _ _ _ _ _ HO2.out.rd (by omega)).mono ?_; rintro e w' ⟨rfl, rfl⟩))
          go_ret
          have hs := HO2.out.short
          rw [M.tr_eq_lims HO2.out.Lim, ← HVAL.out] at hs
          refine ⟨A2, c2, ?_, hs, below_app HB.out HB.out.size HO.out HG2.out⟩
          rw [HVAL.out, ← M.tr_eq_lims HO2.out.Lim]
          rfl

set_option maxHeartbeats 400000 in
theorem add_any (A : Option Addr) (n c : Nat) (xs : List Nat) (B : Option Addr) (m d : Nat) (ys : List Nat) (w : World) (h : Rd w A n c xs) (k : Rd w B m d ys) (hm : n ≤ 1048576) (hm' : m ≤ 1048576) :
    Calls Tryz.prog 118 #[.slice A n c, .slice B m d] w (Gives w (M.lims (M.val xs + M.val ys))) := by
  have e : M.val xs + M.val ys = M.vals (xss [⟨A, n, c, xs⟩, ⟨B, m, d, ys⟩]) := by simp [M.vals, xss]
  rw [e]
  have hw : Rws (w.alloc (.cells #[.slice A n c, .slice B m d] 22)) w.heap.size [⟨A, n, c, xs⟩, ⟨B, m, d, ys⟩] := by
    refine ⟨fun i s hs => ?_, fun s hs => ?_, fun s hs => ?_, by simp⟩
    · rw [cell_of_row _ _ _ #[.slice A n c, .slice B m d] 22 (0, 0) (heap_alloc_new w _)]
      match i, hs with
      | 0, hs => simp at hs; subst hs; rfl
      | 1, hs => simp at hs; subst hs; rfl
    · simp at hs
      rcases hs with rfl | rfl
      · exact h.alloc _
      · exact k.alloc _
    · simp at hs
      rcases hs with rfl | rfl
      · exact hm
      · exact hm'
  have HW := Lib.hid hw
  clear hw h k e
  go_enter Tryz.func118, Tryz.ntmps118
  go_wp2_with fail
  refine (sum_any _ _ 2 _ HW.out rfl (by omega) (by omega)).mono ?_
  rintro e w1 ⟨A1, c1, rfl, ho1, hb1⟩
  go_wp2
  go_ret
  exact ⟨A1, c1, rfl, ho1.mono (by simp), ((Below.refl _ _).alloc (Nat.le_refl _) _).trans (hb1.mono (by simp))⟩

end Go.Proofs.YtbhgbilhoonopaaGreat
