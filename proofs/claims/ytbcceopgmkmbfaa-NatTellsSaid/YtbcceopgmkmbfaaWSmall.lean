/- slices.Clone, nat.Trim, nat.From, nat.Small: for every slice of limbs. -/
import Derived.Test.YtbcceopgmkmbfaaWShort
namespace Go.Proofs.Ytbcceopgmkmbfaa
open Go.RowKit
set_option linter.unusedVariables false

set_option maxHeartbeats 400000 in
theorem clone_any (A : Option Addr) (n c : Nat) (xs : List Nat) (w : World) (h : Rd w A n c xs) (hm : n ≤ 4194304) :
    Calls Try.prog 46 #[.slice A n c] w (Gives w xs) := by
  have hq := fun (a : Option Addr) (n c : Nat) (w : World) => Lib.run_eql_slice_nil (P := Try.prog) w 22 40 a n c 0 0 Try.underlying22
  have hl := h.len
  cases A with
  | none =>
    have hn : n = 0 := by have := h.nil rfl; have := h.cap; omega
    subst hn
    have hx : xs = [] := List.eq_nil_of_length_eq_zero hl
    subst hx
    clear h hl
    go_enter Try.func46, Try.ntmps46
    go_wp2
    go_ret
    exact ⟨none, 0, rfl, OwK.nil_ _ _, Below.refl _ _⟩
  | some ad =>
    have H := Lib.hid h
    have HL := Lib.hid hl
    clear h hl
    go_enter Try.func46, Try.ntmps46
    go_wp2_with (at_builtin; refine app_own kU32 _ rfl _ _ rfl w.heap.size _ 0 0 [] rfl (OwK.lit0 (Nat.le_refl _)) (some ad) n c xs rfl (H.out.alloc _) ?b1 ?b2 ?_; rotate_right; intro A1 c1 w1 ho1 hg1)
    case b1 => omega
    case b2 => simp
    go_ret
    have e : 0 + n = xs.length := by rw [HL.out]; omega
    rw [e] at ho1
    refine ⟨A1, c1, ret_slice HL.out.symm, ho1, ((Below.refl _ _).alloc (Nat.le_refl _) _).grown hg1 (by simp) (fun k hk => ?_)⟩
    cases hk
    exact Nat.le_refl _

set_option maxHeartbeats 400000 in
theorem trim_any (A : Option Addr) (n c : Nat) (xs : List Nat) (w : World) (h : Rd w A n c xs) (hm : n ≤ 4194304) :
    Calls Try.prog 20 #[.slice A n c] w (Gives w (M.lims (M.val xs))) := by
  have hs := M.tr_length_le xs
  rw [h.len] at hs
  rw [← M.tr_eq_lims h.Lim]
  have H := Lib.hid h
  clear h
  go_enter Try.func20, Try.ntmps20
  go_wp2_with (first
    | (go_at_call 41; refine (short_any _ _ _ xs _ H.out hm).mono ?_; rintro e w' ⟨rfl, rfl⟩)
    | (go_at_call 46; refine (clone_any _ _ _ _ _ H.out.short (by omega)).mono ?_; rintro e w' ⟨A1, c1, rfl, ho1, hb1⟩))
  go_ret
  exact ⟨A1, c1, rfl, ho1, hb1⟩

theorem lims_small (n : Nat) (h : n < 18446744073709551616) : M.lims n = M.tr [n % M.R, n / M.R] := by
  have h1 : n % M.R < M.R := Nat.mod_lt _ M.R_pos
  have h2 : n / M.R < M.R := by rw [M.R_eq]; omega
  have hl : M.Lim [n % M.R, n / M.R] := M.Lim.cons h1 (M.Lim.cons h2 M.Lim.nil)
  rw [M.tr_eq_lims hl]
  simp only [M.val, Nat.mul_zero, Nat.add_zero]
  rw [Nat.mod_add_div]

/-- A new block of two limbs. -/
theorem Rd.two (w : World) (x y : Nat) (hx : x < M.R) (hy : y < M.R) : Own (w.alloc (.cells #[.int .u32 (x : Int), .int .u32 (y : Int)] 40)) w.heap.size (some ⟨w.heap.size, 0, none⟩) 2 2 [x, y] :=
  ⟨World.ownsRow_lit w #[.int .u32 (x : Int), .int .u32 (y : Int)] 2 (Nat.le_refl _) (by unfold maxLen; omega) rfl, M.Lim.cons hx (M.Lim.cons hy M.Lim.nil)⟩

set_option maxHeartbeats 400000 in
theorem from_any (n : Int) (w : World) (h0 : 0 ≤ n) (h1 : n < 18446744073709551616) :
    Calls Try.prog 38 #[.int .u64 n] w (Gives w (M.lims n.toNat)) := by
  obtain ⟨m, rfl⟩ := Int.eq_ofNat_of_zero_le h0
  rw [Int.toNat_natCast]
  have hm : m < 18446744073709551616 := by omega
  have hlt1 : m % M.R < M.R := Nat.mod_lt _ M.R_pos
  have hlt2 : m / M.R < M.R := by rw [M.R_eq]; omega
  have ho := Rd.two w _ _ hlt1 hlt2
  rw [lims_small m hm]
  have HO := Lib.hid ho
  have H1 := Lib.hid (show (m : Int) % 4294967296 = ((m % M.R : Nat) : Int) by rw [M.R_eq]; omega)
  have H2 := Lib.hid (show (m : Int) / 4294967296 = ((m / M.R : Nat) : Int) by rw [M.R_eq]; omega)
  clear ho hlt1 hlt2 hm
  go_enter Try.func38, Try.ntmps38
  go_wp2_with fail
  rw [H1.out, H2.out]
  refine (short_any _ _ _ _ _ HO.out.rd (by omega)).mono ?_
  rintro e w' ⟨rfl, rfl⟩
  go_wp2
  go_ret
  exact ⟨_, _, rfl, HO.out.short, (Below.refl _ _).alloc (Nat.le_refl _) _⟩

set_option maxHeartbeats 400000 in
theorem small_yes (A : Option Addr) (n c : Nat) (xs : List Nat) (w : World) (h : Rd w A n c xs) (hm : n ≤ 4194304) (hv : M.val xs < 18446744073709551616) :
    Calls Try.prog 37 #[.slice A n c] w fun e w' => e = .returned (.tuple #[.int .u64 (M.val xs), .bool true]) ∧ w = w' := by
  have hs : (M.tr xs).length ≤ 2 := by
    rw [M.tr_eq_lims h.Lim, M.lims_length_le]
    exact hv
  have hx0 := M.limbAt_lt h.Lim 0
  have hx1 := M.limbAt_lt h.Lim 1
  rw [M.val_two hs]
  rw [M.R_eq] at hx0 hx1 ⊢
  have H := Lib.hid h
  clear h hv
  go_enter Try.func37, Try.ntmps37
  go_wp2_with fail
  refine (short_any _ _ _ _ _ H.out hm).mono ?_
  rintro e w' ⟨rfl, rfl⟩
  go_wp2_with fail
  refine (limb_any _ _ _ _ _ _ H.out hm (by omega)).mono ?_
  rintro e w' ⟨rfl, rfl⟩
  go_wp2_with fail
  refine (limb_any _ _ _ _ _ _ H.out hm (by omega)).mono ?_
  rintro e w' ⟨rfl, rfl⟩
  go_wp2_with fail
  go_ret2
  exact ⟨ret_eq (by rw [← or_lo_hi _ _ hx0 hx1]; rfl), rfl⟩

set_option maxHeartbeats 400000 in
theorem small_no (A : Option Addr) (n c : Nat) (xs : List Nat) (w : World) (h : Rd w A n c xs) (hm : n ≤ 4194304) (hv : ¬ M.val xs < 18446744073709551616) :
    Calls Try.prog 37 #[.slice A n c] w fun e w' => e = .returned (.tuple #[.int .u64 0, .bool false]) ∧ w = w' := by
  have hs : 2 < (M.tr xs).length := by
    rw [M.tr_eq_lims h.Lim]
    refine Nat.lt_of_not_le fun hc => hv (M.lims_length_le.1 hc)
  have H := Lib.hid h
  clear h hv
  go_enter Try.func37, Try.ntmps37
  go_wp2_with fail
  refine (short_any _ _ _ _ _ H.out hm).mono ?_
  rintro e w' ⟨rfl, rfl⟩
  go_wp2_with fail
  go_ret2
  exact ⟨rfl, rfl⟩

end Go.Proofs.Ytbcceopgmkmbfaa
