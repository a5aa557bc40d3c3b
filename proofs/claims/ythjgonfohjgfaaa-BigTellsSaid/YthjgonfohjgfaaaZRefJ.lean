/- litmusref02's Small: of numbers of 24 limbs at most. -/
import Derived.Test.YthjgonfohjgfaaaZRefI
namespace Go.Proofs.Ythjgonfohjgfaaa
open Go.RowKit
set_option linter.unusedVariables false
set_option maxRecDepth 100000

section
variable {w w' : World} {v v' : Value} {s t : Bool} {A B : Option Addr} {n c m d x y k j : Nat} {za : Int}
set_option maxHeartbeats 2000000

theorem w64_eq (a : Int) : wrap64 a = IntKind.i64.wrap a := by
  rw [IntKind.wrap_i64]
  unfold wrap64
  omega
theorem or_i64 (V x : Nat) (hV : V < 4294967296) (hx : x < 4294967296) : bits .or .i64 (IntKind.i64.wrap ((V : Int) * 4294967296)) (x : Int) = IntKind.i64.wrap ((x + 4294967296 * V : Nat) : Int) := by
  show IntKind.i64.wrap ((BitVec.ofInt 64 (IntKind.i64.wrap ((V : Int) * 4294967296)) ||| BitVec.ofInt 64 (x : Int)).toNat : Int) = _
  have h2 : (BitVec.ofInt 64 (x : Int)).toNat = x := by
    rw [BitVec.ofInt_natCast, BitVec.toNat_ofNat]; exact Nat.mod_eq_of_lt (by omega)
  have h3 : (BitVec.ofInt 64 (IntKind.i64.wrap ((V : Int) * 4294967296))).toNat = V * 4294967296 := by
    rw [BitVec.toNat_ofInt, IntKind.wrap_i64]
    omega
  rw [BitVec.toNat_or, h2, h3]
  have h := Nat.two_pow_add_eq_or_of_lt (i := 32) (b := x) (by omega) V
  have h5 : (2 : Nat) ^ 32 = 4294967296 := rfl
  rw [h5] at h
  rw [Nat.mul_comm V, ← h, Nat.add_comm]

theorem cRefSmall_lo (h : IsM w v za 24) (hz : za < -9223372036854775808) : Calls Try.prog 25 #[v] w (Ans w fun _ v => v = .tuple #[.int .i64 (smI za), .bool (smB za)]) := by
  obtain ⟨s, A, n, c, rfl, Z⟩ := h
  have XA : IsM (w.alloc (.cells #[.bool s, .slice A n c] 32)) (.agg #[.bool s, .slice A n c]) za 24 := ⟨_, _, _, _, rfl, Z.alloc _⟩
  have PA := Bz.new w s A n c
  have BB := bl_alloc w (.cells #[.bool s, .slice A n c] 32)
  clear Z
  have HI := Lib.hid (smI_no (z := za) (.inl hz))
  have HS := Lib.hid (smB_no (z := za) (.inl hz))
  have HC := Lib.hid (cmpI_lt hz)
  go_enter Try.func25, Try.ntmps25
  go_wp2_with fail
  refine wp_region_list (Ext := RB) (Rel := RBu) [fun v _ w => IsM w v (za) 24, fun v _ w => IsT w v ((-9223372036854775808)) 2, fun v _ _ => v = .int .i64 (-1), fun v _ _ => v = .bool true, fun v _ _ => v = .bool true, fun v _ _ => v = undef, fun v _ _ => v = undef, fun v _ _ => v = undef, fun v _ _ => v = undef, fun v _ _ => v = Value.bool true] (n := 10) (by kernel_rfl) rfl (by kernel_rfl) (by kernel_rfl) (by kernel_rfl) (by kernel_rfl) (by kernel_rfl) rb_refl rb_trans ⟨sM, ⟨sT, ⟨sC, ⟨sC, ⟨sC, ⟨sC, ⟨sC, ⟨sC, ⟨sC, ⟨sC, trivial⟩⟩⟩⟩⟩⟩⟩⟩⟩⟩ ?_ ?_
  · refine ⟨⟨⟨⟨⟨⟨⟨⟨⟨⟨trivial, ?_⟩, ?_⟩, ?_⟩, ?_⟩, ?_⟩, ?_⟩, ?_⟩, ?_⟩, ?_⟩, ?_⟩
    · refine rs_plain rfl rfl fun a wr S => ?_
      have X := undrew S.ext
      exact wp_load (ev_of ((S.old 1 (by kernel_rfl)).trans rfl)) (PA.below X) (done (by kernel_rfl) rbu_refl (XA.below X))
    · refine rs_plain rfl rfl fun a wr S => ?_
      have X := undrew S.ext
      exact st_call cf_ref02_From (args1 rfl) (by kernel_rfl) rb (cRefFrom _ (by omega) (by omega)) (fun _ _ _ h => h)
    · refine rs_plain rfl rfl fun a wr S => ?_
      have X := undrew S.ext
      obtain ⟨v0, e0, h0⟩ := S.got 0 (by kernel_rfl)
      obtain ⟨v1, e1, h1⟩ := S.got 1 (by kernel_rfl)
      exact st_call cf_ref02_Cmp (args2 (ev_of (e0 7 (by kernel_rfl))) (ev_of (e1 8 (by kernel_rfl)))) (by kernel_rfl) rb (cRefCmp h0 h1.m (by omega) (by omega) HC.out) (fun _ _ _ h => h)
    · refine rs_plain rfl rfl fun a wr S => ?_
      have X := undrew S.ext
      obtain ⟨v2, e2, h2⟩ := S.got 2 (by kernel_rfl)
      exact wp_ltI ((ev_of (e2 9 (by kernel_rfl))).trans h2) rfl (done (by kernel_rfl) rbu_refl (congrArg Value.bool (by decide)))
    · refine rs_plain rfl rfl fun a wr S => ?_
      have X := undrew S.ext
      obtain ⟨v3, e3, h3⟩ := S.got 3 (by kernel_rfl)
      exact wp_mv ((ev_of (e3 10 (by kernel_rfl))).trans h3) (done (by kernel_rfl) rbu_refl rfl)
    · exact rs_no rfl rfl (by kernel_rfl) (by kernel_rfl : _ = some 11) (fun _ _ _ h => h) (by kernel_rfl) rbu_refl (fun _ _ => rfl)
    · exact rs_no rfl rfl (by kernel_rfl) (by kernel_rfl : _ = some 11) (fun _ _ _ h => h) (by kernel_rfl) rbu_refl (fun _ _ => rfl)
    · exact rs_no rfl rfl (by kernel_rfl) (by kernel_rfl : _ = some 11) (fun _ _ _ h => h) (by kernel_rfl) rbu_refl (fun _ _ => rfl)
    · exact rs_no rfl rfl (by kernel_rfl) (by kernel_rfl : _ = some 11) (fun _ _ _ h => h) (by kernel_rfl) rbu_refl (fun _ _ => rfl)
    · refine rs_plain rfl rfl fun a wr S => ?_
      have X := undrew S.ext
      obtain ⟨v4, e4, h4⟩ := S.got 4 (by kernel_rfl)
      exact wp_pickT ((ev_of (e4 11 (by kernel_rfl))).trans h4) rfl (done (by kernel_rfl) rbu_refl rfl)
  · intro fr w1 hR hv
    replace hR := undrew hR
    have f2 : fr 2 = .int .i64 (-1) := (hvc (hv 2 (by omega))).elim fun _ h => h
    have f3 : fr 3 = .bool true := (hvc (hv 3 (by omega))).elim fun _ h => h
    have f4 : fr 4 = .bool true := (hvc (hv 4 (by omega))).elim fun _ h => h
    have f5 : fr 5 = undef := (hvc (hv 5 (by omega))).elim fun _ h => h
    have f6 : fr 6 = undef := (hvc (hv 6 (by omega))).elim fun _ h => h
    have f7 : fr 7 = undef := (hvc (hv 7 (by omega))).elim fun _ h => h
    have f8 : fr 8 = undef := (hvc (hv 8 (by omega))).elim fun _ h => h
    have f9 : fr 9 = Value.bool true := (hvc (hv 9 (by omega))).elim fun _ h => h
    simp only [putFn, Act.put, List.setIfInBounds_toArray, List.set_cons_zero, List.set_cons_succ, f2, f3, f4, f5, f6, f7, f8, f9]
    replace BB := bl_trans BB hR
    clear hR hv
    go_wp2_with fail
    go_ret2
    exact ⟨_, rfl, BB, by rw [HI.out, HS.out]; rfl⟩

theorem cRefSmall_hi (h : IsM w v za 24) (hz : 9223372036854775807 < za) : Calls Try.prog 25 #[v] w (Ans w fun _ v => v = .tuple #[.int .i64 (smI za), .bool (smB za)]) := by
  obtain ⟨s, A, n, c, rfl, Z⟩ := h
  have XA : IsM (w.alloc (.cells #[.bool s, .slice A n c] 32)) (.agg #[.bool s, .slice A n c]) za 24 := ⟨_, _, _, _, rfl, Z.alloc _⟩
  have PA := Bz.new w s A n c
  have BB := bl_alloc w (.cells #[.bool s, .slice A n c] 32)
  clear Z
  have HI := Lib.hid (smI_no (z := za) (.inr (by omega)))
  have HS := Lib.hid (smB_no (z := za) (.inr (by omega)))
  have HC := Lib.hid (show cmpI za (-9223372036854775808) = 1 from cmpI_gt (by omega))
  have HD := Lib.hid (show cmpI za 9223372036854775807 = 1 from cmpI_gt hz)
  go_enter Try.func25, Try.ntmps25
  go_wp2_with fail
  refine wp_region_list (Ext := RB) (Rel := RBu) [fun v _ w => IsM w v (za) 24, fun v _ w => IsT w v ((-9223372036854775808)) 2, fun v _ _ => v = .int .i64 1, fun v _ _ => v = .bool false, fun v _ _ => v = .bool false, fun v _ w => IsM w v (za) 24, fun v _ w => IsT w v (9223372036854775807) 2, fun v _ _ => v = .int .i64 1, fun v _ _ => v = .bool true, fun v _ _ => v = .bool true] (n := 10) (by kernel_rfl) rfl (by kernel_rfl) (by kernel_rfl) (by kernel_rfl) (by kernel_rfl) (by kernel_rfl) rb_refl rb_trans ⟨sM, ⟨sT, ⟨sC, ⟨sC, ⟨sC, ⟨sM, ⟨sT, ⟨sC, ⟨sC, ⟨sC, trivial⟩⟩⟩⟩⟩⟩⟩⟩⟩⟩ ?_ ?_
  · refine ⟨⟨⟨⟨⟨⟨⟨⟨⟨⟨trivial, ?_⟩, ?_⟩, ?_⟩, ?_⟩, ?_⟩, ?_⟩, ?_⟩, ?_⟩, ?_⟩, ?_⟩
    · refine rs_plain rfl rfl fun a wr S => ?_
      have X := undrew S.ext
      exact wp_load (ev_of ((S.old 1 (by kernel_rfl)).trans rfl)) (PA.below X) (done (by kernel_rfl) rbu_refl (XA.below X))
    · refine rs_plain rfl rfl fun a wr S => ?_
      have X := undrew S.ext
      exact st_call cf_ref02_From (args1 rfl) (by kernel_rfl) rb (cRefFrom _ (by omega) (by omega)) (fun _ _ _ h => h)
    · refine rs_plain rfl rfl fun a wr S => ?_
      have X := undrew S.ext
      obtain ⟨v0, e0, h0⟩ := S.got 0 (by kernel_rfl)
      obtain ⟨v1, e1, h1⟩ := S.got 1 (by kernel_rfl)
      exact st_call cf_ref02_Cmp (args2 (ev_of (e0 7 (by kernel_rfl))) (ev_of (e1 8 (by kernel_rfl)))) (by kernel_rfl) rb (cRefCmp h0 h1.m (by omega) (by omega) HC.out) (fun _ _ _ h => h)
    · refine rs_plain rfl rfl fun a wr S => ?_
      have X := undrew S.ext
      obtain ⟨v2, e2, h2⟩ := S.got 2 (by kernel_rfl)
      exact wp_ltI ((ev_of (e2 9 (by kernel_rfl))).trans h2) rfl (done (by kernel_rfl) rbu_refl (congrArg Value.bool (by decide)))
    · refine rs_plain rfl rfl fun a wr S => ?_
      have X := undrew S.ext
      obtain ⟨v3, e3, h3⟩ := S.got 3 (by kernel_rfl)
      exact wp_mv ((ev_of (e3 10 (by kernel_rfl))).trans h3) (done (by kernel_rfl) rbu_refl rfl)
    · refine rs_yes rfl rfl (by kernel_rfl) (by kernel_rfl : _ = some 11) (fun _ _ _ h => h) fun a wr S => ?_
      have X := undrew S.ext
      exact wp_load (ev_of ((S.old 1 (by kernel_rfl)).trans rfl)) (PA.below X) (done (by kernel_rfl) rbu_refl (XA.below X))
    · refine rs_yes rfl rfl (by kernel_rfl) (by kernel_rfl : _ = some 11) (fun _ _ _ h => h) fun a wr S => ?_
      have X := undrew S.ext
      exact st_call cf_ref02_From (args1 rfl) (by kernel_rfl) rb (cRefFrom _ (by omega) (by omega)) (fun _ _ _ h => h)
    · refine rs_yes rfl rfl (by kernel_rfl) (by kernel_rfl : _ = some 11) (fun _ _ _ h => h) fun a wr S => ?_
      have X := undrew S.ext
      obtain ⟨v5, e5, h5⟩ := S.got 5 (by kernel_rfl)
      obtain ⟨v6, e6, h6⟩ := S.got 6 (by kernel_rfl)
      exact st_call cf_ref02_Cmp (args2 (ev_of (e5 12 (by kernel_rfl))) (ev_of (e6 13 (by kernel_rfl)))) (by kernel_rfl) rb (cRefCmp h5 h6.m (by omega) (by omega) HD.out) (fun _ _ _ h => h)
    · refine rs_yes rfl rfl (by kernel_rfl) (by kernel_rfl : _ = some 11) (fun _ _ _ h => h) fun a wr S => ?_
      have X := undrew S.ext
      obtain ⟨v7, e7, h7⟩ := S.got 7 (by kernel_rfl)
      exact wp_gtI ((ev_of (e7 14 (by kernel_rfl))).trans h7) rfl (done (by kernel_rfl) rbu_refl (congrArg Value.bool (by decide)))
    · refine rs_plain rfl rfl fun a wr S => ?_
      have X := undrew S.ext
      obtain ⟨v4, e4, h4⟩ := S.got 4 (by kernel_rfl)
      obtain ⟨v8, e8, h8⟩ := S.got 8 (by kernel_rfl)
      exact wp_pickF ((ev_of (e4 11 (by kernel_rfl))).trans h4) ((ev_of (e8 15 (by kernel_rfl))).trans h8) (done (by kernel_rfl) rbu_refl rfl)
  · intro fr w1 hR hv
    replace hR := undrew hR
    have f2 : fr 2 = .int .i64 1 := (hvc (hv 2 (by omega))).elim fun _ h => h
    have f3 : fr 3 = .bool false := (hvc (hv 3 (by omega))).elim fun _ h => h
    have f4 : fr 4 = .bool false := (hvc (hv 4 (by omega))).elim fun _ h => h
    have f7 : fr 7 = .int .i64 1 := (hvc (hv 7 (by omega))).elim fun _ h => h
    have f8 : fr 8 = .bool true := (hvc (hv 8 (by omega))).elim fun _ h => h
    have f9 : fr 9 = .bool true := (hvc (hv 9 (by omega))).elim fun _ h => h
    simp only [putFn, Act.put, List.setIfInBounds_toArray, List.set_cons_zero, List.set_cons_succ, f2, f3, f4, f7, f8, f9]
    replace BB := bl_trans BB hR
    clear hR hv
    go_wp2_with fail
    go_ret2
    exact ⟨_, rfl, BB, by rw [HI.out, HS.out]; rfl⟩

theorem cRefSmall_in (h : IsM w v za 24) (h0 : -9223372036854775808 ≤ za) (h1 : za ≤ 9223372036854775807) : Calls Try.prog 25 #[v] w (Ans w fun _ v => v = .tuple #[.int .i64 (smI za), .bool (smB za)]) := by
  obtain ⟨s, A, n, c, rfl, Z⟩ := h
  have XA : IsM (w.alloc (.cells #[.bool s, .slice A n c] 32)) (.agg #[.bool s, .slice A n c]) za 24 := ⟨_, _, _, _, rfl, Z.alloc _⟩
  have PA := Bz.new w s A n c
  have BB := bl_alloc w (.cells #[.bool s, .slice A n c] 32)
  clear Z
  have HI := Lib.hid (smI_yes (z := za) h0 (by omega))
  have HS := Lib.hid (smB_yes (z := za) h0 (by omega))
  obtain ⟨q1, hq1, hq1'⟩ : ∃ q, cmpI za (-9223372036854775808) = q ∧ ¬ q < 0 := by
    rcases Int.lt_trichotomy za (-9223372036854775808) with h | h | h
    · omega
    · exact ⟨0, cmpI_eq h, by omega⟩
    · exact ⟨1, cmpI_gt h, by omega⟩
  obtain ⟨q2, hq2, hq2'⟩ : ∃ q, cmpI za 9223372036854775807 = q ∧ ¬ 0 < q := by
    rcases Int.lt_trichotomy za 9223372036854775807 with h | h | h
    · exact ⟨-1, cmpI_lt h, by omega⟩
    · exact ⟨0, cmpI_eq h, by omega⟩
    · omega
  have HC := Lib.hid hq1
  have HD := Lib.hid hq2
  have HC' := Lib.hid hq1'
  have HD' := Lib.hid hq2'
  clear hq1 hq2 hq1' hq2'
  go_enter Try.func25, Try.ntmps25
  go_wp2_with fail
  refine wp_region_list (Ext := RB) (Rel := RBu) [fun v _ w => IsM w v (za) 24, fun v _ w => IsT w v ((-9223372036854775808)) 2, fun v _ _ => v = .int .i64 q1, fun v _ _ => v = .bool false, fun v _ _ => v = .bool false, fun v _ w => IsM w v (za) 24, fun v _ w => IsT w v (9223372036854775807) 2, fun v _ _ => v = .int .i64 q2, fun v _ _ => v = .bool false, fun v _ _ => v = .bool false] (n := 10) (by kernel_rfl) rfl (by kernel_rfl) (by kernel_rfl) (by kernel_rfl) (by kernel_rfl) (by kernel_rfl) rb_refl rb_trans ⟨sM, ⟨sT, ⟨sC, ⟨sC, ⟨sC, ⟨sM, ⟨sT, ⟨sC, ⟨sC, ⟨sC, trivial⟩⟩⟩⟩⟩⟩⟩⟩⟩⟩ ?_ ?_
  · refine ⟨⟨⟨⟨⟨⟨⟨⟨⟨⟨trivial, ?_⟩, ?_⟩, ?_⟩, ?_⟩, ?_⟩, ?_⟩, ?_⟩, ?_⟩, ?_⟩, ?_⟩
    · refine rs_plain rfl rfl fun a wr S => ?_
      have X := undrew S.ext
      exact wp_load (ev_of ((S.old 1 (by kernel_rfl)).trans rfl)) (PA.below X) (done (by kernel_rfl) rbu_refl (XA.below X))
    · refine rs_plain rfl rfl fun a wr S => ?_
      have X := undrew S.ext
      exact st_call cf_ref02_From (args1 rfl) (by kernel_rfl) rb (cRefFrom _ (by omega) (by omega)) (fun _ _ _ h => h)
    · refine rs_plain rfl rfl fun a wr S => ?_
      have X := undrew S.ext
      obtain ⟨v0, e0, h0⟩ := S.got 0 (by kernel_rfl)
      obtain ⟨v1, e1, h1⟩ := S.got 1 (by kernel_rfl)
      exact st_call cf_ref02_Cmp (args2 (ev_of (e0 7 (by kernel_rfl))) (ev_of (e1 8 (by kernel_rfl)))) (by kernel_rfl) rb (cRefCmp h0 h1.m (by omega) (by omega) HC.out) (fun _ _ _ h => h)
    · refine rs_plain rfl rfl fun a wr S => ?_
      have X := undrew S.ext
      obtain ⟨v2, e2, h2⟩ := S.got 2 (by kernel_rfl)
      exact wp_ltI ((ev_of (e2 9 (by kernel_rfl))).trans h2) rfl (done (by kernel_rfl) rbu_refl (congrArg Value.bool (decide_eq_false (by have := HC'.out; omega))))
    · refine rs_plain rfl rfl fun a wr S => ?_
      have X := undrew S.ext
      obtain ⟨v3, e3, h3⟩ := S.got 3 (by kernel_rfl)
      exact wp_mv ((ev_of (e3 10 (by kernel_rfl))).trans h3) (done (by kernel_rfl) rbu_refl rfl)
    · refine rs_yes rfl rfl (by kernel_rfl) (by kernel_rfl : _ = some 11) (fun _ _ _ h => h) fun a wr S => ?_
      have X := undrew S.ext
      exact wp_load (ev_of ((S.old 1 (by kernel_rfl)).trans rfl)) (PA.below X) (done (by kernel_rfl) rbu_refl (XA.below X))
    · refine rs_yes rfl rfl (by kernel_rfl) (by kernel_rfl : _ = some 11) (fun _ _ _ h => h) fun a wr S => ?_
      have X := undrew S.ext
      exact st_call cf_ref02_From (args1 rfl) (by kernel_rfl) rb (cRefFrom _ (by omega) (by omega)) (fun _ _ _ h => h)
    · refine rs_yes rfl rfl (by kernel_rfl) (by kernel_rfl : _ = some 11) (fun _ _ _ h => h) fun a wr S => ?_
      have X := undrew S.ext
      obtain ⟨v5, e5, h5⟩ := S.got 5 (by kernel_rfl)
      obtain ⟨v6, e6, h6⟩ := S.got 6 (by kernel_rfl)
      exact st_call cf_ref02_Cmp (args2 (ev_of (e5 12 (by kernel_rfl))) (ev_of (e6 13 (by kernel_rfl)))) (by kernel_rfl) rb (cRefCmp h5 h6.m (by omega) (by omega) HD.out) (fun _ _ _ h => h)
    · refine rs_yes rfl rfl (by kernel_rfl) (by kernel_rfl : _ = some 11) (fun _ _ _ h => h) fun a wr S => ?_
      have X := undrew S.ext
      obtain ⟨v7, e7, h7⟩ := S.got 7 (by kernel_rfl)
      exact wp_gtI ((ev_of (e7 14 (by kernel_rfl))).trans h7) rfl (done (by kernel_rfl) rbu_refl (congrArg Value.bool (decide_eq_false (by have := HD'.out; omega))))
    · refine rs_plain rfl rfl fun a wr S => ?_
      have X := undrew S.ext
      obtain ⟨v4, e4, h4⟩ := S.got 4 (by kernel_rfl)
      obtain ⟨v8, e8, h8⟩ := S.got 8 (by kernel_rfl)
      exact wp_pickF ((ev_of (e4 11 (by kernel_rfl))).trans h4) ((ev_of (e8 15 (by kernel_rfl))).trans h8) (done (by kernel_rfl) rbu_refl rfl)
  · intro fr w1 hR hv
    replace hR := undrew hR
    have f2 : fr 2 = .int .i64 q1 := (hvc (hv 2 (by omega))).elim fun _ h => h
    have f3 : fr 3 = .bool false := (hvc (hv 3 (by omega))).elim fun _ h => h
    have f4 : fr 4 = .bool false := (hvc (hv 4 (by omega))).elim fun _ h => h
    have f7 : fr 7 = .int .i64 q2 := (hvc (hv 7 (by omega))).elim fun _ h => h
    have f8 : fr 8 = .bool false := (hvc (hv 8 (by omega))).elim fun _ h => h
    have f9 : fr 9 = .bool false := (hvc (hv 9 (by omega))).elim fun _ h => h
    simp only [putFn, Act.put, List.setIfInBounds_toArray, List.set_cons_zero, List.set_cons_succ, f2, f3, f4, f7, f8, f9]
    replace BB := bl_trans BB hR
    replace PA := PA.below hR
    replace XA := XA.below hR
    clear hR hv HC HD HC' HD'
    have a0 := PA.c0
    have a1 := PA.c1
    go_wp2_with fail
    refine (cRefMade XA (by omega)).mono ?_
    rintro e w2 ⟨_, rfl, hb2, b2, A2, n2, c2, rfl, T2, hn2⟩
    clear a0 a1
    replace PA := PA.below hb2
    replace XA := XA.below hb2
    replace BB := bl_trans BB hb2
    have hlen := T2.len
    have hn2' : n2 ≤ 2 := by
      rw [← hlen]
      exact M.lims_length_le.2 (by rw [show M.R ^ 2 = 18446744073709551616 from rfl]; omega)
    have fl := field1 w2 b2 A2 n2 c2
    have hval := M.val_lims za.natAbs
    obtain ⟨ys, hys⟩ : ∃ ys, ys = M.lims za.natAbs := ⟨_, rfl⟩
    have hrd := T2.rd
    rw [← hys] at hlen hval hrd
    have HR := Lib.hid hrd
    have HL := Lib.hid hlen
    have HV := Lib.hid hval
    clear hb2 T2 hn2 hlen hval hrd hys
    go_wp2
    go_loop [4, 6] (fun p i => ∃ (q : Nat), q ≤ n2 ∧ i = .int .i64 ((q : Int) - 1) ∧ p = .int .i64 (IntKind.i64.wrap (M.val (ys.drop q) : Nat))) (fun _ i => (intOf i + 1).toNat)
    case atStart =>
      refine ⟨n2, Nat.le_refl _, by go_num, ?_⟩
      rw [List.drop_of_length_le (by rw [HL.out]; exact Nat.le_refl _)]
      rfl
    case round =>
      obtain ⟨q, hq, rfl, rfl⟩ := hrel
      by_cases hq0 : q = 0
      · subst hq0
        have hd0 : M.val (ys.drop 0) = za.natAbs := by rw [List.drop_zero, HV.out]
        rw [hd0]
        have a0 := PA.c0
        have a1 := PA.c1
        clear hd0
        go_wp2_with fail
        refine (cRefMade XA (by omega)).mono ?_
        rintro e w3 ⟨_, rfl, hb3, b3, A3, n3, c3, rfl, T3, hn3⟩
        replace BB := bl_trans BB hb3
        clear a0 a1 hb3 T3
        by_cases hneg : za < 0
        · obtain rfl : b3 = true := hn3.trans (decide_eq_true hneg)
          have fl3 := field0 w3 true A3 n3 c3
          have hw : IntKind.i64.wrap (-IntKind.i64.wrap ((za.natAbs : Nat) : Int)) = za := by rw [IntKind.wrap_i64, IntKind.wrap_i64]; omega
          have HW := Lib.hid hw
          clear hn3 hw
          go_wp2_with fail
          go_ret2
          exact ⟨_, rfl, BB, by rw [HI.out, HS.out]; simp [go_sem]; rw [w64_eq, w64_eq]; exact HW.out⟩
        · obtain rfl : b3 = false := hn3.trans (decide_eq_false hneg)
          have fl3 := field0 w3 false A3 n3 c3
          have hw : IntKind.i64.wrap ((za.natAbs : Nat) : Int) = za := by rw [IntKind.wrap_i64]; omega
          have HW := Lib.hid hw
          clear hn3 hw
          go_wp2_with fail
          go_ret2
          exact ⟨_, rfl, BB, by rw [HI.out, HS.out]; simp [go_sem, HW.out]⟩
      · obtain ⟨i, rfl⟩ : ∃ i, q = i + 1 := ⟨q - 1, by omega⟩
        have hji : ((i + 1 : Nat) : Int) - 1 = (i : Int) := by omega
        obtain ⟨b, o, x, hA, hx, hxR, hcell⟩ := HR.out.at32 (show i < n2 by omega)
        subst hA
        obtain ⟨V, hVd⟩ : ∃ V, V = M.val (ys.drop (i + 1)) := ⟨_, rfl⟩
        have hst : M.val (ys.drop i) = x + 4294967296 * V := by rw [M.drop_pred hx, M.val_cons, ← hVd, M.R_eq]
        have hle : M.val (ys.drop i) ≤ za.natAbs := by
          rw [← HV.out]
          have h1 : M.val ys = M.val (ys.take i) + M.R ^ (ys.take i).length * M.val (ys.drop i) := by rw [← M.val_append, List.take_append_drop]
          have h2 : 1 * M.val (ys.drop i) ≤ M.R ^ (ys.take i).length * M.val (ys.drop i) := Nat.mul_le_mul_right _ (Nat.pow_pos M.R_pos)
          omega
        have hxl : x < 4294967296 := hxR
        have hV2 : V ≤ 2147483648 := by omega
        have hw : IntKind.i64.wrap ((V : Nat) : Int) = V := by rw [IntKind.wrap_i64]; omega
        rw [← hVd, hw]
        have HO := Lib.hid (or_i64 V x (by omega) hxl)
        have HST := Lib.hid hst
        clear hx hVd hst hle hw fl
        go_wp2
        go_round
        case rel => exact ⟨i, by omega, by go_num, by rw [HST.out, ← HO.out, w64_eq]⟩
        case measure => simp [intOf]
theorem cRefSmall (h : IsM w v za 24) : Calls Try.prog 25 #[v] w (Ans w fun _ v => v = .tuple #[.int .i64 (smI za), .bool (smB za)]) := by
  by_cases h1 : za < -9223372036854775808
  · exact cRefSmall_lo h h1
  · by_cases h2 : 9223372036854775807 < za
    · exact cRefSmall_hi h h2
    · exact cRefSmall_in h (by omega) (by omega)
end

end Go.Proofs.Ythjgonfohjgfaaa
