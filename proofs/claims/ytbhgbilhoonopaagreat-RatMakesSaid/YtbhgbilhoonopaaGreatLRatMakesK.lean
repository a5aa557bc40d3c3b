/- litmuslaw03.RatMakes answers true at every input, and changes nothing that was there: its walk. -/
import Derived.Test.YtbhgbilhoonopaaGreatK6
namespace Go.Proofs.YtbhgbilhoonopaaGreat
open Go.RowKit
set_option linter.unusedVariables false
set_option maxRecDepth 100000

theorem small_of (w : World) {k a b : Int} {s : Bool} (n : Nat) (hn : n < 18446744073709551616) (ha : a = ((n % 4294967296 : Nat) : Int)) (hb : b = ((n / 4294967296 : Nat) : Int)) (hz : zv s n = k) : IsQm ((w.alloc (.cells #[.int .u32 a, .int .u32 b] 44)).alloc (.cells #[.bool s, .slice (some ⟨w.heap.size, 0, none⟩) 2 2, .slice none 0 0] 26)) (.agg #[.bool s, .slice (some ⟨w.heap.size, 0, none⟩) 2 2, .slice none 0 0]) ((k : Int) : Rat) 2 ∧ Bq ((w.alloc (.cells #[.int .u32 a, .int .u32 b] 44)).alloc (.cells #[.bool s, .slice (some ⟨w.heap.size, 0, none⟩) 2 2, .slice none 0 0] 26)) (w.heap.size + 1) s (some ⟨w.heap.size, 0, none⟩) 2 2 none 0 0 ∧ Below w.heap.size w ((w.alloc (.cells #[.int .u32 a, .int .u32 b] 44)).alloc (.cells #[.bool s, .slice (some ⟨w.heap.size, 0, none⟩) 2 2, .slice none 0 0] 26)) := by
 have hr := lit2 w (n % 4294967296) (n / 4294967296) a b (by rw [M.R_eq]; omega) (by rw [M.R_eq]; omega) ha hb
 have hm : IsM (w.alloc (.cells #[.int .u32 a, .int .u32 b] 44)) (.agg #[.bool s, .slice (some ⟨w.heap.size, 0, none⟩) 2 2]) k 2 := by
  refine ⟨_, _, _, _, rfl, ⟨⟨n, ⟨⟨_, hr, ?_⟩, Nat.le_refl _⟩, hz⟩⟩⟩
  rw [M.val_cons, M.val_cons, M.val_nil, M.R_eq]
  omega
 exact ⟨(isQm_int hm (by omega)).below (bl_alloc _ _), Bq.new2 w _ s _ 2 2 none 0 0, bl_trans (bl_alloc _ _) (bl_alloc _ _)⟩
theorem small_neg (w : World) {k : Int} (hk : k < 0) (k0 : -9223372036854775808 ≤ k) : IsQm ((w.alloc (.cells #[.int .u32 (IntKind.u64.wrap (-IntKind.u64.wrap k) % 4294967296), .int .u32 (IntKind.u64.wrap (-IntKind.u64.wrap k) / 4294967296 % 4294967296)] 44)).alloc (.cells #[.bool true, .slice (some ⟨w.heap.size, 0, none⟩) 2 2, .slice none 0 0] 26)) (.agg #[.bool true, .slice (some ⟨w.heap.size, 0, none⟩) 2 2, .slice none 0 0]) ((k : Int) : Rat) 2 ∧ Bq ((w.alloc (.cells #[.int .u32 (IntKind.u64.wrap (-IntKind.u64.wrap k) % 4294967296), .int .u32 (IntKind.u64.wrap (-IntKind.u64.wrap k) / 4294967296 % 4294967296)] 44)).alloc (.cells #[.bool true, .slice (some ⟨w.heap.size, 0, none⟩) 2 2, .slice none 0 0] 26)) (w.heap.size + 1) true (some ⟨w.heap.size, 0, none⟩) 2 2 none 0 0 ∧ Below w.heap.size w ((w.alloc (.cells #[.int .u32 (IntKind.u64.wrap (-IntKind.u64.wrap k) % 4294967296), .int .u32 (IntKind.u64.wrap (-IntKind.u64.wrap k) / 4294967296 % 4294967296)] 44)).alloc (.cells #[.bool true, .slice (some ⟨w.heap.size, 0, none⟩) 2 2, .slice none 0 0] 26)) := by
 have e : IntKind.u64.wrap (-IntKind.u64.wrap k) = ((k.natAbs : Nat) : Int) := by
  have e1 : ∀ x : Int, IntKind.u64.wrap x = x % 18446744073709551616 := fun _ => rfl
  rw [e1, e1]
  omega
 rw [e]
 exact small_of w k.natAbs (by omega) (by omega) (by omega) (by rw [zv_true]; omega)
theorem small_pos (w : World) {k : Int} (hk : ¬ k < 0) (k0 : -9223372036854775808 ≤ k) (k1 : k < 9223372036854775808) : IsQm ((w.alloc (.cells #[.int .u32 (k % 4294967296), .int .u32 (k / 4294967296)] 44)).alloc (.cells #[.bool false, .slice (some ⟨w.heap.size, 0, none⟩) 2 2, .slice none 0 0] 26)) (.agg #[.bool false, .slice (some ⟨w.heap.size, 0, none⟩) 2 2, .slice none 0 0]) ((k : Int) : Rat) 2 ∧ Bq ((w.alloc (.cells #[.int .u32 (k % 4294967296), .int .u32 (k / 4294967296)] 44)).alloc (.cells #[.bool false, .slice (some ⟨w.heap.size, 0, none⟩) 2 2, .slice none 0 0] 26)) (w.heap.size + 1) false (some ⟨w.heap.size, 0, none⟩) 2 2 none 0 0 ∧ Below w.heap.size w ((w.alloc (.cells #[.int .u32 (k % 4294967296), .int .u32 (k / 4294967296)] 44)).alloc (.cells #[.bool false, .slice (some ⟨w.heap.size, 0, none⟩) 2 2, .slice none 0 0] 26)) :=
 small_of w k.natAbs (by omega) (by omega) (by omega) (by rw [zv_false]; omega)
theorem if5 (n : Nat) : (if (5 : Int) < (n : Int) then (5 : Int) else (n : Int)) = ((min n 5 : Nat) : Int) := by split <;> omega
set_option maxHeartbeats 4000000 in
theorem ratMakes_in (sa : Bool) (Aa : Option Addr) (na ca : Nat) (xa : List Nat) (sb : Bool) (Ab : Option Addr) (nb cb : Nat) (xb : List Nat) (k z u : Int) (w : World) (Ha : Hid (Rd w Aa na ca xa)) (Ia : Hid (na ≤ maxLen)) (Hb : Hid (Rd w Ab nb cb xb)) (Ib : Hid (nb ≤ maxLen)) (Za : Hid (z = zv sa (M.val (xa.take (min na 5))))) (Zb : Hid (u = zv sb (M.val (xb.take (min nb 5))))) (k0 : -9223372036854775808 ≤ k) (k1 : k < 9223372036854775808) : Calls Tryz.prog 4 #[.agg #[.bool sa, .slice Aa na ca], .agg #[.bool sb, .slice Ab nb cb], .int .i64 k] w fun e w' => e = .returned (.bool true) ∧ Below w.heap.size w w' := by
 have BB := bl_trans (bl_alloc w (.cells #[.bool sa, .slice Aa na ca] 24)) (bl_alloc _ (.cells #[.bool sb, .slice Ab nb cb] 24))
 have Pa := (Bz.new w sa Aa na ca).alloc (.cells #[.bool sb, .slice Ab nb cb] 24)
 have Pb := Bz.new2 w (.cells #[.bool sa, .slice Aa na ca] 24) sb Ab nb cb
 go_enter Tryz.func4, Tryz.ntmps4
 go_upto_region 1 with (fail)
 generalize (w.alloc (.cells #[.bool sa, .slice Aa na ca] 24)).alloc (.cells #[.bool sb, .slice Ab nb cb] 24) = w0 at Pa Pb BB ⊢
 have ra1 := Pa.c1
 have fa1 := Pa.f 1
 have cpa := Ha.out.cap
 have rb1 := Pb.c1
 have fb1 := Pb.f 1
 have cpb := Hb.out.cap
 go_big_region
 simp only [if5, Int.toNat_natCast]
 go_upto_region 2 with (fail)
 clear ra1 fa1 rb1 fb1 cpa cpb
 replace Pa := ((Pa.setM (A' := Aa) (n' := (min na 5)) (c' := ca)).other (g' := w.heap.size + 1) (i := 1) (v := .slice Ab (min nb 5) cb) (by omega)).drew
 replace Pb := ((Pb.other (g' := w.heap.size) (i := 1) (v := .slice Aa (min na 5) ca) (by omega)).setM (A' := Ab) (n' := (min nb 5)) (c' := cb)).drew
 replace BB := Below.drewed ((BB.setCell (p := ⟨w.heap.size, 1, none⟩) (by show _ ≤ w.heap.size; omega) (.slice Aa (min na 5) ca)).setCell (p := ⟨w.heap.size + 1, 1, none⟩) (by show _ ≤ w.heap.size + 1; omega) (.slice Ab (min nb 5) cb))
 generalize World.drew _ = wh at Pa Pb BB ⊢
 have Ma : IsM wh (.agg #[.bool sa, .slice Aa (min na 5) ca]) z 5 := ⟨_, _, _, _, rfl, by rw [Za.out]; exact few_zm (Ha.out.below BB) 5⟩
 have Ja := isQm_int Ma (by omega)
 clear Ha Ia Za
 have Mb : IsM wh (.agg #[.bool sb, .slice Ab (min nb 5) cb]) u 5 := ⟨_, _, _, _, rfl, by rw [Zb.out]; exact few_zm (Hb.out.below BB) 5⟩
 have Jb := isQm_int Mb (by omega)
 clear Hb Ib Zb
 by_cases hu : u = 0
 ·have HU := Lib.hid hu
  clear hu
  have EO := Lib.hid (show eO u = 3 from if_pos HU.out)
  have ra0 := Pa.c0
  have ra1 := Pa.c1
  have rb0 := Pb.c0
  have rb1 := Pb.c1
  go_wp2_with fail
  clear ra0 ra1 rb0 rb1
  refine (cOfQA Ma Mb (by omega) (by omega) (by omega)).mono ?_
  rw [EO.out]
  rintro e w1 ⟨_, rfl, hb, b7, A7, n7, c7, B7, m7, d7, rfl, q7⟩
  replace Pa := Pa.below hb
  replace Pb := Pb.below hb
  replace Ma := Ma.below hb
  replace Ja := Ja.below hb
  replace Mb := Mb.below hb
  replace Jb := Jb.below hb
  replace BB := bl_trans BB hb
  clear hb
  replace q7 := q7.t
  have OO := bl_alloc w1 (.cells #[.bool b7, .slice A7 n7 c7, .slice B7 m7 d7] 26)
  have P7 := Bq.new w1 b7 A7 n7 c7 B7 m7 d7
  replace Pa := Pa.below OO
  replace Pb := Pb.below OO
  replace Ma := Ma.below OO
  replace Ja := Ja.below OO
  replace Mb := Mb.below OO
  replace Jb := Jb.below OO
  replace q7 := q7.below OO
  replace BB := bl_trans BB OO
  clear OO
  go_upto_region 3 with (fail)
  generalize w1.alloc _ = w2 at Pa Pb Ma Ja Mb Jb q7 P7 BB ⊢
  refine wp_seq 3 ?_
  simp only [List.take_succ_cons, List.take_zero, List.drop_succ_cons, List.drop_zero]
  refine wp_seq_list (Ext := RB) (Rel := RBu) [fun v _ _ => v = .agg #[.bool sb, .slice Ab (min nb 5) cb], fun v _ _ => v = .agg #[.bool sb, .slice Ab (min nb 5) cb, .slice none 0 0], fun v _ _ => v = .bool true] (n := 3) (by kernel_rfl) (by kernel_rfl) (by kernel_rfl) (by kernel_rfl) (by kernel_rfl) (by kernel_rfl) (by kernel_rfl) rb_refl rb_trans ⟨sC, ⟨sC, ⟨sC, trivial⟩⟩⟩ ?_ ?_
  ·refine ⟨⟨⟨trivial, ?_⟩, ?_⟩, ?_⟩
   ·refine rs_plain rfl rfl fun a wr S => ?_
    have X := rbX S.ext
    exact wp_load (ev_of ((S.old 4 (by kernel_rfl)).trans rfl)) (Pb.below X) (done (by kernel_rfl) rbu_refl rfl)
   ·refine rs_plain rfl rfl fun a wr S => ?_
    have X := rbX S.ext
    obtain ⟨v0, e0, h0⟩ := S.got 0 (by kernel_rfl)
    exact wp_bQ1 ((ev_of (e0 33 (by kernel_rfl))).trans h0) (done (by kernel_rfl) rbu_refl rfl)
   ·refine rs_plain rfl rfl fun a wr S => ?_
    have X := rbX S.ext
    obtain ⟨v1, e1, h1⟩ := S.got 1 (by kernel_rfl)
    exact st_call cf_ref03_Zero (args1 ((ev_of (e1 34 (by kernel_rfl))).trans h1)) (by kernel_rfl) rb ((cZero3 (show IsQm _ _ _ _ from (Jb.below X)) (by omega)).mono (ansB (decide_eq_true (by rw [HU.out]; rfl)))) (fun _ _ _ h => h)
  ·intro fw3 w3 hR hv hap
   clear hap
   replace hR := rbX hR
   have f0 : fw3 0 = .agg #[.bool sb, .slice Ab (min nb 5) cb] := (hvc (hv 0 (by omega))).elim fun _ h => h
   have f1 : fw3 1 = .agg #[.bool sb, .slice Ab (min nb 5) cb, .slice none 0 0] := (hvc (hv 1 (by omega))).elim fun _ h => h
   have f2 : fw3 2 = .bool true := (hvc (hv 2 (by omega))).elim fun _ h => h
   simp only [putFn, Act.put, List.setIfInBounds_toArray, List.set_cons_zero, List.set_cons_succ, f0, f1, f2]
   replace Pa := Pa.below hR
   replace Pb := Pb.below hR
   replace Ma := Ma.below hR
   replace Ja := Ja.below hR
   replace Mb := Mb.below hR
   replace Jb := Jb.below hR
   replace q7 := q7.below hR
   replace P7 := P7.below hR
   replace BB := bl_trans BB hR
   clear hR hv
   go_upto_region 4 with (fail)
   refine wp_region_list (Ext := RB) (Rel := RBu) [fun v _ _ => v = .int .i64 3, fun v _ _ => v = .bool false, fun v _ _ => v = .bool false, fun v _ _ => v = .agg #[.bool b7, .slice A7 n7 c7, .slice B7 m7 d7], fun v _ _ => v = .agg #[.bool false, .slice none 0 0, .slice none 0 0], fun v _ w => IsQt w v (0) 1, fun v _ _ => v = .bool true, fun v _ _ => v = .bool false, fun v _ _ => v = .bool false] (n := 9) (by kernel_rfl) rfl (by kernel_rfl) (by kernel_rfl) (by kernel_rfl) (by kernel_rfl) (by kernel_rfl) rb_refl rb_trans ⟨sC, ⟨sC, ⟨sC, ⟨sC, ⟨sC, ⟨sQt, ⟨sC, ⟨sC, ⟨sC, trivial⟩⟩⟩⟩⟩⟩⟩⟩⟩ ?_ ?_
   ·refine ⟨⟨⟨⟨⟨⟨⟨⟨⟨trivial, ?_⟩, ?_⟩, ?_⟩, ?_⟩, ?_⟩, ?_⟩, ?_⟩, ?_⟩, ?_⟩
    ·refine rs_plain rfl rfl fun a wr S => ?_
     have X := undrew S.ext
     exact wp_mv (ev_of ((S.old 8 (by kernel_rfl)).trans rfl)) (done (by kernel_rfl) rbu_refl rfl)
    ·refine rs_plain rfl rfl fun a wr S => ?_
     have X := undrew S.ext
     obtain ⟨v0, e0, h0⟩ := S.got 0 (by kernel_rfl)
     exact wp_neI ((ev_of (e0 36 (by kernel_rfl))).trans h0) rfl (Or.inr rfl) (done (by kernel_rfl) rbu_refl (congrArg Value.bool (by decide)))
    ·refine rs_plain rfl rfl fun a wr S => ?_
     have X := undrew S.ext
     obtain ⟨v1, e1, h1⟩ := S.got 1 (by kernel_rfl)
     exact wp_mv ((ev_of (e1 37 (by kernel_rfl))).trans h1) (done (by kernel_rfl) rbu_refl rfl)
    ·refine rs_yes rfl rfl (by kernel_rfl) (by kernel_rfl : _ = some 38) (fun _ _ _ h => h) fun a wr S => ?_
     have X := undrew S.ext
     exact wp_qload (ev_of ((S.old 7 (by kernel_rfl)).trans rfl)) (P7.below X) (done (by kernel_rfl) rbu_refl rfl)
    ·refine rs_yes rfl rfl (by kernel_rfl) (by kernel_rfl : _ = some 38) (fun _ _ _ h => h) fun a wr S => ?_
     have X := undrew S.ext
     exact wp_build0Q (done (by kernel_rfl) rbu_refl rfl)
    ·refine rs_yes rfl rfl (by kernel_rfl) (by kernel_rfl : _ = some 38) (fun _ _ _ h => h) fun a wr S => ?_
     have X := undrew S.ext
     obtain ⟨v4, e4, h4⟩ := S.got 4 (by kernel_rfl)
     exact st_call cf_ref03_Made (args1 ((ev_of (e4 40 (by kernel_rfl))).trans h4)) (by kernel_rfl) rb (cMade3 (show IsQm _ _ _ _ from ((isQm_nil w3).below X)) (by omega) (by omega)) (fun _ _ _ h => h)
    ·refine rs_yes rfl rfl (by kernel_rfl) (by kernel_rfl : _ = some 38) (fun _ _ _ h => h) fun a wr S => ?_
     have X := undrew S.ext
     obtain ⟨v3, e3, h3⟩ := S.got 3 (by kernel_rfl)
     obtain ⟨v5, e5, h5⟩ := S.got 5 (by kernel_rfl)
     exact st_call cf_law03_same (args2 ((ev_of (e3 39 (by kernel_rfl))).trans h3) (ev_of (e5 41 (by kernel_rfl)))) (by kernel_rfl) rb (cSame3 (show IsQt _ _ _ _ from (q7.below X)) (show IsQt _ _ _ _ from h5) (by omega) (by omega) (r := true) ⟨fun _ => by rw [HU.out, Rat.divInt_zero], fun _ => rfl⟩) (fun _ _ _ h => h)
    ·refine rs_yes rfl rfl (by kernel_rfl) (by kernel_rfl : _ = some 38) (fun _ _ _ h => h) fun a wr S => ?_
     have X := undrew S.ext
     obtain ⟨v6, e6, h6⟩ := S.got 6 (by kernel_rfl)
     exact wp_not ((ev_of (e6 42 (by kernel_rfl))).trans h6) (done (by kernel_rfl) rbu_refl rfl)
    ·refine rs_plain rfl rfl fun a wr S => ?_
     have X := undrew S.ext
     obtain ⟨v2, e2, h2⟩ := S.got 2 (by kernel_rfl)
     obtain ⟨v7, e7, h7⟩ := S.got 7 (by kernel_rfl)
     exact wp_pickF ((ev_of (e2 38 (by kernel_rfl))).trans h2) ((ev_of (e7 43 (by kernel_rfl))).trans h7) (done (by kernel_rfl) rbu_refl rfl)
   ·intro fw4 w4 hR hv
    replace hR := undrew hR
    have f0 : fw4 0 = .int .i64 3 := (hvc (hv 0 (by omega))).elim fun _ h => h
    have f1 : fw4 1 = .bool false := (hvc (hv 1 (by omega))).elim fun _ h => h
    have f2 : fw4 2 = .bool false := (hvc (hv 2 (by omega))).elim fun _ h => h
    have f3 : fw4 3 = .agg #[.bool b7, .slice A7 n7 c7, .slice B7 m7 d7] := (hvc (hv 3 (by omega))).elim fun _ h => h
    have f4 : fw4 4 = .agg #[.bool false, .slice none 0 0, .slice none 0 0] := (hvc (hv 4 (by omega))).elim fun _ h => h
    have f6 : fw4 6 = .bool true := (hvc (hv 6 (by omega))).elim fun _ h => h
    have f7 : fw4 7 = .bool false := (hvc (hv 7 (by omega))).elim fun _ h => h
    have f8 : fw4 8 = .bool false := (hvc (hv 8 (by omega))).elim fun _ h => h
    simp only [putFn, Act.put, List.setIfInBounds_toArray, List.set_cons_zero, List.set_cons_succ, f0, f1, f2, f3, f4, f6, f7, f8]
    replace Pa := Pa.below hR
    replace Pb := Pb.below hR
    replace Ma := Ma.below hR
    replace Ja := Ja.below hR
    replace Mb := Mb.below hR
    replace Jb := Jb.below hR
    replace q7 := q7.below hR
    replace P7 := P7.below hR
    replace BB := bl_trans BB hR
    clear hR hv
    go_upto_region 8 with (fail)
    clear q7 P7 Mb Jb Pb
    by_cases hk : k < 0
    ·skip
     go_upto_region 12 with (fail)
     obtain ⟨J10, P10, OO⟩ := small_neg w4 hk k0
     clear hk
     generalize (w4.alloc _).alloc _ = w5 at J10 P10 OO ⊢
     replace Pa := Pa.below OO
     replace Ma := Ma.below OO
     replace Ja := Ja.below OO
     replace BB := bl_trans BB OO
     clear OO
     refine wp_region_list (Ext := RB) (Rel := RBu) [fun v _ _ => v = .agg #[.bool sa, .slice Aa (min na 5) ca], fun v _ w => IsQ (w5).heap.size w v (((z : Int) : Rat)) 5, fun v _ _ => v = .agg #[.bool sa, .slice Aa (min na 5) ca], fun v _ _ => v = .agg #[.bool sa, .slice Aa (min na 5) ca, .slice none 0 0], fun v _ w => IsQt w v (((z : Int) : Rat)) 5, fun v _ _ => v = .bool true, fun v _ _ => v = .bool true, fun v _ _ => v = .int .i64 k, fun v _ w => IsQ (w5).heap.size w v (((k : Int) : Rat)) 2, fun v _ _ => v = .agg #[.bool true, .slice (some ⟨w4.heap.size, 0, none⟩) 2 2, .slice none 0 0], fun v _ w => IsQt w v (((k : Int) : Rat)) 2, fun v _ _ => v = .bool true, fun v _ _ => v = .bool true, fun v _ _ => v = .bool true, fun v _ _ => v = .bool true, fun v _ _ => v = .bool true, fun v _ _ => v = .bool true] (n := 17) (by kernel_rfl) rfl (by kernel_rfl) (by kernel_rfl) (by kernel_rfl) (by kernel_rfl) (by kernel_rfl) rb_refl rb_trans ⟨sC, ⟨sQ, ⟨sC, ⟨sC, ⟨sQt, ⟨sC, ⟨sC, ⟨sC, ⟨sQ, ⟨sC, ⟨sQt, ⟨sC, ⟨sC, ⟨sC, ⟨sC, ⟨sC, ⟨sC, trivial⟩⟩⟩⟩⟩⟩⟩⟩⟩⟩⟩⟩⟩⟩⟩⟩⟩ ?_ ?_
     ·refine ⟨⟨⟨⟨⟨⟨⟨⟨⟨⟨⟨⟨⟨⟨⟨⟨⟨trivial, ?_⟩, ?_⟩, ?_⟩, ?_⟩, ?_⟩, ?_⟩, ?_⟩, ?_⟩, ?_⟩, ?_⟩, ?_⟩, ?_⟩, ?_⟩, ?_⟩, ?_⟩, ?_⟩, ?_⟩
      ·refine rs_plain rfl rfl fun a wr S => ?_
       have X := undrew S.ext
       exact wp_load (ev_of ((S.old 3 (by kernel_rfl)).trans rfl)) (Pa.below X) (done (by kernel_rfl) rbu_refl rfl)
      ·refine rs_plain rfl rfl fun a wr S => ?_
       have X := undrew S.ext
       obtain ⟨v0, e0, h0⟩ := S.got 0 (by kernel_rfl)
       exact st_call cf_rat_Int (args1 ((ev_of (e0 71 (by kernel_rfl))).trans h0)) (by kernel_rfl) rb ((cQInt (show IsM _ _ _ _ from (Ma.below X)) (by omega) (by omega)).mono (ansQ_base X.size)) (fun _ _ _ h => h)
      ·refine rs_plain rfl rfl fun a wr S => ?_
       have X := undrew S.ext
       exact wp_load (ev_of ((S.old 3 (by kernel_rfl)).trans rfl)) (Pa.below X) (done (by kernel_rfl) rbu_refl rfl)
      ·refine rs_plain rfl rfl fun a wr S => ?_
       have X := undrew S.ext
       obtain ⟨v2, e2, h2⟩ := S.got 2 (by kernel_rfl)
       exact wp_bQ1 ((ev_of (e2 73 (by kernel_rfl))).trans h2) (done (by kernel_rfl) rbu_refl rfl)
      ·refine rs_plain rfl rfl fun a wr S => ?_
       have X := undrew S.ext
       obtain ⟨v3, e3, h3⟩ := S.got 3 (by kernel_rfl)
       exact st_call cf_ref03_Made (args1 ((ev_of (e3 74 (by kernel_rfl))).trans h3)) (by kernel_rfl) rb (cMade3 (show IsQm _ _ _ _ from (Ja.below X)) (by omega) (by omega)) (fun _ _ _ h => h)
      ·refine rs_plain rfl rfl fun a wr S => ?_
       have X := undrew S.ext
       obtain ⟨v1, e1, h1⟩ := S.got 1 (by kernel_rfl)
       obtain ⟨v4, e4, h4⟩ := S.got 4 (by kernel_rfl)
       exact st_call cf_law03_same (args2 (ev_of (e1 72 (by kernel_rfl))) (ev_of (e4 75 (by kernel_rfl)))) (by kernel_rfl) rb (cSame3 (show IsQt _ _ _ _ from h1.t) (show IsQt _ _ _ _ from h4) (by omega) (by omega) (r := true) ⟨fun _ => rfl, fun _ => rfl⟩) (fun _ _ _ h => h)
      ·refine rs_plain rfl rfl fun a wr S => ?_
       have X := undrew S.ext
       obtain ⟨v5, e5, h5⟩ := S.got 5 (by kernel_rfl)
       exact wp_mv ((ev_of (e5 76 (by kernel_rfl))).trans h5) (done (by kernel_rfl) rbu_refl rfl)
      ·refine rs_yes rfl rfl (by kernel_rfl) (by kernel_rfl : _ = some 77) (fun _ _ _ h => h) fun a wr S => ?_
       have X := undrew S.ext
       exact wp_mv (ev_of ((S.old 2 (by kernel_rfl)).trans rfl)) (done (by kernel_rfl) rbu_refl rfl)
      ·refine rs_yes rfl rfl (by kernel_rfl) (by kernel_rfl : _ = some 77) (fun _ _ _ h => h) fun a wr S => ?_
       have X := undrew S.ext
       obtain ⟨v7, e7, h7⟩ := S.got 7 (by kernel_rfl)
       exact st_call cf_rat_From (args1 ((ev_of (e7 78 (by kernel_rfl))).trans h7)) (by kernel_rfl) rb ((cQFrom k (by omega) (by omega)).mono (ansQ_base X.size)) (fun _ _ _ h => h)
      ·refine rs_yes rfl rfl (by kernel_rfl) (by kernel_rfl : _ = some 77) (fun _ _ _ h => h) fun a wr S => ?_
       have X := undrew S.ext
       exact wp_qload (ev_of ((S.old 10 (by kernel_rfl)).trans rfl)) (P10.below X) (done (by kernel_rfl) rbu_refl rfl)
      ·refine rs_yes rfl rfl (by kernel_rfl) (by kernel_rfl : _ = some 77) (fun _ _ _ h => h) fun a wr S => ?_
       have X := undrew S.ext
       obtain ⟨v9, e9, h9⟩ := S.got 9 (by kernel_rfl)
       exact st_call cf_ref03_Made (args1 ((ev_of (e9 80 (by kernel_rfl))).trans h9)) (by kernel_rfl) rb (cMade3 (show IsQm _ _ _ _ from (J10.below X)) (by omega) (by omega)) (fun _ _ _ h => h)
      ·refine rs_yes rfl rfl (by kernel_rfl) (by kernel_rfl : _ = some 77) (fun _ _ _ h => h) fun a wr S => ?_
       have X := undrew S.ext
       obtain ⟨v8, e8, h8⟩ := S.got 8 (by kernel_rfl)
       obtain ⟨v10, e10, h10⟩ := S.got 10 (by kernel_rfl)
       exact st_call cf_law03_same (args2 (ev_of (e8 79 (by kernel_rfl))) (ev_of (e10 81 (by kernel_rfl)))) (by kernel_rfl) rb (cSame3 (show IsQt _ _ _ _ from h8.t) (show IsQt _ _ _ _ from h10) (by omega) (by omega) (r := true) ⟨fun _ => rfl, fun _ => rfl⟩) (fun _ _ _ h => h)
      ·refine rs_plain rfl rfl fun a wr S => ?_
       have X := undrew S.ext
       obtain ⟨v6, e6, h6⟩ := S.got 6 (by kernel_rfl)
       obtain ⟨v11, e11, h11⟩ := S.got 11 (by kernel_rfl)
       exact wp_pickT ((ev_of (e6 77 (by kernel_rfl))).trans h6) ((ev_of (e11 82 (by kernel_rfl))).trans h11) (done (by kernel_rfl) rbu_refl rfl)
      ·refine rs_plain rfl rfl fun a wr S => ?_
       have X := undrew S.ext
       obtain ⟨v12, e12, h12⟩ := S.got 12 (by kernel_rfl)
       exact wp_mv ((ev_of (e12 83 (by kernel_rfl))).trans h12) (done (by kernel_rfl) rbu_refl rfl)
      ·refine rs_yes rfl rfl (by kernel_rfl) (by kernel_rfl : _ = some 84) (fun _ _ _ h => h) fun a wr S => ?_
       have X := undrew S.ext
       exact st_call cf_law03_works (show (#[] : Array Operand).map a.eval = #[] by simp) (by kernel_rfl) rb (cWorks3 _) (fun _ _ _ h => h)
      ·refine rs_plain rfl rfl fun a wr S => ?_
       have X := undrew S.ext
       obtain ⟨v13, e13, h13⟩ := S.got 13 (by kernel_rfl)
       obtain ⟨v14, e14, h14⟩ := S.got 14 (by kernel_rfl)
       exact wp_pickT ((ev_of (e13 84 (by kernel_rfl))).trans h13) ((ev_of (e14 85 (by kernel_rfl))).trans h14) (done (by kernel_rfl) rbu_refl rfl)
      ·refine rs_plain rfl rfl fun a wr S => ?_
       have X := undrew S.ext
       obtain ⟨v15, e15, h15⟩ := S.got 15 (by kernel_rfl)
       exact wp_as ((ev_of (e15 86 (by kernel_rfl))).trans h15) (done (by kernel_rfl) rbu_refl rfl)
     ·intro fw6 w6 hR hv
      replace hR := undrew hR
      have f0 : fw6 0 = .agg #[.bool sa, .slice Aa (min na 5) ca] := (hvc (hv 0 (by omega))).elim fun _ h => h
      have f2 : fw6 2 = .agg #[.bool sa, .slice Aa (min na 5) ca] := (hvc (hv 2 (by omega))).elim fun _ h => h
      have f3 : fw6 3 = .agg #[.bool sa, .slice Aa (min na 5) ca, .slice none 0 0] := (hvc (hv 3 (by omega))).elim fun _ h => h
      have f5 : fw6 5 = .bool true := (hvc (hv 5 (by omega))).elim fun _ h => h
      have f6 : fw6 6 = .bool true := (hvc (hv 6 (by omega))).elim fun _ h => h
      have f7 : fw6 7 = .int .i64 k := (hvc (hv 7 (by omega))).elim fun _ h => h
      have f9 : fw6 9 = .agg #[.bool true, .slice (some ⟨w4.heap.size, 0, none⟩) 2 2, .slice none 0 0] := (hvc (hv 9 (by omega))).elim fun _ h => h
      have f11 : fw6 11 = .bool true := (hvc (hv 11 (by omega))).elim fun _ h => h
      have f12 : fw6 12 = .bool true := (hvc (hv 12 (by omega))).elim fun _ h => h
      have f13 : fw6 13 = .bool true := (hvc (hv 13 (by omega))).elim fun _ h => h
      have f14 : fw6 14 = .bool true := (hvc (hv 14 (by omega))).elim fun _ h => h
      have f15 : fw6 15 = .bool true := (hvc (hv 15 (by omega))).elim fun _ h => h
      have f16 : fw6 16 = .bool true := (hvc (hv 16 (by omega))).elim fun _ h => h
      simp only [putFn, Act.put, List.setIfInBounds_toArray, List.set_cons_zero, List.set_cons_succ, f0, f2, f3, f5, f6, f7, f9, f11, f12, f13, f14, f15, f16]
      replace Pa := Pa.below hR
      replace Ma := Ma.below hR
      replace Ja := Ja.below hR
      replace J10 := J10.below hR
      replace P10 := P10.below hR
      replace BB := bl_trans BB hR
      clear hR hv
      go_wp2_with fail
      go_ret
      exact ⟨rfl, BB⟩
    ·skip
     go_upto_region 12 with (fail)
     obtain ⟨J10, P10, OO⟩ := small_pos w4 hk k0 k1
     clear hk
     generalize (w4.alloc _).alloc _ = w7 at J10 P10 OO ⊢
     replace Pa := Pa.below OO
     replace Ma := Ma.below OO
     replace Ja := Ja.below OO
     replace BB := bl_trans BB OO
     clear OO
     refine wp_region_list (Ext := RB) (Rel := RBu) [fun v _ _ => v = .agg #[.bool sa, .slice Aa (min na 5) ca], fun v _ w => IsQ (w7).heap.size w v (((z : Int) : Rat)) 5, fun v _ _ => v = .agg #[.bool sa, .slice Aa (min na 5) ca], fun v _ _ => v = .agg #[.bool sa, .slice Aa (min na 5) ca, .slice none 0 0], fun v _ w => IsQt w v (((z : Int) : Rat)) 5, fun v _ _ => v = .bool true, fun v _ _ => v = .bool true, fun v _ _ => v = .int .i64 k, fun v _ w => IsQ (w7).heap.size w v (((k : Int) : Rat)) 2, fun v _ _ => v = .agg #[.bool false, .slice (some ⟨w4.heap.size, 0, none⟩) 2 2, .slice none 0 0], fun v _ w => IsQt w v (((k : Int) : Rat)) 2, fun v _ _ => v = .bool true, fun v _ _ => v = .bool true, fun v _ _ => v = .bool true, fun v _ _ => v = .bool true, fun v _ _ => v = .bool true, fun v _ _ => v = .bool true] (n := 17) (by kernel_rfl) rfl (by kernel_rfl) (by kernel_rfl) (by kernel_rfl) (by kernel_rfl) (by kernel_rfl) rb_refl rb_trans ⟨sC, ⟨sQ, ⟨sC, ⟨sC, ⟨sQt, ⟨sC, ⟨sC, ⟨sC, ⟨sQ, ⟨sC, ⟨sQt, ⟨sC, ⟨sC, ⟨sC, ⟨sC, ⟨sC, ⟨sC, trivial⟩⟩⟩⟩⟩⟩⟩⟩⟩⟩⟩⟩⟩⟩⟩⟩⟩ ?_ ?_
     ·refine ⟨⟨⟨⟨⟨⟨⟨⟨⟨⟨⟨⟨⟨⟨⟨⟨⟨trivial, ?_⟩, ?_⟩, ?_⟩, ?_⟩, ?_⟩, ?_⟩, ?_⟩, ?_⟩, ?_⟩, ?_⟩, ?_⟩, ?_⟩, ?_⟩, ?_⟩, ?_⟩, ?_⟩, ?_⟩
      ·refine rs_plain rfl rfl fun a wr S => ?_
       have X := undrew S.ext
       exact wp_load (ev_of ((S.old 3 (by kernel_rfl)).trans rfl)) (Pa.below X) (done (by kernel_rfl) rbu_refl rfl)
      ·refine rs_plain rfl rfl fun a wr S => ?_
       have X := undrew S.ext
       obtain ⟨v0, e0, h0⟩ := S.got 0 (by kernel_rfl)
       exact st_call cf_rat_Int (args1 ((ev_of (e0 71 (by kernel_rfl))).trans h0)) (by kernel_rfl) rb ((cQInt (show IsM _ _ _ _ from (Ma.below X)) (by omega) (by omega)).mono (ansQ_base X.size)) (fun _ _ _ h => h)
      ·refine rs_plain rfl rfl fun a wr S => ?_
       have X := undrew S.ext
       exact wp_load (ev_of ((S.old 3 (by kernel_rfl)).trans rfl)) (Pa.below X) (done (by kernel_rfl) rbu_refl rfl)
      ·refine rs_plain rfl rfl fun a wr S => ?_
       have X := undrew S.ext
       obtain ⟨v2, e2, h2⟩ := S.got 2 (by kernel_rfl)
       exact wp_bQ1 ((ev_of (e2 73 (by kernel_rfl))).trans h2) (done (by kernel_rfl) rbu_refl rfl)
      ·refine rs_plain rfl rfl fun a wr S => ?_
       have X := undrew S.ext
       obtain ⟨v3, e3, h3⟩ := S.got 3 (by kernel_rfl)
       exact st_call cf_ref03_Made (args1 ((ev_of (e3 74 (by kernel_rfl))).trans h3)) (by kernel_rfl) rb (cMade3 (show IsQm _ _ _ _ from (Ja.below X)) (by omega) (by omega)) (fun _ _ _ h => h)
      ·refine rs_plain rfl rfl fun a wr S => ?_
       have X := undrew S.ext
       obtain ⟨v1, e1, h1⟩ := S.got 1 (by kernel_rfl)
       obtain ⟨v4, e4, h4⟩ := S.got 4 (by kernel_rfl)
       exact st_call cf_law03_same (args2 (ev_of (e1 72 (by kernel_rfl))) (ev_of (e4 75 (by kernel_rfl)))) (by kernel_rfl) rb (cSame3 (show IsQt _ _ _ _ from h1.t) (show IsQt _ _ _ _ from h4) (by omega) (by omega) (r := true) ⟨fun _ => rfl, fun _ => rfl⟩) (fun _ _ _ h => h)
      ·refine rs_plain rfl rfl fun a wr S => ?_
       have X := undrew S.ext
       obtain ⟨v5, e5, h5⟩ := S.got 5 (by kernel_rfl)
       exact wp_mv ((ev_of (e5 76 (by kernel_rfl))).trans h5) (done (by kernel_rfl) rbu_refl rfl)
      ·refine rs_yes rfl rfl (by kernel_rfl) (by kernel_rfl : _ = some 77) (fun _ _ _ h => h) fun a wr S => ?_
       have X := undrew S.ext
       exact wp_mv (ev_of ((S.old 2 (by kernel_rfl)).trans rfl)) (done (by kernel_rfl) rbu_refl rfl)
      ·refine rs_yes rfl rfl (by kernel_rfl) (by kernel_rfl : _ = some 77) (fun _ _ _ h => h) fun a wr S => ?_
       have X := undrew S.ext
       obtain ⟨v7, e7, h7⟩ := S.got 7 (by kernel_rfl)
       exact st_call cf_rat_From (args1 ((ev_of (e7 78 (by kernel_rfl))).trans h7)) (by kernel_rfl) rb ((cQFrom k (by omega) (by omega)).mono (ansQ_base X.size)) (fun _ _ _ h => h)
      ·refine rs_yes rfl rfl (by kernel_rfl) (by kernel_rfl : _ = some 77) (fun _ _ _ h => h) fun a wr S => ?_
       have X := undrew S.ext
       exact wp_qload (ev_of ((S.old 10 (by kernel_rfl)).trans rfl)) (P10.below X) (done (by kernel_rfl) rbu_refl rfl)
      ·refine rs_yes rfl rfl (by kernel_rfl) (by kernel_rfl : _ = some 77) (fun _ _ _ h => h) fun a wr S => ?_
       have X := undrew S.ext
       obtain ⟨v9, e9, h9⟩ := S.got 9 (by kernel_rfl)
       exact st_call cf_ref03_Made (args1 ((ev_of (e9 80 (by kernel_rfl))).trans h9)) (by kernel_rfl) rb (cMade3 (show IsQm _ _ _ _ from (J10.below X)) (by omega) (by omega)) (fun _ _ _ h => h)
      ·refine rs_yes rfl rfl (by kernel_rfl) (by kernel_rfl : _ = some 77) (fun _ _ _ h => h) fun a wr S => ?_
       have X := undrew S.ext
       obtain ⟨v8, e8, h8⟩ := S.got 8 (by kernel_rfl)
       obtain ⟨v10, e10, h10⟩ := S.got 10 (by kernel_rfl)
       exact st_call cf_law03_same (args2 (ev_of (e8 79 (by kernel_rfl))) (ev_of (e10 81 (by kernel_rfl)))) (by kernel_rfl) rb (cSame3 (show IsQt _ _ _ _ from h8.t) (show IsQt _ _ _ _ from h10) (by omega) (by omega) (r := true) ⟨fun _ => rfl, fun _ => rfl⟩) (fun _ _ _ h => h)
      ·refine rs_plain rfl rfl fun a wr S => ?_
       have X := undrew S.ext
       obtain ⟨v6, e6, h6⟩ := S.got 6 (by kernel_rfl)
       obtain ⟨v11, e11, h11⟩ := S.got 11 (by kernel_rfl)
       exact wp_pickT ((ev_of (e6 77 (by kernel_rfl))).trans h6) ((ev_of (e11 82 (by kernel_rfl))).trans h11) (done (by kernel_rfl) rbu_refl rfl)
      ·refine rs_plain rfl rfl fun a wr S => ?_
       have X := undrew S.ext
       obtain ⟨v12, e12, h12⟩ := S.got 12 (by kernel_rfl)
       exact wp_mv ((ev_of (e12 83 (by kernel_rfl))).trans h12) (done (by kernel_rfl) rbu_refl rfl)
      ·refine rs_yes rfl rfl (by kernel_rfl) (by kernel_rfl : _ = some 84) (fun _ _ _ h => h) fun a wr S => ?_
       have X := undrew S.ext
       exact st_call cf_law03_works (show (#[] : Array Operand).map a.eval = #[] by simp) (by kernel_rfl) rb (cWorks3 _) (fun _ _ _ h => h)
      ·refine rs_plain rfl rfl fun a wr S => ?_
       have X := undrew S.ext
       obtain ⟨v13, e13, h13⟩ := S.got 13 (by kernel_rfl)
       obtain ⟨v14, e14, h14⟩ := S.got 14 (by kernel_rfl)
       exact wp_pickT ((ev_of (e13 84 (by kernel_rfl))).trans h13) ((ev_of (e14 85 (by kernel_rfl))).trans h14) (done (by kernel_rfl) rbu_refl rfl)
      ·refine rs_plain rfl rfl fun a wr S => ?_
       have X := undrew S.ext
       obtain ⟨v15, e15, h15⟩ := S.got 15 (by kernel_rfl)
       exact wp_as ((ev_of (e15 86 (by kernel_rfl))).trans h15) (done (by kernel_rfl) rbu_refl rfl)
     ·intro fw8 w8 hR hv
      replace hR := undrew hR
      have f0 : fw8 0 = .agg #[.bool sa, .slice Aa (min na 5) ca] := (hvc (hv 0 (by omega))).elim fun _ h => h
      have f2 : fw8 2 = .agg #[.bool sa, .slice Aa (min na 5) ca] := (hvc (hv 2 (by omega))).elim fun _ h => h
      have f3 : fw8 3 = .agg #[.bool sa, .slice Aa (min na 5) ca, .slice none 0 0] := (hvc (hv 3 (by omega))).elim fun _ h => h
      have f5 : fw8 5 = .bool true := (hvc (hv 5 (by omega))).elim fun _ h => h
      have f6 : fw8 6 = .bool true := (hvc (hv 6 (by omega))).elim fun _ h => h
      have f7 : fw8 7 = .int .i64 k := (hvc (hv 7 (by omega))).elim fun _ h => h
      have f9 : fw8 9 = .agg #[.bool false, .slice (some ⟨w4.heap.size, 0, none⟩) 2 2, .slice none 0 0] := (hvc (hv 9 (by omega))).elim fun _ h => h
      have f11 : fw8 11 = .bool true := (hvc (hv 11 (by omega))).elim fun _ h => h
      have f12 : fw8 12 = .bool true := (hvc (hv 12 (by omega))).elim fun _ h => h
      have f13 : fw8 13 = .bool true := (hvc (hv 13 (by omega))).elim fun _ h => h
      have f14 : fw8 14 = .bool true := (hvc (hv 14 (by omega))).elim fun _ h => h
      have f15 : fw8 15 = .bool true := (hvc (hv 15 (by omega))).elim fun _ h => h
      have f16 : fw8 16 = .bool true := (hvc (hv 16 (by omega))).elim fun _ h => h
      simp only [putFn, Act.put, List.setIfInBounds_toArray, List.set_cons_zero, List.set_cons_succ, f0, f2, f3, f5, f6, f7, f9, f11, f12, f13, f14, f15, f16]
      replace Pa := Pa.below hR
      replace Ma := Ma.below hR
      replace Ja := Ja.below hR
      replace J10 := J10.below hR
      replace P10 := P10.below hR
      replace BB := bl_trans BB hR
      clear hR hv
      go_wp2_with fail
      go_ret
      exact ⟨rfl, BB⟩
 ·have HU := Lib.hid hu
  clear hu
  have EO := Lib.hid (show eO u = 0 from if_neg HU.out)
  have ra0 := Pa.c0
  have ra1 := Pa.c1
  have rb0 := Pb.c0
  have rb1 := Pb.c1
  go_wp2_with fail
  clear ra0 ra1 rb0 rb1
  refine (cOfQA Ma Mb (by omega) (by omega) (by omega)).mono ?_
  rw [EO.out]
  rintro e w9 ⟨_, rfl, hb, b7, A7, n7, c7, B7, m7, d7, rfl, q7⟩
  replace Pa := Pa.below hb
  replace Pb := Pb.below hb
  replace Ma := Ma.below hb
  replace Ja := Ja.below hb
  replace Mb := Mb.below hb
  replace Jb := Jb.below hb
  replace BB := bl_trans BB hb
  clear hb
  replace q7 := q7.t
  have OO := bl_alloc w9 (.cells #[.bool b7, .slice A7 n7 c7, .slice B7 m7 d7] 26)
  have P7 := Bq.new w9 b7 A7 n7 c7 B7 m7 d7
  replace Pa := Pa.below OO
  replace Pb := Pb.below OO
  replace Ma := Ma.below OO
  replace Ja := Ja.below OO
  replace Mb := Mb.below OO
  replace Jb := Jb.below OO
  replace q7 := q7.below OO
  replace BB := bl_trans BB OO
  clear OO
  go_upto_region 3 with (fail)
  generalize w9.alloc _ = w10 at Pa Pb Ma Ja Mb Jb q7 P7 BB ⊢
  refine wp_seq 3 ?_
  simp only [List.take_succ_cons, List.take_zero, List.drop_succ_cons, List.drop_zero]
  refine wp_seq_list (Ext := RB) (Rel := RBu) [fun v _ _ => v = .agg #[.bool sb, .slice Ab (min nb 5) cb], fun v _ _ => v = .agg #[.bool sb, .slice Ab (min nb 5) cb, .slice none 0 0], fun v _ _ => v = .bool false] (n := 3) (by kernel_rfl) (by kernel_rfl) (by kernel_rfl) (by kernel_rfl) (by kernel_rfl) (by kernel_rfl) (by kernel_rfl) rb_refl rb_trans ⟨sC, ⟨sC, ⟨sC, trivial⟩⟩⟩ ?_ ?_
  ·refine ⟨⟨⟨trivial, ?_⟩, ?_⟩, ?_⟩
   ·refine rs_plain rfl rfl fun a wr S => ?_
    have X := rbX S.ext
    exact wp_load (ev_of ((S.old 4 (by kernel_rfl)).trans rfl)) (Pb.below X) (done (by kernel_rfl) rbu_refl rfl)
   ·refine rs_plain rfl rfl fun a wr S => ?_
    have X := rbX S.ext
    obtain ⟨v0, e0, h0⟩ := S.got 0 (by kernel_rfl)
    exact wp_bQ1 ((ev_of (e0 33 (by kernel_rfl))).trans h0) (done (by kernel_rfl) rbu_refl rfl)
   ·refine rs_plain rfl rfl fun a wr S => ?_
    have X := rbX S.ext
    obtain ⟨v1, e1, h1⟩ := S.got 1 (by kernel_rfl)
    exact st_call cf_ref03_Zero (args1 ((ev_of (e1 34 (by kernel_rfl))).trans h1)) (by kernel_rfl) rb ((cZero3 (show IsQm _ _ _ _ from (Jb.below X)) (by omega)).mono (ansB (decide_eq_false fun h => HU.out (Rat.intCast_eq_zero_iff.1 h)))) (fun _ _ _ h => h)
  ·intro fw11 w11 hR hv hap
   clear hap
   replace hR := rbX hR
   have f0 : fw11 0 = .agg #[.bool sb, .slice Ab (min nb 5) cb] := (hvc (hv 0 (by omega))).elim fun _ h => h
   have f1 : fw11 1 = .agg #[.bool sb, .slice Ab (min nb 5) cb, .slice none 0 0] := (hvc (hv 1 (by omega))).elim fun _ h => h
   have f2 : fw11 2 = .bool false := (hvc (hv 2 (by omega))).elim fun _ h => h
   simp only [putFn, Act.put, List.setIfInBounds_toArray, List.set_cons_zero, List.set_cons_succ, f0, f1, f2]
   replace Pa := Pa.below hR
   replace Pb := Pb.below hR
   replace Ma := Ma.below hR
   replace Ja := Ja.below hR
   replace Mb := Mb.below hR
   replace Jb := Jb.below hR
   replace q7 := q7.below hR
   replace P7 := P7.below hR
   replace BB := bl_trans BB hR
   clear hR hv
   go_upto_region 6 with (fail)
   refine wp_region_list (Ext := RB) (Rel := RBu) [fun v _ _ => v = .int .i64 0, fun v _ _ => v = .bool false, fun v _ _ => v = .bool false, fun v _ _ => v = .agg #[.bool b7, .slice A7 n7 c7, .slice B7 m7 d7], fun v _ _ => v = .agg #[.bool sa, .slice Aa (min na 5) ca], fun v _ _ => v = .agg #[.bool sb, .slice Ab (min nb 5) cb], fun v _ w => IsQt w v (Rat.divInt z u) 5, fun v _ _ => v = .bool true, fun v _ _ => v = .bool false, fun v _ _ => v = .bool false] (n := 10) (by kernel_rfl) rfl (by kernel_rfl) (by kernel_rfl) (by kernel_rfl) (by kernel_rfl) (by kernel_rfl) rb_refl rb_trans ⟨sC, ⟨sC, ⟨sC, ⟨sC, ⟨sC, ⟨sC, ⟨sQt, ⟨sC, ⟨sC, ⟨sC, trivial⟩⟩⟩⟩⟩⟩⟩⟩⟩⟩ ?_ ?_
   ·refine ⟨⟨⟨⟨⟨⟨⟨⟨⟨⟨trivial, ?_⟩, ?_⟩, ?_⟩, ?_⟩, ?_⟩, ?_⟩, ?_⟩, ?_⟩, ?_⟩, ?_⟩
    ·refine rs_plain rfl rfl fun a wr S => ?_
     have X := undrew S.ext
     exact wp_mv (ev_of ((S.old 8 (by kernel_rfl)).trans rfl)) (done (by kernel_rfl) rbu_refl rfl)
    ·refine rs_plain rfl rfl fun a wr S => ?_
     have X := undrew S.ext
     obtain ⟨v0, e0, h0⟩ := S.got 0 (by kernel_rfl)
     exact wp_neI ((ev_of (e0 45 (by kernel_rfl))).trans h0) rfl (Or.inr rfl) (done (by kernel_rfl) rbu_refl (congrArg Value.bool (by decide)))
    ·refine rs_plain rfl rfl fun a wr S => ?_
     have X := undrew S.ext
     obtain ⟨v1, e1, h1⟩ := S.got 1 (by kernel_rfl)
     exact wp_mv ((ev_of (e1 46 (by kernel_rfl))).trans h1) (done (by kernel_rfl) rbu_refl rfl)
    ·refine rs_yes rfl rfl (by kernel_rfl) (by kernel_rfl : _ = some 47) (fun _ _ _ h => h) fun a wr S => ?_
     have X := undrew S.ext
     exact wp_qload (ev_of ((S.old 7 (by kernel_rfl)).trans rfl)) (P7.below X) (done (by kernel_rfl) rbu_refl rfl)
    ·refine rs_yes rfl rfl (by kernel_rfl) (by kernel_rfl : _ = some 47) (fun _ _ _ h => h) fun a wr S => ?_
     have X := undrew S.ext
     exact wp_load (ev_of ((S.old 3 (by kernel_rfl)).trans rfl)) (Pa.below X) (done (by kernel_rfl) rbu_refl rfl)
    ·refine rs_yes rfl rfl (by kernel_rfl) (by kernel_rfl : _ = some 47) (fun _ _ _ h => h) fun a wr S => ?_
     have X := undrew S.ext
     exact wp_load (ev_of ((S.old 4 (by kernel_rfl)).trans rfl)) (Pb.below X) (done (by kernel_rfl) rbu_refl rfl)
    ·refine rs_yes rfl rfl (by kernel_rfl) (by kernel_rfl : _ = some 47) (fun _ _ _ h => h) fun a wr S => ?_
     have X := undrew S.ext
     obtain ⟨v4, e4, h4⟩ := S.got 4 (by kernel_rfl)
     obtain ⟨v5, e5, h5⟩ := S.got 5 (by kernel_rfl)
     exact st_call cf_ref03_Of (args2 ((ev_of (e4 49 (by kernel_rfl))).trans h4) ((ev_of (e5 50 (by kernel_rfl))).trans h5)) (by kernel_rfl) rb (cOf3R (show IsM _ _ _ _ from (Ma.below X)) (show IsM _ _ _ _ from (Mb.below X)) (by omega) (by omega) HU.out) (fun _ _ _ h => h)
    ·refine rs_yes rfl rfl (by kernel_rfl) (by kernel_rfl : _ = some 47) (fun _ _ _ h => h) fun a wr S => ?_
     have X := undrew S.ext
     obtain ⟨v3, e3, h3⟩ := S.got 3 (by kernel_rfl)
     obtain ⟨v6, e6, h6⟩ := S.got 6 (by kernel_rfl)
     exact st_call cf_law03_same (args2 ((ev_of (e3 48 (by kernel_rfl))).trans h3) (ev_of (e6 51 (by kernel_rfl)))) (by kernel_rfl) rb (cSame3 (show IsQt _ _ _ _ from (q7.below X)) (show IsQt _ _ _ _ from h6) (by omega) (by omega) (r := true) ⟨fun _ => rfl, fun _ => rfl⟩) (fun _ _ _ h => h)
    ·refine rs_yes rfl rfl (by kernel_rfl) (by kernel_rfl : _ = some 47) (fun _ _ _ h => h) fun a wr S => ?_
     have X := undrew S.ext
     obtain ⟨v7, e7, h7⟩ := S.got 7 (by kernel_rfl)
     exact wp_not ((ev_of (e7 52 (by kernel_rfl))).trans h7) (done (by kernel_rfl) rbu_refl rfl)
    ·refine rs_plain rfl rfl fun a wr S => ?_
     have X := undrew S.ext
     obtain ⟨v2, e2, h2⟩ := S.got 2 (by kernel_rfl)
     obtain ⟨v8, e8, h8⟩ := S.got 8 (by kernel_rfl)
     exact wp_pickF ((ev_of (e2 47 (by kernel_rfl))).trans h2) ((ev_of (e8 53 (by kernel_rfl))).trans h8) (done (by kernel_rfl) rbu_refl rfl)
   ·intro fw12 w12 hR hv
    replace hR := undrew hR
    have f0 : fw12 0 = .int .i64 0 := (hvc (hv 0 (by omega))).elim fun _ h => h
    have f1 : fw12 1 = .bool false := (hvc (hv 1 (by omega))).elim fun _ h => h
    have f2 : fw12 2 = .bool false := (hvc (hv 2 (by omega))).elim fun _ h => h
    have f3 : fw12 3 = .agg #[.bool b7, .slice A7 n7 c7, .slice B7 m7 d7] := (hvc (hv 3 (by omega))).elim fun _ h => h
    have f4 : fw12 4 = .agg #[.bool sa, .slice Aa (min na 5) ca] := (hvc (hv 4 (by omega))).elim fun _ h => h
    have f5 : fw12 5 = .agg #[.bool sb, .slice Ab (min nb 5) cb] := (hvc (hv 5 (by omega))).elim fun _ h => h
    have f7 : fw12 7 = .bool true := (hvc (hv 7 (by omega))).elim fun _ h => h
    have f8 : fw12 8 = .bool false := (hvc (hv 8 (by omega))).elim fun _ h => h
    have f9 : fw12 9 = .bool false := (hvc (hv 9 (by omega))).elim fun _ h => h
    simp only [putFn, Act.put, List.setIfInBounds_toArray, List.set_cons_zero, List.set_cons_succ, f0, f1, f2, f3, f4, f5, f7, f8, f9]
    replace Pa := Pa.below hR
    replace Pb := Pb.below hR
    replace Ma := Ma.below hR
    replace Ja := Ja.below hR
    replace Mb := Mb.below hR
    replace Jb := Jb.below hR
    replace q7 := q7.below hR
    replace P7 := P7.below hR
    replace BB := bl_trans BB hR
    clear hR hv
    go_upto_region 8 with (fail)
    clear q7 P7 Mb Jb Pb
    by_cases hk : k < 0
    ·skip
     go_upto_region 12 with (fail)
     obtain ⟨J10, P10, OO⟩ := small_neg w12 hk k0
     clear hk
     generalize (w12.alloc _).alloc _ = w13 at J10 P10 OO ⊢
     replace Pa := Pa.below OO
     replace Ma := Ma.below OO
     replace Ja := Ja.below OO
     replace BB := bl_trans BB OO
     clear OO
     refine wp_region_list (Ext := RB) (Rel := RBu) [fun v _ _ => v = .agg #[.bool sa, .slice Aa (min na 5) ca], fun v _ w => IsQ (w13).heap.size w v (((z : Int) : Rat)) 5, fun v _ _ => v = .agg #[.bool sa, .slice Aa (min na 5) ca], fun v _ _ => v = .agg #[.bool sa, .slice Aa (min na 5) ca, .slice none 0 0], fun v _ w => IsQt w v (((z : Int) : Rat)) 5, fun v _ _ => v = .bool true, fun v _ _ => v = .bool true, fun v _ _ => v = .int .i64 k, fun v _ w => IsQ (w13).heap.size w v (((k : Int) : Rat)) 2, fun v _ _ => v = .agg #[.bool true, .slice (some ⟨w12.heap.size, 0, none⟩) 2 2, .slice none 0 0], fun v _ w => IsQt w v (((k : Int) : Rat)) 2, fun v _ _ => v = .bool true, fun v _ _ => v = .bool true, fun v _ _ => v = .bool true, fun v _ _ => v = .bool true, fun v _ _ => v = .bool true, fun v _ _ => v = .bool true] (n := 17) (by kernel_rfl) rfl (by kernel_rfl) (by kernel_rfl) (by kernel_rfl) (by kernel_rfl) (by kernel_rfl) rb_refl rb_trans ⟨sC, ⟨sQ, ⟨sC, ⟨sC, ⟨sQt, ⟨sC, ⟨sC, ⟨sC, ⟨sQ, ⟨sC, ⟨sQt, ⟨sC, ⟨sC, ⟨sC, ⟨sC, ⟨sC, ⟨sC, trivial⟩⟩⟩⟩⟩⟩⟩⟩⟩⟩⟩⟩⟩⟩⟩⟩⟩ ?_ ?_
     ·refine ⟨⟨⟨⟨⟨⟨⟨⟨⟨⟨⟨⟨⟨⟨⟨⟨⟨trivial, ?_⟩, ?_⟩, ?_⟩, ?_⟩, ?_⟩, ?_⟩, ?_⟩, ?_⟩, ?_⟩, ?_⟩, ?_⟩, ?_⟩, ?_⟩, ?_⟩, ?_⟩, ?_⟩, ?_⟩
      ·refine rs_plain rfl rfl fun a wr S => ?_
       have X := undrew S.ext
       exact wp_load (ev_of ((S.old 3 (by kernel_rfl)).trans rfl)) (Pa.below X) (done (by kernel_rfl) rbu_refl rfl)
      ·refine rs_plain rfl rfl fun a wr S => ?_
       have X := undrew S.ext
       obtain ⟨v0, e0, h0⟩ := S.got 0 (by kernel_rfl)
       exact st_call cf_rat_Int (args1 ((ev_of (e0 71 (by kernel_rfl))).trans h0)) (by kernel_rfl) rb ((cQInt (show IsM _ _ _ _ from (Ma.below X)) (by omega) (by omega)).mono (ansQ_base X.size)) (fun _ _ _ h => h)
      ·refine rs_plain rfl rfl fun a wr S => ?_
       have X := undrew S.ext
       exact wp_load (ev_of ((S.old 3 (by kernel_rfl)).trans rfl)) (Pa.below X) (done (by kernel_rfl) rbu_refl rfl)
      ·refine rs_plain rfl rfl fun a wr S => ?_
       have X := undrew S.ext
       obtain ⟨v2, e2, h2⟩ := S.got 2 (by kernel_rfl)
       exact wp_bQ1 ((ev_of (e2 73 (by kernel_rfl))).trans h2) (done (by kernel_rfl) rbu_refl rfl)
      ·refine rs_plain rfl rfl fun a wr S => ?_
       have X := undrew S.ext
       obtain ⟨v3, e3, h3⟩ := S.got 3 (by kernel_rfl)
       exact st_call cf_ref03_Made (args1 ((ev_of (e3 74 (by kernel_rfl))).trans h3)) (by kernel_rfl) rb (cMade3 (show IsQm _ _ _ _ from (Ja.below X)) (by omega) (by omega)) (fun _ _ _ h => h)
      ·refine rs_plain rfl rfl fun a wr S => ?_
       have X := undrew S.ext
       obtain ⟨v1, e1, h1⟩ := S.got 1 (by kernel_rfl)
       obtain ⟨v4, e4, h4⟩ := S.got 4 (by kernel_rfl)
       exact st_call cf_law03_same (args2 (ev_of (e1 72 (by kernel_rfl))) (ev_of (e4 75 (by kernel_rfl)))) (by kernel_rfl) rb (cSame3 (show IsQt _ _ _ _ from h1.t) (show IsQt _ _ _ _ from h4) (by omega) (by omega) (r := true) ⟨fun _ => rfl, fun _ => rfl⟩) (fun _ _ _ h => h)
      ·refine rs_plain rfl rfl fun a wr S => ?_
       have X := undrew S.ext
       obtain ⟨v5, e5, h5⟩ := S.got 5 (by kernel_rfl)
       exact wp_mv ((ev_of (e5 76 (by kernel_rfl))).trans h5) (done (by kernel_rfl) rbu_refl rfl)
      ·refine rs_yes rfl rfl (by kernel_rfl) (by kernel_rfl : _ = some 77) (fun _ _ _ h => h) fun a wr S => ?_
       have X := undrew S.ext
       exact wp_mv (ev_of ((S.old 2 (by kernel_rfl)).trans rfl)) (done (by kernel_rfl) rbu_refl rfl)
      ·refine rs_yes rfl rfl (by kernel_rfl) (by kernel_rfl : _ = some 77) (fun _ _ _ h => h) fun a wr S => ?_
       have X := undrew S.ext
       obtain ⟨v7, e7, h7⟩ := S.got 7 (by kernel_rfl)
       exact st_call cf_rat_From (args1 ((ev_of (e7 78 (by kernel_rfl))).trans h7)) (by kernel_rfl) rb ((cQFrom k (by omega) (by omega)).mono (ansQ_base X.size)) (fun _ _ _ h => h)
      ·refine rs_yes rfl rfl (by kernel_rfl) (by kernel_rfl : _ = some 77) (fun _ _ _ h => h) fun a wr S => ?_
       have X := undrew S.ext
       exact wp_qload (ev_of ((S.old 10 (by kernel_rfl)).trans rfl)) (P10.below X) (done (by kernel_rfl) rbu_refl rfl)
      ·refine rs_yes rfl rfl (by kernel_rfl) (by kernel_rfl : _ = some 77) (fun _ _ _ h => h) fun a wr S => ?_
       have X := undrew S.ext
       obtain ⟨v9, e9, h9⟩ := S.got 9 (by kernel_rfl)
       exact st_call cf_ref03_Made (args1 ((ev_of (e9 80 (by kernel_rfl))).trans h9)) (by kernel_rfl) rb (cMade3 (show IsQm _ _ _ _ from (J10.below X)) (by omega) (by omega)) (fun _ _ _ h => h)
      ·refine rs_yes rfl rfl (by kernel_rfl) (by kernel_rfl : _ = some 77) (fun _ _ _ h => h) fun a wr S => ?_
       have X := undrew S.ext
       obtain ⟨v8, e8, h8⟩ := S.got 8 (by kernel_rfl)
       obtain ⟨v10, e10, h10⟩ := S.got 10 (by kernel_rfl)
       exact st_call cf_law03_same (args2 (ev_of (e8 79 (by kernel_rfl))) (ev_of (e10 81 (by kernel_rfl)))) (by kernel_rfl) rb (cSame3 (show IsQt _ _ _ _ from h8.t) (show IsQt _ _ _ _ from h10) (by omega) (by omega) (r := true) ⟨fun _ => rfl, fun _ => rfl⟩) (fun _ _ _ h => h)
      ·refine rs_plain rfl rfl fun a wr S => ?_
       have X := undrew S.ext
       obtain ⟨v6, e6, h6⟩ := S.got 6 (by kernel_rfl)
       obtain ⟨v11, e11, h11⟩ := S.got 11 (by kernel_rfl)
       exact wp_pickT ((ev_of (e6 77 (by kernel_rfl))).trans h6) ((ev_of (e11 82 (by kernel_rfl))).trans h11) (done (by kernel_rfl) rbu_refl rfl)
      ·refine rs_plain rfl rfl fun a wr S => ?_
       have X := undrew S.ext
       obtain ⟨v12, e12, h12⟩ := S.got 12 (by kernel_rfl)
       exact wp_mv ((ev_of (e12 83 (by kernel_rfl))).trans h12) (done (by kernel_rfl) rbu_refl rfl)
      ·refine rs_yes rfl rfl (by kernel_rfl) (by kernel_rfl : _ = some 84) (fun _ _ _ h => h) fun a wr S => ?_
       have X := undrew S.ext
       exact st_call cf_law03_works (show (#[] : Array Operand).map a.eval = #[] by simp) (by kernel_rfl) rb (cWorks3 _) (fun _ _ _ h => h)
      ·refine rs_plain rfl rfl fun a wr S => ?_
       have X := undrew S.ext
       obtain ⟨v13, e13, h13⟩ := S.got 13 (by kernel_rfl)
       obtain ⟨v14, e14, h14⟩ := S.got 14 (by kernel_rfl)
       exact wp_pickT ((ev_of (e13 84 (by kernel_rfl))).trans h13) ((ev_of (e14 85 (by kernel_rfl))).trans h14) (done (by kernel_rfl) rbu_refl rfl)
      ·refine rs_plain rfl rfl fun a wr S => ?_
       have X := undrew S.ext
       obtain ⟨v15, e15, h15⟩ := S.got 15 (by kernel_rfl)
       exact wp_as ((ev_of (e15 86 (by kernel_rfl))).trans h15) (done (by kernel_rfl) rbu_refl rfl)
     ·intro fw14 w14 hR hv
      replace hR := undrew hR
      have f0 : fw14 0 = .agg #[.bool sa, .slice Aa (min na 5) ca] := (hvc (hv 0 (by omega))).elim fun _ h => h
      have f2 : fw14 2 = .agg #[.bool sa, .slice Aa (min na 5) ca] := (hvc (hv 2 (by omega))).elim fun _ h => h
      have f3 : fw14 3 = .agg #[.bool sa, .slice Aa (min na 5) ca, .slice none 0 0] := (hvc (hv 3 (by omega))).elim fun _ h => h
      have f5 : fw14 5 = .bool true := (hvc (hv 5 (by omega))).elim fun _ h => h
      have f6 : fw14 6 = .bool true := (hvc (hv 6 (by omega))).elim fun _ h => h
      have f7 : fw14 7 = .int .i64 k := (hvc (hv 7 (by omega))).elim fun _ h => h
      have f9 : fw14 9 = .agg #[.bool true, .slice (some ⟨w12.heap.size, 0, none⟩) 2 2, .slice none 0 0] := (hvc (hv 9 (by omega))).elim fun _ h => h
      have f11 : fw14 11 = .bool true := (hvc (hv 11 (by omega))).elim fun _ h => h
      have f12 : fw14 12 = .bool true := (hvc (hv 12 (by omega))).elim fun _ h => h
      have f13 : fw14 13 = .bool true := (hvc (hv 13 (by omega))).elim fun _ h => h
      have f14 : fw14 14 = .bool true := (hvc (hv 14 (by omega))).elim fun _ h => h
      have f15 : fw14 15 = .bool true := (hvc (hv 15 (by omega))).elim fun _ h => h
      have f16 : fw14 16 = .bool true := (hvc (hv 16 (by omega))).elim fun _ h => h
      simp only [putFn, Act.put, List.setIfInBounds_toArray, List.set_cons_zero, List.set_cons_succ, f0, f2, f3, f5, f6, f7, f9, f11, f12, f13, f14, f15, f16]
      replace Pa := Pa.below hR
      replace Ma := Ma.below hR
      replace Ja := Ja.below hR
      replace J10 := J10.below hR
      replace P10 := P10.below hR
      replace BB := bl_trans BB hR
      clear hR hv
      go_wp2_with fail
      go_ret
      exact ⟨rfl, BB⟩
    ·skip
     go_upto_region 12 with (fail)
     obtain ⟨J10, P10, OO⟩ := small_pos w12 hk k0 k1
     clear hk
     generalize (w12.alloc _).alloc _ = w15 at J10 P10 OO ⊢
     replace Pa := Pa.below OO
     replace Ma := Ma.below OO
     replace Ja := Ja.below OO
     replace BB := bl_trans BB OO
     clear OO
     refine wp_region_list (Ext := RB) (Rel := RBu) [fun v _ _ => v = .agg #[.bool sa, .slice Aa (min na 5) ca], fun v _ w => IsQ (w15).heap.size w v (((z : Int) : Rat)) 5, fun v _ _ => v = .agg #[.bool sa, .slice Aa (min na 5) ca], fun v _ _ => v = .agg #[.bool sa, .slice Aa (min na 5) ca, .slice none 0 0], fun v _ w => IsQt w v (((z : Int) : Rat)) 5, fun v _ _ => v = .bool true, fun v _ _ => v = .bool true, fun v _ _ => v = .int .i64 k, fun v _ w => IsQ (w15).heap.size w v (((k : Int) : Rat)) 2, fun v _ _ => v = .agg #[.bool false, .slice (some ⟨w12.heap.size, 0, none⟩) 2 2, .slice none 0 0], fun v _ w => IsQt w v (((k : Int) : Rat)) 2, fun v _ _ => v = .bool true, fun v _ _ => v = .bool true, fun v _ _ => v = .bool true, fun v _ _ => v = .bool true, fun v _ _ => v = .bool true, fun v _ _ => v = .bool true] (n := 17) (by kernel_rfl) rfl (by kernel_rfl) (by kernel_rfl) (by kernel_rfl) (by kernel_rfl) (by kernel_rfl) rb_refl rb_trans ⟨sC, ⟨sQ, ⟨sC, ⟨sC, ⟨sQt, ⟨sC, ⟨sC, ⟨sC, ⟨sQ, ⟨sC, ⟨sQt, ⟨sC, ⟨sC, ⟨sC, ⟨sC, ⟨sC, ⟨sC, trivial⟩⟩⟩⟩⟩⟩⟩⟩⟩⟩⟩⟩⟩⟩⟩⟩⟩ ?_ ?_
     ·refine ⟨⟨⟨⟨⟨⟨⟨⟨⟨⟨⟨⟨⟨⟨⟨⟨⟨trivial, ?_⟩, ?_⟩, ?_⟩, ?_⟩, ?_⟩, ?_⟩, ?_⟩, ?_⟩, ?_⟩, ?_⟩, ?_⟩, ?_⟩, ?_⟩, ?_⟩, ?_⟩, ?_⟩, ?_⟩
      ·refine rs_plain rfl rfl fun a wr S => ?_
       have X := undrew S.ext
       exact wp_load (ev_of ((S.old 3 (by kernel_rfl)).trans rfl)) (Pa.below X) (done (by kernel_rfl) rbu_refl rfl)
      ·refine rs_plain rfl rfl fun a wr S => ?_
       have X := undrew S.ext
       obtain ⟨v0, e0, h0⟩ := S.got 0 (by kernel_rfl)
       exact st_call cf_rat_Int (args1 ((ev_of (e0 71 (by kernel_rfl))).trans h0)) (by kernel_rfl) rb ((cQInt (show IsM _ _ _ _ from (Ma.below X)) (by omega) (by omega)).mono (ansQ_base X.size)) (fun _ _ _ h => h)
      ·refine rs_plain rfl rfl fun a wr S => ?_
       have X := undrew S.ext
       exact wp_load (ev_of ((S.old 3 (by kernel_rfl)).trans rfl)) (Pa.below X) (done (by kernel_rfl) rbu_refl rfl)
      ·refine rs_plain rfl rfl fun a wr S => ?_
       have X := undrew S.ext
       obtain ⟨v2, e2, h2⟩ := S.got 2 (by kernel_rfl)
       exact wp_bQ1 ((ev_of (e2 73 (by kernel_rfl))).trans h2) (done (by kernel_rfl) rbu_refl rfl)
      ·refine rs_plain rfl rfl fun a wr S => ?_
       have X := undrew S.ext
       obtain ⟨v3, e3, h3⟩ := S.got 3 (by kernel_rfl)
       exact st_call cf_ref03_Made (args1 ((ev_of (e3 74 (by kernel_rfl))).trans h3)) (by kernel_rfl) rb (cMade3 (show IsQm _ _ _ _ from (Ja.below X)) (by omega) (by omega)) (fun _ _ _ h => h)
      ·refine rs_plain rfl rfl fun a wr S => ?_
       have X := undrew S.ext
       obtain ⟨v1, e1, h1⟩ := S.got 1 (by kernel_rfl)
       obtain ⟨v4, e4, h4⟩ := S.got 4 (by kernel_rfl)
       exact st_call cf_law03_same (args2 (ev_of (e1 72 (by kernel_rfl))) (ev_of (e4 75 (by kernel_rfl)))) (by kernel_rfl) rb (cSame3 (show IsQt _ _ _ _ from h1.t) (show IsQt _ _ _ _ from h4) (by omega) (by omega) (r := true) ⟨fun _ => rfl, fun _ => rfl⟩) (fun _ _ _ h => h)
      ·refine rs_plain rfl rfl fun a wr S => ?_
       have X := undrew S.ext
       obtain ⟨v5, e5, h5⟩ := S.got 5 (by kernel_rfl)
       exact wp_mv ((ev_of (e5 76 (by kernel_rfl))).trans h5) (done (by kernel_rfl) rbu_refl rfl)
      ·refine rs_yes rfl rfl (by kernel_rfl) (by kernel_rfl : _ = some 77) (fun _ _ _ h => h) fun a wr S => ?_
       have X := undrew S.ext
       exact wp_mv (ev_of ((S.old 2 (by kernel_rfl)).trans rfl)) (done (by kernel_rfl) rbu_refl rfl)
      ·refine rs_yes rfl rfl (by kernel_rfl) (by kernel_rfl : _ = some 77) (fun _ _ _ h => h) fun a wr S => ?_
       have X := undrew S.ext
       obtain ⟨v7, e7, h7⟩ := S.got 7 (by kernel_rfl)
       exact st_call cf_rat_From (args1 ((ev_of (e7 78 (by kernel_rfl))).trans h7)) (by kernel_rfl) rb ((cQFrom k (by omega) (by omega)).mono (ansQ_base X.size)) (fun _ _ _ h => h)
      ·refine rs_yes rfl rfl (by kernel_rfl) (by kernel_rfl : _ = some 77) (fun _ _ _ h => h) fun a wr S => ?_
       have X := undrew S.ext
       exact wp_qload (ev_of ((S.old 10 (by kernel_rfl)).trans rfl)) (P10.below X) (done (by kernel_rfl) rbu_refl rfl)
      ·refine rs_yes rfl rfl (by kernel_rfl) (by kernel_rfl : _ = some 77) (fun _ _ _ h => h) fun a wr S => ?_
       have X := undrew S.ext
       obtain ⟨v9, e9, h9⟩ := S.got 9 (by kernel_rfl)
       exact st_call cf_ref03_Made (args1 ((ev_of (e9 80 (by kernel_rfl))).trans h9)) (by kernel_rfl) rb (cMade3 (show IsQm _ _ _ _ from (J10.below X)) (by omega) (by omega)) (fun _ _ _ h => h)
      ·refine rs_yes rfl rfl (by kernel_rfl) (by kernel_rfl : _ = some 77) (fun _ _ _ h => h) fun a wr S => ?_
       have X := undrew S.ext
       obtain ⟨v8, e8, h8⟩ := S.got 8 (by kernel_rfl)
       obtain ⟨v10, e10, h10⟩ := S.got 10 (by kernel_rfl)
       exact st_call cf_law03_same (args2 (ev_of (e8 79 (by kernel_rfl))) (ev_of (e10 81 (by kernel_rfl)))) (by kernel_rfl) rb (cSame3 (show IsQt _ _ _ _ from h8.t) (show IsQt _ _ _ _ from h10) (by omega) (by omega) (r := true) ⟨fun _ => rfl, fun _ => rfl⟩) (fun _ _ _ h => h)
      ·refine rs_plain rfl rfl fun a wr S => ?_
       have X := undrew S.ext
       obtain ⟨v6, e6, h6⟩ := S.got 6 (by kernel_rfl)
       obtain ⟨v11, e11, h11⟩ := S.got 11 (by kernel_rfl)
       exact wp_pickT ((ev_of (e6 77 (by kernel_rfl))).trans h6) ((ev_of (e11 82 (by kernel_rfl))).trans h11) (done (by kernel_rfl) rbu_refl rfl)
      ·refine rs_plain rfl rfl fun a wr S => ?_
       have X := undrew S.ext
       obtain ⟨v12, e12, h12⟩ := S.got 12 (by kernel_rfl)
       exact wp_mv ((ev_of (e12 83 (by kernel_rfl))).trans h12) (done (by kernel_rfl) rbu_refl rfl)
      ·refine rs_yes rfl rfl (by kernel_rfl) (by kernel_rfl : _ = some 84) (fun _ _ _ h => h) fun a wr S => ?_
       have X := undrew S.ext
       exact st_call cf_law03_works (show (#[] : Array Operand).map a.eval = #[] by simp) (by kernel_rfl) rb (cWorks3 _) (fun _ _ _ h => h)
      ·refine rs_plain rfl rfl fun a wr S => ?_
       have X := undrew S.ext
       obtain ⟨v13, e13, h13⟩ := S.got 13 (by kernel_rfl)
       obtain ⟨v14, e14, h14⟩ := S.got 14 (by kernel_rfl)
       exact wp_pickT ((ev_of (e13 84 (by kernel_rfl))).trans h13) ((ev_of (e14 85 (by kernel_rfl))).trans h14) (done (by kernel_rfl) rbu_refl rfl)
      ·refine rs_plain rfl rfl fun a wr S => ?_
       have X := undrew S.ext
       obtain ⟨v15, e15, h15⟩ := S.got 15 (by kernel_rfl)
       exact wp_as ((ev_of (e15 86 (by kernel_rfl))).trans h15) (done (by kernel_rfl) rbu_refl rfl)
     ·intro fw16 w16 hR hv
      replace hR := undrew hR
      have f0 : fw16 0 = .agg #[.bool sa, .slice Aa (min na 5) ca] := (hvc (hv 0 (by omega))).elim fun _ h => h
      have f2 : fw16 2 = .agg #[.bool sa, .slice Aa (min na 5) ca] := (hvc (hv 2 (by omega))).elim fun _ h => h
      have f3 : fw16 3 = .agg #[.bool sa, .slice Aa (min na 5) ca, .slice none 0 0] := (hvc (hv 3 (by omega))).elim fun _ h => h
      have f5 : fw16 5 = .bool true := (hvc (hv 5 (by omega))).elim fun _ h => h
      have f6 : fw16 6 = .bool true := (hvc (hv 6 (by omega))).elim fun _ h => h
      have f7 : fw16 7 = .int .i64 k := (hvc (hv 7 (by omega))).elim fun _ h => h
      have f9 : fw16 9 = .agg #[.bool false, .slice (some ⟨w12.heap.size, 0, none⟩) 2 2, .slice none 0 0] := (hvc (hv 9 (by omega))).elim fun _ h => h
      have f11 : fw16 11 = .bool true := (hvc (hv 11 (by omega))).elim fun _ h => h
      have f12 : fw16 12 = .bool true := (hvc (hv 12 (by omega))).elim fun _ h => h
      have f13 : fw16 13 = .bool true := (hvc (hv 13 (by omega))).elim fun _ h => h
      have f14 : fw16 14 = .bool true := (hvc (hv 14 (by omega))).elim fun _ h => h
      have f15 : fw16 15 = .bool true := (hvc (hv 15 (by omega))).elim fun _ h => h
      have f16 : fw16 16 = .bool true := (hvc (hv 16 (by omega))).elim fun _ h => h
      simp only [putFn, Act.put, List.setIfInBounds_toArray, List.set_cons_zero, List.set_cons_succ, f0, f2, f3, f5, f6, f7, f9, f11, f12, f13, f14, f15, f16]
      replace Pa := Pa.below hR
      replace Ma := Ma.below hR
      replace Ja := Ja.below hR
      replace J10 := J10.below hR
      replace P10 := P10.below hR
      replace BB := bl_trans BB hR
      clear hR hv
      go_wp2_with fail
      go_ret
      exact ⟨rfl, BB⟩
theorem ratMakes_walk (sa : Bool) (Aa : Option Addr) (na ca : Nat) (xa : List Nat) (sb : Bool) (Ab : Option Addr) (nb cb : Nat) (xb : List Nat) (k : Int) (w : World) (ha : Rd w Aa na ca xa ∧ na ≤ maxLen) (hb : Rd w Ab nb cb xb ∧ nb ≤ maxLen) (k0 : -9223372036854775808 ≤ k) (k1 : k < 9223372036854775808) : Calls Tryz.prog 4 #[.agg #[.bool sa, .slice Aa na ca], .agg #[.bool sb, .slice Ab nb cb], .int .i64 k] w fun e w' => e = .returned (.bool true) ∧ Below w.heap.size w w' :=
 ratMakes_in sa Aa na ca xa sb Ab nb cb xb k _ _ w (Lib.hid ha.1) (Lib.hid ha.2) (Lib.hid hb.1) (Lib.hid hb.2) (Lib.hid rfl) (Lib.hid rfl) k0 k1
end Go.Proofs.YtbhgbilhoonopaaGreat
