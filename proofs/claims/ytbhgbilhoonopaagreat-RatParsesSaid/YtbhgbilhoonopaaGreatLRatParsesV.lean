/- litmuslaw03.RatParses answers true at every input, and changes nothing that was there: its walk. -/
import Derived.Test.YtbhgbilhoonopaaGreatV6
namespace Go.Proofs.YtbhgbilhoonopaaGreat
open Go.RowKit
set_option linter.unusedVariables false
set_option maxRecDepth 100000

set_option maxRecDepth 100000 in
set_option maxHeartbeats 4000000 in
theorem ratParses_few (s : ByteArray) (x y : Nat) (w : World) (hx : x < 256) (hy : y < 256) (hsz : (s.size : Int) < 60) (hmx : s.size ≤ maxLen) :
  Calls Tryz.prog 5 #[.string s, .agg #[.int .u8 (x : Int), .int .u8 (y : Int)]] w fun e w' => e = .returned (.bool true) ∧ Below w.heap.size w w' := by
 have htz : (s).size ≤ 60 := by omega
 obtain ⟨n, hn⟩ : ∃ n, n = (s).size := ⟨_, rfl⟩
 obtain ⟨w1, c, hconv, by1, bl1, hs1⟩ := conv_bytes (w.alloc (.cells #[.int .u8 (x : Int), .int .u8 (y : Int)] 49)) (s)
 have hz1 : (w.alloc (.cells #[.int .u8 (x : Int), .int .u8 (y : Int)] 49)).heap.size = w.heap.size + 1 := by simp
 have hrow : w1.heap[w.heap.size]? = some (.cells #[.int .u8 (x : Int), .int .u8 (y : Int)] 49 (0, 0)) := by
  rw [bl1.block _ (by rw [hz1]; omega)]
  exact heap_alloc_new w _
 have cx : w1.cell? ⟨w.heap.size, 0, none⟩ = some (.int .u8 (x : Int)) := by
  rw [cell_of_row w1 w.heap.size 0 _ _ _ hrow]
  rfl
 have cy : w1.cell? ⟨w.heap.size, 1, none⟩ = some (.int .u8 (y : Int)) := by
  rw [cell_of_row w1 w.heap.size 1 _ _ _ hrow]
  rfl
 have hbb := bl_trans (bl_alloc w (.cells #[.int .u8 (x : Int), .int .u8 (y : Int)] 49)) bl1
 have hlen := M.bytes_len (s)
 have HTZ := Lib.hid htz
 rw [← hn] at hconv htz hlen
 rw [hz1] at hconv by1
 unfold maxLen at hmx
 have HBY := Lib.hid by1
 have HBB := Lib.hid hbb
 have HL := Lib.hid hlen
 clear by1 bl1 hs1 hbb hz1 hrow hlen hn
 by_cases ht0 : n = 0
 ·subst ht0
  obtain ⟨u, hu, hback⟩ := HBY.out.back 0 c HL.out
  have HU := Lib.hid (show u.size ≤ 60 by omega)
  have HB2 := HBB
  clear hu cx cy
  go_enter Tryz.func5, Tryz.ntmps5
  go_wp2
  go_loopw [36] (fun p wr => ∃ k : Nat, k ≤ 2 ∧ p = .int .i64 (k : Int) ∧ Below w.heap.size w wr) (fun p _ => 2 - (intOf p).toNat)
  case atStart => exact ⟨0, by omega, rfl, HB2.out⟩
  case round =>
   obtain ⟨k, hk, rfl, hbk⟩ := hrel
   have HBK := Lib.hid hbk
   clear hbk
   by_cases hk2 : k < 2
   ·obtain ⟨u', hidx, hu'⟩ : ∃ u', (Instr.index 51 (.agg #[.string (s), .string u]) (.int .i64 (k : Int))).run Tryz.prog wr = .ok (.string u') wr ∧ u'.size ≤ 60 := by
     rcases (show k = 0 ∨ k = 1 by omega) with rfl | rfl
     ·exact ⟨_, (index_a2 wr (s) u).1, HTZ.out⟩
     ·exact ⟨_, (index_a2 wr (s) u).2, HU.out⟩
    have HU' := Lib.hid hu'
    clear hu'
    have BB := HBK.out
    clear HBK
    by_cases hq : ∃ q, M.bytes u' = txtQ q
    ·obtain ⟨q, hq⟩ := hq
     have HQ := Lib.hid hq
     clear hq
     go_wp2_with fail
     refine (cQParseY HU'.out HQ.out _).mono ?_
     rintro e w1 ⟨_, rfl, hb, b8, A8, n8, c8, B8, m8, d8, rfl, q8⟩
     replace BB := bl_trans BB hb
     clear hb
     replace q8 := q8.t
     have OO := bl_alloc w1 (.cells #[.bool b8, .slice A8 n8 c8, .slice B8 m8 d8] 26)
     have P8 := Bq.new w1 b8 A8 n8 c8 B8 m8 d8
     replace q8 := q8.below OO
     replace BB := bl_trans BB OO
     clear OO
     go_upto_region 9 with (fail)
     generalize w1.alloc _ = w2 at q8 P8 BB ⊢
     go_wp2_with fail
     refine (cParse3Y HU'.out HQ.out).mono ?_
     rintro e w3 ⟨_, rfl, hb, b10, A10, n10, c10, B10, m10, d10, rfl, q10⟩
     replace q8 := q8.below hb
     replace P8 := P8.below hb
     replace BB := bl_trans BB hb
     clear hb
     have OO := bl_alloc w3 (.cells #[.bool b10, .slice A10 n10 c10, .slice B10 m10 d10] 26)
     have P10 := Bq.new w3 b10 A10 n10 c10 B10 m10 d10
     replace q8 := q8.below OO
     replace P8 := P8.below OO
     replace q10 := q10.below OO
     replace BB := bl_trans BB OO
     clear OO
     go_upto_region 10 with (fail)
     generalize w3.alloc _ = w4 at q8 P8 q10 P10 BB ⊢
     refine wp_region_list (Ext := RB) (Rel := RBu) [fun v _ _ => v = .bool true, fun v _ _ => v = .bool true, fun v _ _ => v = .bool false, fun v _ _ => v = .bool false, fun v _ _ => v = .bool true, fun v _ _ => v = .bool true, fun v _ _ => v = .agg #[.bool b8, .slice A8 n8 c8, .slice B8 m8 d8], fun v _ _ => v = .agg #[.bool b10, .slice A10 n10 c10, .slice B10 m10 d10], fun v _ _ => v = .bool true, fun v _ _ => v = .bool false, fun v _ _ => v = .bool false, fun v _ _ => v = .bool false, fun v _ _ => v = .bool false, fun v _ _ => v = .bool true, fun v _ _ => v = .bool false, fun v _ _ => v = .bool false, fun v _ _ => v = undef, fun v _ _ => v = undef, fun v _ _ => v = undef, fun v _ _ => v = undef, fun v _ _ => v = undef, fun v _ _ => v = Value.bool false, fun v _ _ => v = Value.bool false] (n := 23) (by kernel_rfl) rfl (by kernel_rfl) (by kernel_rfl) (by kernel_rfl) (by kernel_rfl) (by kernel_rfl) rb_refl rb_trans ⟨sC, ⟨sC, ⟨sC, ⟨sC, ⟨sC, ⟨sC, ⟨sC, ⟨sC, ⟨sC, ⟨sC, ⟨sC, ⟨sC, ⟨sC, ⟨sC, ⟨sC, ⟨sC, ⟨sC, ⟨sC, ⟨sC, ⟨sC, ⟨sC, ⟨sC, ⟨sC, trivial⟩⟩⟩⟩⟩⟩⟩⟩⟩⟩⟩⟩⟩⟩⟩⟩⟩⟩⟩⟩⟩⟩⟩ ?_ ?_
     ·refine ⟨⟨⟨⟨⟨⟨⟨⟨⟨⟨⟨⟨⟨⟨⟨⟨⟨⟨⟨⟨⟨⟨⟨trivial, ?_⟩, ?_⟩, ?_⟩, ?_⟩, ?_⟩, ?_⟩, ?_⟩, ?_⟩, ?_⟩, ?_⟩, ?_⟩, ?_⟩, ?_⟩, ?_⟩, ?_⟩, ?_⟩, ?_⟩, ?_⟩, ?_⟩, ?_⟩, ?_⟩, ?_⟩, ?_⟩
      ·refine rs_plain rfl rfl fun a wr S => ?_
       have X := undrew S.ext
       exact wp_mv (ev_of ((S.old 9 (by kernel_rfl)).trans rfl)) (done (by kernel_rfl) rbu_refl rfl)
      ·refine rs_plain rfl rfl fun a wr S => ?_
       have X := undrew S.ext
       exact wp_mv (ev_of ((S.old 11 (by kernel_rfl)).trans rfl)) (done (by kernel_rfl) rbu_refl rfl)
      ·refine rs_plain rfl rfl fun a wr S => ?_
       have X := undrew S.ext
       obtain ⟨v0, e0, h0⟩ := S.got 0 (by kernel_rfl)
       obtain ⟨v1, e1, h1⟩ := S.got 1 (by kernel_rfl)
       exact wp_neB ((ev_of (e0 49 (by kernel_rfl))).trans h0) ((ev_of (e1 50 (by kernel_rfl))).trans h1) (done (by kernel_rfl) rbu_refl (congrArg Value.bool (by decide)))
      ·refine rs_plain rfl rfl fun a wr S => ?_
       have X := undrew S.ext
       obtain ⟨v2, e2, h2⟩ := S.got 2 (by kernel_rfl)
       exact wp_mv ((ev_of (e2 51 (by kernel_rfl))).trans h2) (done (by kernel_rfl) rbu_refl rfl)
      ·refine rs_yes rfl rfl (by kernel_rfl) (by kernel_rfl : _ = some 52) (fun _ _ _ h => h) fun a wr S => ?_
       have X := undrew S.ext
       exact wp_mv (ev_of ((S.old 9 (by kernel_rfl)).trans rfl)) (done (by kernel_rfl) rbu_refl rfl)
      ·refine rs_yes rfl rfl (by kernel_rfl) (by kernel_rfl : _ = some 52) (fun _ _ _ h => h) fun a wr S => ?_
       have X := undrew S.ext
       obtain ⟨v4, e4, h4⟩ := S.got 4 (by kernel_rfl)
       exact wp_mv ((ev_of (e4 53 (by kernel_rfl))).trans h4) (done (by kernel_rfl) rbu_refl rfl)
      ·refine rs_yes rfl rfl (by kernel_rfl) (by kernel_rfl : _ = some 54) (fun _ _ _ h => h) fun a wr S => ?_
       have X := undrew S.ext
       exact wp_qload (ev_of ((S.old 8 (by kernel_rfl)).trans rfl)) (P8.below X) (done (by kernel_rfl) rbu_refl rfl)
      ·refine rs_yes rfl rfl (by kernel_rfl) (by kernel_rfl : _ = some 54) (fun _ _ _ h => h) fun a wr S => ?_
       have X := undrew S.ext
       exact wp_qload (ev_of ((S.old 10 (by kernel_rfl)).trans rfl)) (P10.below X) (done (by kernel_rfl) rbu_refl rfl)
      ·refine rs_yes rfl rfl (by kernel_rfl) (by kernel_rfl : _ = some 54) (fun _ _ _ h => h) fun a wr S => ?_
       have X := undrew S.ext
       obtain ⟨v6, e6, h6⟩ := S.got 6 (by kernel_rfl)
       obtain ⟨v7, e7, h7⟩ := S.got 7 (by kernel_rfl)
       exact st_call cf_law03_same (args2 ((ev_of (e6 55 (by kernel_rfl))).trans h6) ((ev_of (e7 56 (by kernel_rfl))).trans h7)) (by kernel_rfl) rb (cSame3 (show IsQt _ _ _ _ from (q8.below X)) (show IsQt _ _ _ _ from (q10.below X)) (by omega) (by omega) (r := true) ⟨fun _ => rfl, fun _ => rfl⟩) (fun _ _ _ h => h)
      ·refine rs_yes rfl rfl (by kernel_rfl) (by kernel_rfl : _ = some 54) (fun _ _ _ h => h) fun a wr S => ?_
       have X := undrew S.ext
       obtain ⟨v8, e8, h8⟩ := S.got 8 (by kernel_rfl)
       exact wp_not ((ev_of (e8 57 (by kernel_rfl))).trans h8) (done (by kernel_rfl) rbu_refl rfl)
      ·refine rs_yes rfl rfl (by kernel_rfl) (by kernel_rfl : _ = some 52) (fun _ _ _ h => h) fun a wr S => ?_
       have X := undrew S.ext
       obtain ⟨v5, e5, h5⟩ := S.got 5 (by kernel_rfl)
       obtain ⟨v9, e9, h9⟩ := S.got 9 (by kernel_rfl)
       exact wp_pickT ((ev_of (e5 54 (by kernel_rfl))).trans h5) ((ev_of (e9 58 (by kernel_rfl))).trans h9) (done (by kernel_rfl) rbu_refl rfl)
      ·refine rs_plain rfl rfl fun a wr S => ?_
       have X := undrew S.ext
       obtain ⟨v3, e3, h3⟩ := S.got 3 (by kernel_rfl)
       obtain ⟨v10, e10, h10⟩ := S.got 10 (by kernel_rfl)
       exact wp_pickF ((ev_of (e3 52 (by kernel_rfl))).trans h3) ((ev_of (e10 59 (by kernel_rfl))).trans h10) (done (by kernel_rfl) rbu_refl rfl)
      ·refine rs_plain rfl rfl fun a wr S => ?_
       have X := undrew S.ext
       obtain ⟨v11, e11, h11⟩ := S.got 11 (by kernel_rfl)
       exact wp_mv ((ev_of (e11 60 (by kernel_rfl))).trans h11) (done (by kernel_rfl) rbu_refl rfl)
      ·refine rs_yes rfl rfl (by kernel_rfl) (by kernel_rfl : _ = some 61) (fun _ _ _ h => h) fun a wr S => ?_
       have X := undrew S.ext
       exact wp_mv (ev_of ((S.old 9 (by kernel_rfl)).trans rfl)) (done (by kernel_rfl) rbu_refl rfl)
      ·refine rs_yes rfl rfl (by kernel_rfl) (by kernel_rfl : _ = some 61) (fun _ _ _ h => h) fun a wr S => ?_
       have X := undrew S.ext
       obtain ⟨v13, e13, h13⟩ := S.got 13 (by kernel_rfl)
       exact wp_not ((ev_of (e13 62 (by kernel_rfl))).trans h13) (done (by kernel_rfl) rbu_refl rfl)
      ·refine rs_yes rfl rfl (by kernel_rfl) (by kernel_rfl : _ = some 61) (fun _ _ _ h => h) fun a wr S => ?_
       have X := undrew S.ext
       obtain ⟨v14, e14, h14⟩ := S.got 14 (by kernel_rfl)
       exact wp_mv ((ev_of (e14 63 (by kernel_rfl))).trans h14) (done (by kernel_rfl) rbu_refl rfl)
      ·exact rs_no rfl rfl (by kernel_rfl) (by kernel_rfl : _ = some 64) (fun _ _ _ h => h) (by kernel_rfl) rbu_refl (fun _ _ => rfl)
      ·exact rs_no rfl rfl (by kernel_rfl) (by kernel_rfl : _ = some 64) (fun _ _ _ h => h) (by kernel_rfl) rbu_refl (fun _ _ => rfl)
      ·exact rs_no rfl rfl (by kernel_rfl) (by kernel_rfl : _ = some 64) (fun _ _ _ h => h) (by kernel_rfl) rbu_refl (fun _ _ => rfl)
      ·exact rs_no rfl rfl (by kernel_rfl) (by kernel_rfl : _ = some 64) (fun _ _ _ h => h) (by kernel_rfl) rbu_refl (fun _ _ => rfl)
      ·exact rs_no rfl rfl (by kernel_rfl) (by kernel_rfl : _ = some 64) (fun _ _ _ h => h) (by kernel_rfl) rbu_refl (fun _ _ => rfl)
      ·refine rs_yes rfl rfl (by kernel_rfl) (by kernel_rfl : _ = some 61) (fun _ _ _ h => h) fun a wr S => ?_
       have X := undrew S.ext
       obtain ⟨v15, e15, h15⟩ := S.got 15 (by kernel_rfl)
       exact wp_pickF ((ev_of (e15 64 (by kernel_rfl))).trans h15) rfl (done (by kernel_rfl) rbu_refl rfl)
      ·refine rs_plain rfl rfl fun a wr S => ?_
       have X := undrew S.ext
       obtain ⟨v12, e12, h12⟩ := S.got 12 (by kernel_rfl)
       obtain ⟨v21, e21, h21⟩ := S.got 21 (by kernel_rfl)
       exact wp_pickF ((ev_of (e12 61 (by kernel_rfl))).trans h12) ((ev_of (e21 70 (by kernel_rfl))).trans h21) (done (by kernel_rfl) rbu_refl rfl)
     ·intro fw5 w5 hR hv
      replace hR := undrew hR
      have f0 : fw5 0 = .bool true := (hvc (hv 0 (by omega))).elim fun _ h => h
      have f1 : fw5 1 = .bool true := (hvc (hv 1 (by omega))).elim fun _ h => h
      have f2 : fw5 2 = .bool false := (hvc (hv 2 (by omega))).elim fun _ h => h
      have f3 : fw5 3 = .bool false := (hvc (hv 3 (by omega))).elim fun _ h => h
      have f4 : fw5 4 = .bool true := (hvc (hv 4 (by omega))).elim fun _ h => h
      have f5 : fw5 5 = .bool true := (hvc (hv 5 (by omega))).elim fun _ h => h
      have f6 : fw5 6 = .agg #[.bool b8, .slice A8 n8 c8, .slice B8 m8 d8] := (hvc (hv 6 (by omega))).elim fun _ h => h
      have f7 : fw5 7 = .agg #[.bool b10, .slice A10 n10 c10, .slice B10 m10 d10] := (hvc (hv 7 (by omega))).elim fun _ h => h
      have f8 : fw5 8 = .bool true := (hvc (hv 8 (by omega))).elim fun _ h => h
      have f9 : fw5 9 = .bool false := (hvc (hv 9 (by omega))).elim fun _ h => h
      have f10 : fw5 10 = .bool false := (hvc (hv 10 (by omega))).elim fun _ h => h
      have f11 : fw5 11 = .bool false := (hvc (hv 11 (by omega))).elim fun _ h => h
      have f12 : fw5 12 = .bool false := (hvc (hv 12 (by omega))).elim fun _ h => h
      have f13 : fw5 13 = .bool true := (hvc (hv 13 (by omega))).elim fun _ h => h
      have f14 : fw5 14 = .bool false := (hvc (hv 14 (by omega))).elim fun _ h => h
      have f15 : fw5 15 = .bool false := (hvc (hv 15 (by omega))).elim fun _ h => h
      have f16 : fw5 16 = undef := (hvc (hv 16 (by omega))).elim fun _ h => h
      have f17 : fw5 17 = undef := (hvc (hv 17 (by omega))).elim fun _ h => h
      have f18 : fw5 18 = undef := (hvc (hv 18 (by omega))).elim fun _ h => h
      have f19 : fw5 19 = undef := (hvc (hv 19 (by omega))).elim fun _ h => h
      have f20 : fw5 20 = undef := (hvc (hv 20 (by omega))).elim fun _ h => h
      have f21 : fw5 21 = Value.bool false := (hvc (hv 21 (by omega))).elim fun _ h => h
      have f22 : fw5 22 = Value.bool false := (hvc (hv 22 (by omega))).elim fun _ h => h
      simp only [putFn, Act.put, List.setIfInBounds_toArray, List.set_cons_zero, List.set_cons_succ, f0, f1, f2, f3, f4, f5, f6, f7, f8, f9, f10, f11, f12, f13, f14, f15, f16, f17, f18, f19, f20, f21, f22]
      replace q8 := q8.below hR
      replace P8 := P8.below hR
      replace q10 := q10.below hR
      replace P10 := P10.below hR
      replace BB := bl_trans BB hR
      clear hR hv
      clear q8 P8 q10 P10
      go_wp2
      go_roundw
      case rel => exact ⟨k + 1, by omega, by go_num, BB⟩
      case measure => simp [intOf]; omega
    ·have hq : ∀ q, M.bytes u' ≠ txtQ q := fun q e => hq ⟨q, e⟩
     have HQ := Lib.hid hq
     clear hq
     go_wp2_with fail
     refine (cQParseN HU'.out HQ.out _).mono ?_
     rintro e w6 ⟨_, rfl, hb, b8, A8, n8, c8, B8, m8, d8, rfl, q8⟩
     replace BB := bl_trans BB hb
     clear hb
     replace q8 := q8.t
     have OO := bl_alloc w6 (.cells #[.bool b8, .slice A8 n8 c8, .slice B8 m8 d8] 26)
     have P8 := Bq.new w6 b8 A8 n8 c8 B8 m8 d8
     replace q8 := q8.below OO
     replace BB := bl_trans BB OO
     clear OO
     go_upto_region 9 with (fail)
     generalize w6.alloc _ = w7 at q8 P8 BB ⊢
     go_wp2_with fail
     refine (cParse3N HU'.out HQ.out).mono ?_
     rintro e w8 ⟨_, rfl, hb, rfl⟩
     replace q8 := q8.below hb
     replace P8 := P8.below hb
     replace BB := bl_trans BB hb
     clear hb
     have OO := bl_alloc w8 (.cells #[.bool false, .slice none 0 0, .slice none 0 0] 26)
     replace q8 := q8.below OO
     replace P8 := P8.below OO
     replace BB := bl_trans BB OO
     clear OO
     go_upto_region 10 with (fail)
     generalize w8.alloc _ = w9 at q8 P8 BB ⊢
     refine wp_region_list (Ext := RB) (Rel := RBu) [fun v _ _ => v = .bool false, fun v _ _ => v = .bool false, fun v _ _ => v = .bool false, fun v _ _ => v = .bool false, fun v _ _ => v = .bool false, fun v _ _ => v = .bool false, fun v _ _ => v = undef, fun v _ _ => v = undef, fun v _ _ => v = undef, fun v _ _ => v = undef, fun v _ _ => v = Value.bool false, fun v _ _ => v = Value.bool false, fun v _ _ => v = Value.bool false, fun v _ _ => v = .bool false, fun v _ _ => v = .bool true, fun v _ _ => v = .bool true, fun v _ _ => v = .agg #[.bool b8, .slice A8 n8 c8, .slice B8 m8 d8], fun v _ _ => v = .agg #[.bool false, .slice none 0 0, .slice none 0 0], fun v _ w => IsQt w v (0) 1, fun v _ _ => v = .bool true, fun v _ _ => v = .bool false, fun v _ _ => v = .bool false, fun v _ _ => v = .bool false] (n := 23) (by kernel_rfl) rfl (by kernel_rfl) (by kernel_rfl) (by kernel_rfl) (by kernel_rfl) (by kernel_rfl) rb_refl rb_trans ⟨sC, ⟨sC, ⟨sC, ⟨sC, ⟨sC, ⟨sC, ⟨sC, ⟨sC, ⟨sC, ⟨sC, ⟨sC, ⟨sC, ⟨sC, ⟨sC, ⟨sC, ⟨sC, ⟨sC, ⟨sC, ⟨sQt, ⟨sC, ⟨sC, ⟨sC, ⟨sC, trivial⟩⟩⟩⟩⟩⟩⟩⟩⟩⟩⟩⟩⟩⟩⟩⟩⟩⟩⟩⟩⟩⟩⟩ ?_ ?_
     ·refine ⟨⟨⟨⟨⟨⟨⟨⟨⟨⟨⟨⟨⟨⟨⟨⟨⟨⟨⟨⟨⟨⟨⟨trivial, ?_⟩, ?_⟩, ?_⟩, ?_⟩, ?_⟩, ?_⟩, ?_⟩, ?_⟩, ?_⟩, ?_⟩, ?_⟩, ?_⟩, ?_⟩, ?_⟩, ?_⟩, ?_⟩, ?_⟩, ?_⟩, ?_⟩, ?_⟩, ?_⟩, ?_⟩, ?_⟩
      ·refine rs_plain rfl rfl fun a wr S => ?_
       have X := undrew S.ext
       exact wp_mv (ev_of ((S.old 9 (by kernel_rfl)).trans rfl)) (done (by kernel_rfl) rbu_refl rfl)
      ·refine rs_plain rfl rfl fun a wr S => ?_
       have X := undrew S.ext
       exact wp_mv (ev_of ((S.old 11 (by kernel_rfl)).trans rfl)) (done (by kernel_rfl) rbu_refl rfl)
      ·refine rs_plain rfl rfl fun a wr S => ?_
       have X := undrew S.ext
       obtain ⟨v0, e0, h0⟩ := S.got 0 (by kernel_rfl)
       obtain ⟨v1, e1, h1⟩ := S.got 1 (by kernel_rfl)
       exact wp_neB ((ev_of (e0 49 (by kernel_rfl))).trans h0) ((ev_of (e1 50 (by kernel_rfl))).trans h1) (done (by kernel_rfl) rbu_refl (congrArg Value.bool (by decide)))
      ·refine rs_plain rfl rfl fun a wr S => ?_
       have X := undrew S.ext
       obtain ⟨v2, e2, h2⟩ := S.got 2 (by kernel_rfl)
       exact wp_mv ((ev_of (e2 51 (by kernel_rfl))).trans h2) (done (by kernel_rfl) rbu_refl rfl)
      ·refine rs_yes rfl rfl (by kernel_rfl) (by kernel_rfl : _ = some 52) (fun _ _ _ h => h) fun a wr S => ?_
       have X := undrew S.ext
       exact wp_mv (ev_of ((S.old 9 (by kernel_rfl)).trans rfl)) (done (by kernel_rfl) rbu_refl rfl)
      ·refine rs_yes rfl rfl (by kernel_rfl) (by kernel_rfl : _ = some 52) (fun _ _ _ h => h) fun a wr S => ?_
       have X := undrew S.ext
       obtain ⟨v4, e4, h4⟩ := S.got 4 (by kernel_rfl)
       exact wp_mv ((ev_of (e4 53 (by kernel_rfl))).trans h4) (done (by kernel_rfl) rbu_refl rfl)
      ·exact rs_no rfl rfl (by kernel_rfl) (by kernel_rfl : _ = some 54) (fun _ _ _ h => h) (by kernel_rfl) rbu_refl (fun _ _ => rfl)
      ·exact rs_no rfl rfl (by kernel_rfl) (by kernel_rfl : _ = some 54) (fun _ _ _ h => h) (by kernel_rfl) rbu_refl (fun _ _ => rfl)
      ·exact rs_no rfl rfl (by kernel_rfl) (by kernel_rfl : _ = some 54) (fun _ _ _ h => h) (by kernel_rfl) rbu_refl (fun _ _ => rfl)
      ·exact rs_no rfl rfl (by kernel_rfl) (by kernel_rfl : _ = some 54) (fun _ _ _ h => h) (by kernel_rfl) rbu_refl (fun _ _ => rfl)
      ·refine rs_yes rfl rfl (by kernel_rfl) (by kernel_rfl : _ = some 52) (fun _ _ _ h => h) fun a wr S => ?_
       have X := undrew S.ext
       obtain ⟨v5, e5, h5⟩ := S.got 5 (by kernel_rfl)
       exact wp_pickF ((ev_of (e5 54 (by kernel_rfl))).trans h5) rfl (done (by kernel_rfl) rbu_refl rfl)
      ·refine rs_plain rfl rfl fun a wr S => ?_
       have X := undrew S.ext
       obtain ⟨v3, e3, h3⟩ := S.got 3 (by kernel_rfl)
       obtain ⟨v10, e10, h10⟩ := S.got 10 (by kernel_rfl)
       exact wp_pickF ((ev_of (e3 52 (by kernel_rfl))).trans h3) ((ev_of (e10 59 (by kernel_rfl))).trans h10) (done (by kernel_rfl) rbu_refl rfl)
      ·refine rs_plain rfl rfl fun a wr S => ?_
       have X := undrew S.ext
       obtain ⟨v11, e11, h11⟩ := S.got 11 (by kernel_rfl)
       exact wp_mv ((ev_of (e11 60 (by kernel_rfl))).trans h11) (done (by kernel_rfl) rbu_refl rfl)
      ·refine rs_yes rfl rfl (by kernel_rfl) (by kernel_rfl : _ = some 61) (fun _ _ _ h => h) fun a wr S => ?_
       have X := undrew S.ext
       exact wp_mv (ev_of ((S.old 9 (by kernel_rfl)).trans rfl)) (done (by kernel_rfl) rbu_refl rfl)
      ·refine rs_yes rfl rfl (by kernel_rfl) (by kernel_rfl : _ = some 61) (fun _ _ _ h => h) fun a wr S => ?_
       have X := undrew S.ext
       obtain ⟨v13, e13, h13⟩ := S.got 13 (by kernel_rfl)
       exact wp_not ((ev_of (e13 62 (by kernel_rfl))).trans h13) (done (by kernel_rfl) rbu_refl rfl)
      ·refine rs_yes rfl rfl (by kernel_rfl) (by kernel_rfl : _ = some 61) (fun _ _ _ h => h) fun a wr S => ?_
       have X := undrew S.ext
       obtain ⟨v14, e14, h14⟩ := S.got 14 (by kernel_rfl)
       exact wp_mv ((ev_of (e14 63 (by kernel_rfl))).trans h14) (done (by kernel_rfl) rbu_refl rfl)
      ·refine rs_yes rfl rfl (by kernel_rfl) (by kernel_rfl : _ = some 64) (fun _ _ _ h => h) fun a wr S => ?_
       have X := undrew S.ext
       exact wp_qload (ev_of ((S.old 8 (by kernel_rfl)).trans rfl)) (P8.below X) (done (by kernel_rfl) rbu_refl rfl)
      ·refine rs_yes rfl rfl (by kernel_rfl) (by kernel_rfl : _ = some 64) (fun _ _ _ h => h) fun a wr S => ?_
       have X := undrew S.ext
       exact wp_build0Q (done (by kernel_rfl) rbu_refl rfl)
      ·refine rs_yes rfl rfl (by kernel_rfl) (by kernel_rfl : _ = some 64) (fun _ _ _ h => h) fun a wr S => ?_
       have X := undrew S.ext
       obtain ⟨v17, e17, h17⟩ := S.got 17 (by kernel_rfl)
       exact st_call cf_ref03_Made (args1 ((ev_of (e17 66 (by kernel_rfl))).trans h17)) (by kernel_rfl) rb (cMade3 (show IsQm _ _ _ _ from ((isQm_nil w9).below X)) (by omega) (by omega)) (fun _ _ _ h => h)
      ·refine rs_yes rfl rfl (by kernel_rfl) (by kernel_rfl : _ = some 64) (fun _ _ _ h => h) fun a wr S => ?_
       have X := undrew S.ext
       obtain ⟨v16, e16, h16⟩ := S.got 16 (by kernel_rfl)
       obtain ⟨v18, e18, h18⟩ := S.got 18 (by kernel_rfl)
       exact st_call cf_law03_same (args2 ((ev_of (e16 65 (by kernel_rfl))).trans h16) (ev_of (e18 67 (by kernel_rfl)))) (by kernel_rfl) rb (cSame3 (show IsQt _ _ _ _ from (q8.below X)) (show IsQt _ _ _ _ from h18) (by omega) (by omega) (r := true) ⟨fun _ => rfl, fun _ => rfl⟩) (fun _ _ _ h => h)
      ·refine rs_yes rfl rfl (by kernel_rfl) (by kernel_rfl : _ = some 64) (fun _ _ _ h => h) fun a wr S => ?_
       have X := undrew S.ext
       obtain ⟨v19, e19, h19⟩ := S.got 19 (by kernel_rfl)
       exact wp_not ((ev_of (e19 68 (by kernel_rfl))).trans h19) (done (by kernel_rfl) rbu_refl rfl)
      ·refine rs_yes rfl rfl (by kernel_rfl) (by kernel_rfl : _ = some 61) (fun _ _ _ h => h) fun a wr S => ?_
       have X := undrew S.ext
       obtain ⟨v15, e15, h15⟩ := S.got 15 (by kernel_rfl)
       obtain ⟨v20, e20, h20⟩ := S.got 20 (by kernel_rfl)
       exact wp_pickT ((ev_of (e15 64 (by kernel_rfl))).trans h15) ((ev_of (e20 69 (by kernel_rfl))).trans h20) (done (by kernel_rfl) rbu_refl rfl)
      ·refine rs_plain rfl rfl fun a wr S => ?_
       have X := undrew S.ext
       obtain ⟨v12, e12, h12⟩ := S.got 12 (by kernel_rfl)
       obtain ⟨v21, e21, h21⟩ := S.got 21 (by kernel_rfl)
       exact wp_pickF ((ev_of (e12 61 (by kernel_rfl))).trans h12) ((ev_of (e21 70 (by kernel_rfl))).trans h21) (done (by kernel_rfl) rbu_refl rfl)
     ·intro fw10 w10 hR hv
      replace hR := undrew hR
      have f0 : fw10 0 = .bool false := (hvc (hv 0 (by omega))).elim fun _ h => h
      have f1 : fw10 1 = .bool false := (hvc (hv 1 (by omega))).elim fun _ h => h
      have f2 : fw10 2 = .bool false := (hvc (hv 2 (by omega))).elim fun _ h => h
      have f3 : fw10 3 = .bool false := (hvc (hv 3 (by omega))).elim fun _ h => h
      have f4 : fw10 4 = .bool false := (hvc (hv 4 (by omega))).elim fun _ h => h
      have f5 : fw10 5 = .bool false := (hvc (hv 5 (by omega))).elim fun _ h => h
      have f6 : fw10 6 = undef := (hvc (hv 6 (by omega))).elim fun _ h => h
      have f7 : fw10 7 = undef := (hvc (hv 7 (by omega))).elim fun _ h => h
      have f8 : fw10 8 = undef := (hvc (hv 8 (by omega))).elim fun _ h => h
      have f9 : fw10 9 = undef := (hvc (hv 9 (by omega))).elim fun _ h => h
      have f10 : fw10 10 = Value.bool false := (hvc (hv 10 (by omega))).elim fun _ h => h
      have f11 : fw10 11 = Value.bool false := (hvc (hv 11 (by omega))).elim fun _ h => h
      have f12 : fw10 12 = Value.bool false := (hvc (hv 12 (by omega))).elim fun _ h => h
      have f13 : fw10 13 = .bool false := (hvc (hv 13 (by omega))).elim fun _ h => h
      have f14 : fw10 14 = .bool true := (hvc (hv 14 (by omega))).elim fun _ h => h
      have f15 : fw10 15 = .bool true := (hvc (hv 15 (by omega))).elim fun _ h => h
      have f16 : fw10 16 = .agg #[.bool b8, .slice A8 n8 c8, .slice B8 m8 d8] := (hvc (hv 16 (by omega))).elim fun _ h => h
      have f17 : fw10 17 = .agg #[.bool false, .slice none 0 0, .slice none 0 0] := (hvc (hv 17 (by omega))).elim fun _ h => h
      have f19 : fw10 19 = .bool true := (hvc (hv 19 (by omega))).elim fun _ h => h
      have f20 : fw10 20 = .bool false := (hvc (hv 20 (by omega))).elim fun _ h => h
      have f21 : fw10 21 = .bool false := (hvc (hv 21 (by omega))).elim fun _ h => h
      have f22 : fw10 22 = .bool false := (hvc (hv 22 (by omega))).elim fun _ h => h
      simp only [putFn, Act.put, List.setIfInBounds_toArray, List.set_cons_zero, List.set_cons_succ, f0, f1, f2, f3, f4, f5, f6, f7, f8, f9, f10, f11, f12, f13, f14, f15, f16, f17, f19, f20, f21, f22]
      replace q8 := q8.below hR
      replace P8 := P8.below hR
      replace BB := bl_trans BB hR
      clear hR hv
      clear q8 P8
      go_wp2
      go_roundw
      case rel => exact ⟨k + 1, by omega, by go_num, BB⟩
      case measure => simp [intOf]; omega
   ·obtain rfl : k = 2 := by omega
    go_wp2_with fail
    refine (cWorks3 _).mono ?_
    rintro e w6 ⟨_, rfl, b6, rfl⟩
    have HB6 := Lib.hid (bl_trans HBK.out b6)
    clear b6
    go_wp2
    go_ret
    exact ⟨rfl, HB6.out⟩
 ·have htp : 0 < n := by omega
  obtain ⟨k, hk⟩ : ∃ k, k = x % n := ⟨_, rfl⟩
  have hkn : k < n := by rw [hk]; exact Nat.mod_lt _ htp
  have hki : (x : Int).tmod (n : Int) = k := by rw [hk]; exact tmod_nat x n
  have hkm : (x : Int) % (n : Int) = k := by rw [hk]; exact (Int.natCast_emod x n).symm
  obtain ⟨z, hz⟩ : ∃ z, (M.bytes (s))[k]? = some z := ⟨_, List.getElem?_eq_getElem (by rw [HL.out]; exact hkn)⟩
  have ck := HBY.out.cell hz
  have fk := HBY.out.fr (i := k) (by rw [HL.out]; exact hkn)
  obtain ⟨u, hu, hback⟩ := (HBY.out.set k y).drew.back n c (by rw [List.length_set]; exact HL.out)
  have HU := Lib.hid (show u.size ≤ 60 by omega)
  have HB2 := Lib.hid ((HBB.out.setCell (p := ⟨w.heap.size + 1, k, none⟩) (by simp) (.int .u8 (y : Int))).drew)
  clear hz hu hk
  go_enter Tryz.func5, Tryz.ntmps5
  go_wp2
  go_region
  go_wp2
  go_loopw [36] (fun p wr => ∃ k : Nat, k ≤ 2 ∧ p = .int .i64 (k : Int) ∧ Below w.heap.size w wr) (fun p _ => 2 - (intOf p).toNat)
  case atStart => exact ⟨0, by omega, rfl, HB2.out⟩
  case round =>
   obtain ⟨k, hk, rfl, hbk⟩ := hrel
   have HBK := Lib.hid hbk
   clear hbk
   by_cases hk2 : k < 2
   ·obtain ⟨u', hidx, hu'⟩ : ∃ u', (Instr.index 51 (.agg #[.string (s), .string u]) (.int .i64 (k : Int))).run Tryz.prog wr = .ok (.string u') wr ∧ u'.size ≤ 60 := by
     rcases (show k = 0 ∨ k = 1 by omega) with rfl | rfl
     ·exact ⟨_, (index_a2 wr (s) u).1, HTZ.out⟩
     ·exact ⟨_, (index_a2 wr (s) u).2, HU.out⟩
    have HU' := Lib.hid hu'
    clear hu'
    have BB := HBK.out
    clear HBK
    by_cases hq : ∃ q, M.bytes u' = txtQ q
    ·obtain ⟨q, hq⟩ := hq
     have HQ := Lib.hid hq
     clear hq
     go_wp2_with fail
     refine (cQParseY HU'.out HQ.out _).mono ?_
     rintro e w1 ⟨_, rfl, hb, b8, A8, n8, c8, B8, m8, d8, rfl, q8⟩
     replace BB := bl_trans BB hb
     clear hb
     replace q8 := q8.t
     have OO := bl_alloc w1 (.cells #[.bool b8, .slice A8 n8 c8, .slice B8 m8 d8] 26)
     have P8 := Bq.new w1 b8 A8 n8 c8 B8 m8 d8
     replace q8 := q8.below OO
     replace BB := bl_trans BB OO
     clear OO
     go_upto_region 9 with (fail)
     generalize w1.alloc _ = w2 at q8 P8 BB ⊢
     go_wp2_with fail
     refine (cParse3Y HU'.out HQ.out).mono ?_
     rintro e w3 ⟨_, rfl, hb, b10, A10, n10, c10, B10, m10, d10, rfl, q10⟩
     replace q8 := q8.below hb
     replace P8 := P8.below hb
     replace BB := bl_trans BB hb
     clear hb
     have OO := bl_alloc w3 (.cells #[.bool b10, .slice A10 n10 c10, .slice B10 m10 d10] 26)
     have P10 := Bq.new w3 b10 A10 n10 c10 B10 m10 d10
     replace q8 := q8.below OO
     replace P8 := P8.below OO
     replace q10 := q10.below OO
     replace BB := bl_trans BB OO
     clear OO
     go_upto_region 10 with (fail)
     generalize w3.alloc _ = w4 at q8 P8 q10 P10 BB ⊢
     refine wp_region_list (Ext := RB) (Rel := RBu) [fun v _ _ => v = .bool true, fun v _ _ => v = .bool true, fun v _ _ => v = .bool false, fun v _ _ => v = .bool false, fun v _ _ => v = .bool true, fun v _ _ => v = .bool true, fun v _ _ => v = .agg #[.bool b8, .slice A8 n8 c8, .slice B8 m8 d8], fun v _ _ => v = .agg #[.bool b10, .slice A10 n10 c10, .slice B10 m10 d10], fun v _ _ => v = .bool true, fun v _ _ => v = .bool false, fun v _ _ => v = .bool false, fun v _ _ => v = .bool false, fun v _ _ => v = .bool false, fun v _ _ => v = .bool true, fun v _ _ => v = .bool false, fun v _ _ => v = .bool false, fun v _ _ => v = undef, fun v _ _ => v = undef, fun v _ _ => v = undef, fun v _ _ => v = undef, fun v _ _ => v = undef, fun v _ _ => v = Value.bool false, fun v _ _ => v = Value.bool false] (n := 23) (by kernel_rfl) rfl (by kernel_rfl) (by kernel_rfl) (by kernel_rfl) (by kernel_rfl) (by kernel_rfl) rb_refl rb_trans ⟨sC, ⟨sC, ⟨sC, ⟨sC, ⟨sC, ⟨sC, ⟨sC, ⟨sC, ⟨sC, ⟨sC, ⟨sC, ⟨sC, ⟨sC, ⟨sC, ⟨sC, ⟨sC, ⟨sC, ⟨sC, ⟨sC, ⟨sC, ⟨sC, ⟨sC, ⟨sC, trivial⟩⟩⟩⟩⟩⟩⟩⟩⟩⟩⟩⟩⟩⟩⟩⟩⟩⟩⟩⟩⟩⟩⟩ ?_ ?_
     ·refine ⟨⟨⟨⟨⟨⟨⟨⟨⟨⟨⟨⟨⟨⟨⟨⟨⟨⟨⟨⟨⟨⟨⟨trivial, ?_⟩, ?_⟩, ?_⟩, ?_⟩, ?_⟩, ?_⟩, ?_⟩, ?_⟩, ?_⟩, ?_⟩, ?_⟩, ?_⟩, ?_⟩, ?_⟩, ?_⟩, ?_⟩, ?_⟩, ?_⟩, ?_⟩, ?_⟩, ?_⟩, ?_⟩, ?_⟩
      ·refine rs_plain rfl rfl fun a wr S => ?_
       have X := undrew S.ext
       exact wp_mv (ev_of ((S.old 9 (by kernel_rfl)).trans rfl)) (done (by kernel_rfl) rbu_refl rfl)
      ·refine rs_plain rfl rfl fun a wr S => ?_
       have X := undrew S.ext
       exact wp_mv (ev_of ((S.old 11 (by kernel_rfl)).trans rfl)) (done (by kernel_rfl) rbu_refl rfl)
      ·refine rs_plain rfl rfl fun a wr S => ?_
       have X := undrew S.ext
       obtain ⟨v0, e0, h0⟩ := S.got 0 (by kernel_rfl)
       obtain ⟨v1, e1, h1⟩ := S.got 1 (by kernel_rfl)
       exact wp_neB ((ev_of (e0 49 (by kernel_rfl))).trans h0) ((ev_of (e1 50 (by kernel_rfl))).trans h1) (done (by kernel_rfl) rbu_refl (congrArg Value.bool (by decide)))
      ·refine rs_plain rfl rfl fun a wr S => ?_
       have X := undrew S.ext
       obtain ⟨v2, e2, h2⟩ := S.got 2 (by kernel_rfl)
       exact wp_mv ((ev_of (e2 51 (by kernel_rfl))).trans h2) (done (by kernel_rfl) rbu_refl rfl)
      ·refine rs_yes rfl rfl (by kernel_rfl) (by kernel_rfl : _ = some 52) (fun _ _ _ h => h) fun a wr S => ?_
       have X := undrew S.ext
       exact wp_mv (ev_of ((S.old 9 (by kernel_rfl)).trans rfl)) (done (by kernel_rfl) rbu_refl rfl)
      ·refine rs_yes rfl rfl (by kernel_rfl) (by kernel_rfl : _ = some 52) (fun _ _ _ h => h) fun a wr S => ?_
       have X := undrew S.ext
       obtain ⟨v4, e4, h4⟩ := S.got 4 (by kernel_rfl)
       exact wp_mv ((ev_of (e4 53 (by kernel_rfl))).trans h4) (done (by kernel_rfl) rbu_refl rfl)
      ·refine rs_yes rfl rfl (by kernel_rfl) (by kernel_rfl : _ = some 54) (fun _ _ _ h => h) fun a wr S => ?_
       have X := undrew S.ext
       exact wp_qload (ev_of ((S.old 8 (by kernel_rfl)).trans rfl)) (P8.below X) (done (by kernel_rfl) rbu_refl rfl)
      ·refine rs_yes rfl rfl (by kernel_rfl) (by kernel_rfl : _ = some 54) (fun _ _ _ h => h) fun a wr S => ?_
       have X := undrew S.ext
       exact wp_qload (ev_of ((S.old 10 (by kernel_rfl)).trans rfl)) (P10.below X) (done (by kernel_rfl) rbu_refl rfl)
      ·refine rs_yes rfl rfl (by kernel_rfl) (by kernel_rfl : _ = some 54) (fun _ _ _ h => h) fun a wr S => ?_
       have X := undrew S.ext
       obtain ⟨v6, e6, h6⟩ := S.got 6 (by kernel_rfl)
       obtain ⟨v7, e7, h7⟩ := S.got 7 (by kernel_rfl)
       exact st_call cf_law03_same (args2 ((ev_of (e6 55 (by kernel_rfl))).trans h6) ((ev_of (e7 56 (by kernel_rfl))).trans h7)) (by kernel_rfl) rb (cSame3 (show IsQt _ _ _ _ from (q8.below X)) (show IsQt _ _ _ _ from (q10.below X)) (by omega) (by omega) (r := true) ⟨fun _ => rfl, fun _ => rfl⟩) (fun _ _ _ h => h)
      ·refine rs_yes rfl rfl (by kernel_rfl) (by kernel_rfl : _ = some 54) (fun _ _ _ h => h) fun a wr S => ?_
       have X := undrew S.ext
       obtain ⟨v8, e8, h8⟩ := S.got 8 (by kernel_rfl)
       exact wp_not ((ev_of (e8 57 (by kernel_rfl))).trans h8) (done (by kernel_rfl) rbu_refl rfl)
      ·refine rs_yes rfl rfl (by kernel_rfl) (by kernel_rfl : _ = some 52) (fun _ _ _ h => h) fun a wr S => ?_
       have X := undrew S.ext
       obtain ⟨v5, e5, h5⟩ := S.got 5 (by kernel_rfl)
       obtain ⟨v9, e9, h9⟩ := S.got 9 (by kernel_rfl)
       exact wp_pickT ((ev_of (e5 54 (by kernel_rfl))).trans h5) ((ev_of (e9 58 (by kernel_rfl))).trans h9) (done (by kernel_rfl) rbu_refl rfl)
      ·refine rs_plain rfl rfl fun a wr S => ?_
       have X := undrew S.ext
       obtain ⟨v3, e3, h3⟩ := S.got 3 (by kernel_rfl)
       obtain ⟨v10, e10, h10⟩ := S.got 10 (by kernel_rfl)
       exact wp_pickF ((ev_of (e3 52 (by kernel_rfl))).trans h3) ((ev_of (e10 59 (by kernel_rfl))).trans h10) (done (by kernel_rfl) rbu_refl rfl)
      ·refine rs_plain rfl rfl fun a wr S => ?_
       have X := undrew S.ext
       obtain ⟨v11, e11, h11⟩ := S.got 11 (by kernel_rfl)
       exact wp_mv ((ev_of (e11 60 (by kernel_rfl))).trans h11) (done (by kernel_rfl) rbu_refl rfl)
      ·refine rs_yes rfl rfl (by kernel_rfl) (by kernel_rfl : _ = some 61) (fun _ _ _ h => h) fun a wr S => ?_
       have X := undrew S.ext
       exact wp_mv (ev_of ((S.old 9 (by kernel_rfl)).trans rfl)) (done (by kernel_rfl) rbu_refl rfl)
      ·refine rs_yes rfl rfl (by kernel_rfl) (by kernel_rfl : _ = some 61) (fun _ _ _ h => h) fun a wr S => ?_
       have X := undrew S.ext
       obtain ⟨v13, e13, h13⟩ := S.got 13 (by kernel_rfl)
       exact wp_not ((ev_of (e13 62 (by kernel_rfl))).trans h13) (done (by kernel_rfl) rbu_refl rfl)
      ·refine rs_yes rfl rfl (by kernel_rfl) (by kernel_rfl : _ = some 61) (fun _ _ _ h => h) fun a wr S => ?_
       have X := undrew S.ext
       obtain ⟨v14, e14, h14⟩ := S.got 14 (by kernel_rfl)
       exact wp_mv ((ev_of (e14 63 (by kernel_rfl))).trans h14) (done (by kernel_rfl) rbu_refl rfl)
      ·exact rs_no rfl rfl (by kernel_rfl) (by kernel_rfl : _ = some 64) (fun _ _ _ h => h) (by kernel_rfl) rbu_refl (fun _ _ => rfl)
      ·exact rs_no rfl rfl (by kernel_rfl) (by kernel_rfl : _ = some 64) (fun _ _ _ h => h) (by kernel_rfl) rbu_refl (fun _ _ => rfl)
      ·exact rs_no rfl rfl (by kernel_rfl) (by kernel_rfl : _ = some 64) (fun _ _ _ h => h) (by kernel_rfl) rbu_refl (fun _ _ => rfl)
      ·exact rs_no rfl rfl (by kernel_rfl) (by kernel_rfl : _ = some 64) (fun _ _ _ h => h) (by kernel_rfl) rbu_refl (fun _ _ => rfl)
      ·exact rs_no rfl rfl (by kernel_rfl) (by kernel_rfl : _ = some 64) (fun _ _ _ h => h) (by kernel_rfl) rbu_refl (fun _ _ => rfl)
      ·refine rs_yes rfl rfl (by kernel_rfl) (by kernel_rfl : _ = some 61) (fun _ _ _ h => h) fun a wr S => ?_
       have X := undrew S.ext
       obtain ⟨v15, e15, h15⟩ := S.got 15 (by kernel_rfl)
       exact wp_pickF ((ev_of (e15 64 (by kernel_rfl))).trans h15) rfl (done (by kernel_rfl) rbu_refl rfl)
      ·refine rs_plain rfl rfl fun a wr S => ?_
       have X := undrew S.ext
       obtain ⟨v12, e12, h12⟩ := S.got 12 (by kernel_rfl)
       obtain ⟨v21, e21, h21⟩ := S.got 21 (by kernel_rfl)
       exact wp_pickF ((ev_of (e12 61 (by kernel_rfl))).trans h12) ((ev_of (e21 70 (by kernel_rfl))).trans h21) (done (by kernel_rfl) rbu_refl rfl)
     ·intro fw5 w5 hR hv
      replace hR := undrew hR
      have f0 : fw5 0 = .bool true := (hvc (hv 0 (by omega))).elim fun _ h => h
      have f1 : fw5 1 = .bool true := (hvc (hv 1 (by omega))).elim fun _ h => h
      have f2 : fw5 2 = .bool false := (hvc (hv 2 (by omega))).elim fun _ h => h
      have f3 : fw5 3 = .bool false := (hvc (hv 3 (by omega))).elim fun _ h => h
      have f4 : fw5 4 = .bool true := (hvc (hv 4 (by omega))).elim fun _ h => h
      have f5 : fw5 5 = .bool true := (hvc (hv 5 (by omega))).elim fun _ h => h
      have f6 : fw5 6 = .agg #[.bool b8, .slice A8 n8 c8, .slice B8 m8 d8] := (hvc (hv 6 (by omega))).elim fun _ h => h
      have f7 : fw5 7 = .agg #[.bool b10, .slice A10 n10 c10, .slice B10 m10 d10] := (hvc (hv 7 (by omega))).elim fun _ h => h
      have f8 : fw5 8 = .bool true := (hvc (hv 8 (by omega))).elim fun _ h => h
      have f9 : fw5 9 = .bool false := (hvc (hv 9 (by omega))).elim fun _ h => h
      have f10 : fw5 10 = .bool false := (hvc (hv 10 (by omega))).elim fun _ h => h
      have f11 : fw5 11 = .bool false := (hvc (hv 11 (by omega))).elim fun _ h => h
      have f12 : fw5 12 = .bool false := (hvc (hv 12 (by omega))).elim fun _ h => h
      have f13 : fw5 13 = .bool true := (hvc (hv 13 (by omega))).elim fun _ h => h
      have f14 : fw5 14 = .bool false := (hvc (hv 14 (by omega))).elim fun _ h => h
      have f15 : fw5 15 = .bool false := (hvc (hv 15 (by omega))).elim fun _ h => h
      have f16 : fw5 16 = undef := (hvc (hv 16 (by omega))).elim fun _ h => h
      have f17 : fw5 17 = undef := (hvc (hv 17 (by omega))).elim fun _ h => h
      have f18 : fw5 18 = undef := (hvc (hv 18 (by omega))).elim fun _ h => h
      have f19 : fw5 19 = undef := (hvc (hv 19 (by omega))).elim fun _ h => h
      have f20 : fw5 20 = undef := (hvc (hv 20 (by omega))).elim fun _ h => h
      have f21 : fw5 21 = Value.bool false := (hvc (hv 21 (by omega))).elim fun _ h => h
      have f22 : fw5 22 = Value.bool false := (hvc (hv 22 (by omega))).elim fun _ h => h
      simp only [putFn, Act.put, List.setIfInBounds_toArray, List.set_cons_zero, List.set_cons_succ, f0, f1, f2, f3, f4, f5, f6, f7, f8, f9, f10, f11, f12, f13, f14, f15, f16, f17, f18, f19, f20, f21, f22]
      replace q8 := q8.below hR
      replace P8 := P8.below hR
      replace q10 := q10.below hR
      replace P10 := P10.below hR
      replace BB := bl_trans BB hR
      clear hR hv
      clear q8 P8 q10 P10
      go_wp2
      go_roundw
      case rel => exact ⟨k + 1, by omega, by go_num, BB⟩
      case measure => simp [intOf]; omega
    ·have hq : ∀ q, M.bytes u' ≠ txtQ q := fun q e => hq ⟨q, e⟩
     have HQ := Lib.hid hq
     clear hq
     go_wp2_with fail
     refine (cQParseN HU'.out HQ.out _).mono ?_
     rintro e w6 ⟨_, rfl, hb, b8, A8, n8, c8, B8, m8, d8, rfl, q8⟩
     replace BB := bl_trans BB hb
     clear hb
     replace q8 := q8.t
     have OO := bl_alloc w6 (.cells #[.bool b8, .slice A8 n8 c8, .slice B8 m8 d8] 26)
     have P8 := Bq.new w6 b8 A8 n8 c8 B8 m8 d8
     replace q8 := q8.below OO
     replace BB := bl_trans BB OO
     clear OO
     go_upto_region 9 with (fail)
     generalize w6.alloc _ = w7 at q8 P8 BB ⊢
     go_wp2_with fail
     refine (cParse3N HU'.out HQ.out).mono ?_
     rintro e w8 ⟨_, rfl, hb, rfl⟩
     replace q8 := q8.below hb
     replace P8 := P8.below hb
     replace BB := bl_trans BB hb
     clear hb
     have OO := bl_alloc w8 (.cells #[.bool false, .slice none 0 0, .slice none 0 0] 26)
     replace q8 := q8.below OO
     replace P8 := P8.below OO
     replace BB := bl_trans BB OO
     clear OO
     go_upto_region 10 with (fail)
     generalize w8.alloc _ = w9 at q8 P8 BB ⊢
     refine wp_region_list (Ext := RB) (Rel := RBu) [fun v _ _ => v = .bool false, fun v _ _ => v = .bool false, fun v _ _ => v = .bool false, fun v _ _ => v = .bool false, fun v _ _ => v = .bool false, fun v _ _ => v = .bool false, fun v _ _ => v = undef, fun v _ _ => v = undef, fun v _ _ => v = undef, fun v _ _ => v = undef, fun v _ _ => v = Value.bool false, fun v _ _ => v = Value.bool false, fun v _ _ => v = Value.bool false, fun v _ _ => v = .bool false, fun v _ _ => v = .bool true, fun v _ _ => v = .bool true, fun v _ _ => v = .agg #[.bool b8, .slice A8 n8 c8, .slice B8 m8 d8], fun v _ _ => v = .agg #[.bool false, .slice none 0 0, .slice none 0 0], fun v _ w => IsQt w v (0) 1, fun v _ _ => v = .bool true, fun v _ _ => v = .bool false, fun v _ _ => v = .bool false, fun v _ _ => v = .bool false] (n := 23) (by kernel_rfl) rfl (by kernel_rfl) (by kernel_rfl) (by kernel_rfl) (by kernel_rfl) (by kernel_rfl) rb_refl rb_trans ⟨sC, ⟨sC, ⟨sC, ⟨sC, ⟨sC, ⟨sC, ⟨sC, ⟨sC, ⟨sC, ⟨sC, ⟨sC, ⟨sC, ⟨sC, ⟨sC, ⟨sC, ⟨sC, ⟨sC, ⟨sC, ⟨sQt, ⟨sC, ⟨sC, ⟨sC, ⟨sC, trivial⟩⟩⟩⟩⟩⟩⟩⟩⟩⟩⟩⟩⟩⟩⟩⟩⟩⟩⟩⟩⟩⟩⟩ ?_ ?_
     ·refine ⟨⟨⟨⟨⟨⟨⟨⟨⟨⟨⟨⟨⟨⟨⟨⟨⟨⟨⟨⟨⟨⟨⟨trivial, ?_⟩, ?_⟩, ?_⟩, ?_⟩, ?_⟩, ?_⟩, ?_⟩, ?_⟩, ?_⟩, ?_⟩, ?_⟩, ?_⟩, ?_⟩, ?_⟩, ?_⟩, ?_⟩, ?_⟩, ?_⟩, ?_⟩, ?_⟩, ?_⟩, ?_⟩, ?_⟩
      ·refine rs_plain rfl rfl fun a wr S => ?_
       have X := undrew S.ext
       exact wp_mv (ev_of ((S.old 9 (by kernel_rfl)).trans rfl)) (done (by kernel_rfl) rbu_refl rfl)
      ·refine rs_plain rfl rfl fun a wr S => ?_
       have X := undrew S.ext
       exact wp_mv (ev_of ((S.old 11 (by kernel_rfl)).trans rfl)) (done (by kernel_rfl) rbu_refl rfl)
      ·refine rs_plain rfl rfl fun a wr S => ?_
       have X := undrew S.ext
       obtain ⟨v0, e0, h0⟩ := S.got 0 (by kernel_rfl)
       obtain ⟨v1, e1, h1⟩ := S.got 1 (by kernel_rfl)
       exact wp_neB ((ev_of (e0 49 (by kernel_rfl))).trans h0) ((ev_of (e1 50 (by kernel_rfl))).trans h1) (done (by kernel_rfl) rbu_refl (congrArg Value.bool (by decide)))
      ·refine rs_plain rfl rfl fun a wr S => ?_
       have X := undrew S.ext
       obtain ⟨v2, e2, h2⟩ := S.got 2 (by kernel_rfl)
       exact wp_mv ((ev_of (e2 51 (by kernel_rfl))).trans h2) (done (by kernel_rfl) rbu_refl rfl)
      ·refine rs_yes rfl rfl (by kernel_rfl) (by kernel_rfl : _ = some 52) (fun _ _ _ h => h) fun a wr S => ?_
       have X := undrew S.ext
       exact wp_mv (ev_of ((S.old 9 (by kernel_rfl)).trans rfl)) (done (by kernel_rfl) rbu_refl rfl)
      ·refine rs_yes rfl rfl (by kernel_rfl) (by kernel_rfl : _ = some 52) (fun _ _ _ h => h) fun a wr S => ?_
       have X := undrew S.ext
       obtain ⟨v4, e4, h4⟩ := S.got 4 (by kernel_rfl)
       exact wp_mv ((ev_of (e4 53 (by kernel_rfl))).trans h4) (done (by kernel_rfl) rbu_refl rfl)
      ·exact rs_no rfl rfl (by kernel_rfl) (by kernel_rfl : _ = some 54) (fun _ _ _ h => h) (by kernel_rfl) rbu_refl (fun _ _ => rfl)
      ·exact rs_no rfl rfl (by kernel_rfl) (by kernel_rfl : _ = some 54) (fun _ _ _ h => h) (by kernel_rfl) rbu_refl (fun _ _ => rfl)
      ·exact rs_no rfl rfl (by kernel_rfl) (by kernel_rfl : _ = some 54) (fun _ _ _ h => h) (by kernel_rfl) rbu_refl (fun _ _ => rfl)
      ·exact rs_no rfl rfl (by kernel_rfl) (by kernel_rfl : _ = some 54) (fun _ _ _ h => h) (by kernel_rfl) rbu_refl (fun _ _ => rfl)
      ·refine rs_yes rfl rfl (by kernel_rfl) (by kernel_rfl : _ = some 52) (fun _ _ _ h => h) fun a wr S => ?_
       have X := undrew S.ext
       obtain ⟨v5, e5, h5⟩ := S.got 5 (by kernel_rfl)
       exact wp_pickF ((ev_of (e5 54 (by kernel_rfl))).trans h5) rfl (done (by kernel_rfl) rbu_refl rfl)
      ·refine rs_plain rfl rfl fun a wr S => ?_
       have X := undrew S.ext
       obtain ⟨v3, e3, h3⟩ := S.got 3 (by kernel_rfl)
       obtain ⟨v10, e10, h10⟩ := S.got 10 (by kernel_rfl)
       exact wp_pickF ((ev_of (e3 52 (by kernel_rfl))).trans h3) ((ev_of (e10 59 (by kernel_rfl))).trans h10) (done (by kernel_rfl) rbu_refl rfl)
      ·refine rs_plain rfl rfl fun a wr S => ?_
       have X := undrew S.ext
       obtain ⟨v11, e11, h11⟩ := S.got 11 (by kernel_rfl)
       exact wp_mv ((ev_of (e11 60 (by kernel_rfl))).trans h11) (done (by kernel_rfl) rbu_refl rfl)
      ·refine rs_yes rfl rfl (by kernel_rfl) (by kernel_rfl : _ = some 61) (fun _ _ _ h => h) fun a wr S => ?_
       have X := undrew S.ext
       exact wp_mv (ev_of ((S.old 9 (by kernel_rfl)).trans rfl)) (done (by kernel_rfl) rbu_refl rfl)
      ·refine rs_yes rfl rfl (by kernel_rfl) (by kernel_rfl : _ = some 61) (fun _ _ _ h => h) fun a wr S => ?_
       have X := undrew S.ext
       obtain ⟨v13, e13, h13⟩ := S.got 13 (by kernel_rfl)
       exact wp_not ((ev_of (e13 62 (by kernel_rfl))).trans h13) (done (by kernel_rfl) rbu_refl rfl)
      ·refine rs_yes rfl rfl (by kernel_rfl) (by kernel_rfl : _ = some 61) (fun _ _ _ h => h) fun a wr S => ?_
       have X := undrew S.ext
       obtain ⟨v14, e14, h14⟩ := S.got 14 (by kernel_rfl)
       exact wp_mv ((ev_of (e14 63 (by kernel_rfl))).trans h14) (done (by kernel_rfl) rbu_refl rfl)
      ·refine rs_yes rfl rfl (by kernel_rfl) (by kernel_rfl : _ = some 64) (fun _ _ _ h => h) fun a wr S => ?_
       have X := undrew S.ext
       exact wp_qload (ev_of ((S.old 8 (by kernel_rfl)).trans rfl)) (P8.below X) (done (by kernel_rfl) rbu_refl rfl)
      ·refine rs_yes rfl rfl (by kernel_rfl) (by kernel_rfl : _ = some 64) (fun _ _ _ h => h) fun a wr S => ?_
       have X := undrew S.ext
       exact wp_build0Q (done (by kernel_rfl) rbu_refl rfl)
      ·refine rs_yes rfl rfl (by kernel_rfl) (by kernel_rfl : _ = some 64) (fun _ _ _ h => h) fun a wr S => ?_
       have X := undrew S.ext
       obtain ⟨v17, e17, h17⟩ := S.got 17 (by kernel_rfl)
       exact st_call cf_ref03_Made (args1 ((ev_of (e17 66 (by kernel_rfl))).trans h17)) (by kernel_rfl) rb (cMade3 (show IsQm _ _ _ _ from ((isQm_nil w9).below X)) (by omega) (by omega)) (fun _ _ _ h => h)
      ·refine rs_yes rfl rfl (by kernel_rfl) (by kernel_rfl : _ = some 64) (fun _ _ _ h => h) fun a wr S => ?_
       have X := undrew S.ext
       obtain ⟨v16, e16, h16⟩ := S.got 16 (by kernel_rfl)
       obtain ⟨v18, e18, h18⟩ := S.got 18 (by kernel_rfl)
       exact st_call cf_law03_same (args2 ((ev_of (e16 65 (by kernel_rfl))).trans h16) (ev_of (e18 67 (by kernel_rfl)))) (by kernel_rfl) rb (cSame3 (show IsQt _ _ _ _ from (q8.below X)) (show IsQt _ _ _ _ from h18) (by omega) (by omega) (r := true) ⟨fun _ => rfl, fun _ => rfl⟩) (fun _ _ _ h => h)
      ·refine rs_yes rfl rfl (by kernel_rfl) (by kernel_rfl : _ = some 64) (fun _ _ _ h => h) fun a wr S => ?_
       have X := undrew S.ext
       obtain ⟨v19, e19, h19⟩ := S.got 19 (by kernel_rfl)
       exact wp_not ((ev_of (e19 68 (by kernel_rfl))).trans h19) (done (by kernel_rfl) rbu_refl rfl)
      ·refine rs_yes rfl rfl (by kernel_rfl) (by kernel_rfl : _ = some 61) (fun _ _ _ h => h) fun a wr S => ?_
       have X := undrew S.ext
       obtain ⟨v15, e15, h15⟩ := S.got 15 (by kernel_rfl)
       obtain ⟨v20, e20, h20⟩ := S.got 20 (by kernel_rfl)
       exact wp_pickT ((ev_of (e15 64 (by kernel_rfl))).trans h15) ((ev_of (e20 69 (by kernel_rfl))).trans h20) (done (by kernel_rfl) rbu_refl rfl)
      ·refine rs_plain rfl rfl fun a wr S => ?_
       have X := undrew S.ext
       obtain ⟨v12, e12, h12⟩ := S.got 12 (by kernel_rfl)
       obtain ⟨v21, e21, h21⟩ := S.got 21 (by kernel_rfl)
       exact wp_pickF ((ev_of (e12 61 (by kernel_rfl))).trans h12) ((ev_of (e21 70 (by kernel_rfl))).trans h21) (done (by kernel_rfl) rbu_refl rfl)
     ·intro fw10 w10 hR hv
      replace hR := undrew hR
      have f0 : fw10 0 = .bool false := (hvc (hv 0 (by omega))).elim fun _ h => h
      have f1 : fw10 1 = .bool false := (hvc (hv 1 (by omega))).elim fun _ h => h
      have f2 : fw10 2 = .bool false := (hvc (hv 2 (by omega))).elim fun _ h => h
      have f3 : fw10 3 = .bool false := (hvc (hv 3 (by omega))).elim fun _ h => h
      have f4 : fw10 4 = .bool false := (hvc (hv 4 (by omega))).elim fun _ h => h
      have f5 : fw10 5 = .bool false := (hvc (hv 5 (by omega))).elim fun _ h => h
      have f6 : fw10 6 = undef := (hvc (hv 6 (by omega))).elim fun _ h => h
      have f7 : fw10 7 = undef := (hvc (hv 7 (by omega))).elim fun _ h => h
      have f8 : fw10 8 = undef := (hvc (hv 8 (by omega))).elim fun _ h => h
      have f9 : fw10 9 = undef := (hvc (hv 9 (by omega))).elim fun _ h => h
      have f10 : fw10 10 = Value.bool false := (hvc (hv 10 (by omega))).elim fun _ h => h
      have f11 : fw10 11 = Value.bool false := (hvc (hv 11 (by omega))).elim fun _ h => h
      have f12 : fw10 12 = Value.bool false := (hvc (hv 12 (by omega))).elim fun _ h => h
      have f13 : fw10 13 = .bool false := (hvc (hv 13 (by omega))).elim fun _ h => h
      have f14 : fw10 14 = .bool true := (hvc (hv 14 (by omega))).elim fun _ h => h
      have f15 : fw10 15 = .bool true := (hvc (hv 15 (by omega))).elim fun _ h => h
      have f16 : fw10 16 = .agg #[.bool b8, .slice A8 n8 c8, .slice B8 m8 d8] := (hvc (hv 16 (by omega))).elim fun _ h => h
      have f17 : fw10 17 = .agg #[.bool false, .slice none 0 0, .slice none 0 0] := (hvc (hv 17 (by omega))).elim fun _ h => h
      have f19 : fw10 19 = .bool true := (hvc (hv 19 (by omega))).elim fun _ h => h
      have f20 : fw10 20 = .bool false := (hvc (hv 20 (by omega))).elim fun _ h => h
      have f21 : fw10 21 = .bool false := (hvc (hv 21 (by omega))).elim fun _ h => h
      have f22 : fw10 22 = .bool false := (hvc (hv 22 (by omega))).elim fun _ h => h
      simp only [putFn, Act.put, List.setIfInBounds_toArray, List.set_cons_zero, List.set_cons_succ, f0, f1, f2, f3, f4, f5, f6, f7, f8, f9, f10, f11, f12, f13, f14, f15, f16, f17, f19, f20, f21, f22]
      replace q8 := q8.below hR
      replace P8 := P8.below hR
      replace BB := bl_trans BB hR
      clear hR hv
      clear q8 P8
      go_wp2
      go_roundw
      case rel => exact ⟨k + 1, by omega, by go_num, BB⟩
      case measure => simp [intOf]; omega
   ·obtain rfl : k = 2 := by omega
    go_wp2_with fail
    refine (cWorks3 _).mono ?_
    rintro e w6 ⟨_, rfl, b6, rfl⟩
    have HB6 := Lib.hid (bl_trans HBK.out b6)
    clear b6
    go_wp2
    go_ret
    exact ⟨rfl, HB6.out⟩

set_option maxRecDepth 100000 in
set_option maxHeartbeats 4000000 in
theorem ratParses_many (s : ByteArray) (x y : Nat) (w : World) (hx : x < 256) (hy : y < 256) (hsz : (60 : Int) < s.size) (hmx : s.size ≤ maxLen) :
  Calls Tryz.prog 5 #[.string s, .agg #[.int .u8 (x : Int), .int .u8 (y : Int)]] w fun e w' => e = .returned (.bool true) ∧ Below w.heap.size w w' := by
 have htz : (s.extract 0 60).size ≤ 60 := by rw [ByteArray.size_extract]; omega
 obtain ⟨n, hn⟩ : ∃ n, n = (s.extract 0 60).size := ⟨_, rfl⟩
 obtain ⟨w1, c, hconv, by1, bl1, hs1⟩ := conv_bytes (w.alloc (.cells #[.int .u8 (x : Int), .int .u8 (y : Int)] 49)) (s.extract 0 60)
 have hz1 : (w.alloc (.cells #[.int .u8 (x : Int), .int .u8 (y : Int)] 49)).heap.size = w.heap.size + 1 := by simp
 have hrow : w1.heap[w.heap.size]? = some (.cells #[.int .u8 (x : Int), .int .u8 (y : Int)] 49 (0, 0)) := by
  rw [bl1.block _ (by rw [hz1]; omega)]
  exact heap_alloc_new w _
 have cx : w1.cell? ⟨w.heap.size, 0, none⟩ = some (.int .u8 (x : Int)) := by
  rw [cell_of_row w1 w.heap.size 0 _ _ _ hrow]
  rfl
 have cy : w1.cell? ⟨w.heap.size, 1, none⟩ = some (.int .u8 (y : Int)) := by
  rw [cell_of_row w1 w.heap.size 1 _ _ _ hrow]
  rfl
 have hbb := bl_trans (bl_alloc w (.cells #[.int .u8 (x : Int), .int .u8 (y : Int)] 49)) bl1
 have hlen := M.bytes_len (s.extract 0 60)
 have HTZ := Lib.hid htz
 rw [← hn] at hconv htz hlen
 rw [hz1] at hconv by1
 unfold maxLen at hmx
 have HBY := Lib.hid by1
 have HBB := Lib.hid hbb
 have HL := Lib.hid hlen
 clear by1 bl1 hs1 hbb hz1 hrow hlen hn
 by_cases ht0 : n = 0
 ·subst ht0
  obtain ⟨u, hu, hback⟩ := HBY.out.back 0 c HL.out
  have HU := Lib.hid (show u.size ≤ 60 by omega)
  have HB2 := HBB
  clear hu cx cy
  go_enter Tryz.func5, Tryz.ntmps5
  go_wp2
  go_loopw [36] (fun p wr => ∃ k : Nat, k ≤ 2 ∧ p = .int .i64 (k : Int) ∧ Below w.heap.size w wr) (fun p _ => 2 - (intOf p).toNat)
  case atStart => exact ⟨0, by omega, rfl, HB2.out⟩
  case round =>
   obtain ⟨k, hk, rfl, hbk⟩ := hrel
   have HBK := Lib.hid hbk
   clear hbk
   by_cases hk2 : k < 2
   ·obtain ⟨u', hidx, hu'⟩ : ∃ u', (Instr.index 51 (.agg #[.string (s.extract 0 60), .string u]) (.int .i64 (k : Int))).run Tryz.prog wr = .ok (.string u') wr ∧ u'.size ≤ 60 := by
     rcases (show k = 0 ∨ k = 1 by omega) with rfl | rfl
     ·exact ⟨_, (index_a2 wr (s.extract 0 60) u).1, HTZ.out⟩
     ·exact ⟨_, (index_a2 wr (s.extract 0 60) u).2, HU.out⟩
    have HU' := Lib.hid hu'
    clear hu'
    have BB := HBK.out
    clear HBK
    by_cases hq : ∃ q, M.bytes u' = txtQ q
    ·obtain ⟨q, hq⟩ := hq
     have HQ := Lib.hid hq
     clear hq
     go_wp2_with fail
     refine (cQParseY HU'.out HQ.out _).mono ?_
     rintro e w11 ⟨_, rfl, hb, b8, A8, n8, c8, B8, m8, d8, rfl, q8⟩
     replace BB := bl_trans BB hb
     clear hb
     replace q8 := q8.t
     have OO := bl_alloc w11 (.cells #[.bool b8, .slice A8 n8 c8, .slice B8 m8 d8] 26)
     have P8 := Bq.new w11 b8 A8 n8 c8 B8 m8 d8
     replace q8 := q8.below OO
     replace BB := bl_trans BB OO
     clear OO
     go_upto_region 9 with (fail)
     generalize w11.alloc _ = w12 at q8 P8 BB ⊢
     go_wp2_with fail
     refine (cParse3Y HU'.out HQ.out).mono ?_
     rintro e w13 ⟨_, rfl, hb, b10, A10, n10, c10, B10, m10, d10, rfl, q10⟩
     replace q8 := q8.below hb
     replace P8 := P8.below hb
     replace BB := bl_trans BB hb
     clear hb
     have OO := bl_alloc w13 (.cells #[.bool b10, .slice A10 n10 c10, .slice B10 m10 d10] 26)
     have P10 := Bq.new w13 b10 A10 n10 c10 B10 m10 d10
     replace q8 := q8.below OO
     replace P8 := P8.below OO
     replace q10 := q10.below OO
     replace BB := bl_trans BB OO
     clear OO
     go_upto_region 10 with (fail)
     generalize w13.alloc _ = w14 at q8 P8 q10 P10 BB ⊢
     refine wp_region_list (Ext := RB) (Rel := RBu) [fun v _ _ => v = .bool true, fun v _ _ => v = .bool true, fun v _ _ => v = .bool false, fun v _ _ => v = .bool false, fun v _ _ => v = .bool true, fun v _ _ => v = .bool true, fun v _ _ => v = .agg #[.bool b8, .slice A8 n8 c8, .slice B8 m8 d8], fun v _ _ => v = .agg #[.bool b10, .slice A10 n10 c10, .slice B10 m10 d10], fun v _ _ => v = .bool true, fun v _ _ => v = .bool false, fun v _ _ => v = .bool false, fun v _ _ => v = .bool false, fun v _ _ => v = .bool false, fun v _ _ => v = .bool true, fun v _ _ => v = .bool false, fun v _ _ => v = .bool false, fun v _ _ => v = undef, fun v _ _ => v = undef, fun v _ _ => v = undef, fun v _ _ => v = undef, fun v _ _ => v = undef, fun v _ _ => v = Value.bool false, fun v _ _ => v = Value.bool false] (n := 23) (by kernel_rfl) rfl (by kernel_rfl) (by kernel_rfl) (by kernel_rfl) (by kernel_rfl) (by kernel_rfl) rb_refl rb_trans ⟨sC, ⟨sC, ⟨sC, ⟨sC, ⟨sC, ⟨sC, ⟨sC, ⟨sC, ⟨sC, ⟨sC, ⟨sC, ⟨sC, ⟨sC, ⟨sC, ⟨sC, ⟨sC, ⟨sC, ⟨sC, ⟨sC, ⟨sC, ⟨sC, ⟨sC, ⟨sC, trivial⟩⟩⟩⟩⟩⟩⟩⟩⟩⟩⟩⟩⟩⟩⟩⟩⟩⟩⟩⟩⟩⟩⟩ ?_ ?_
     ·refine ⟨⟨⟨⟨⟨⟨⟨⟨⟨⟨⟨⟨⟨⟨⟨⟨⟨⟨⟨⟨⟨⟨⟨trivial, ?_⟩, ?_⟩, ?_⟩, ?_⟩, ?_⟩, ?_⟩, ?_⟩, ?_⟩, ?_⟩, ?_⟩, ?_⟩, ?_⟩, ?_⟩, ?_⟩, ?_⟩, ?_⟩, ?_⟩, ?_⟩, ?_⟩, ?_⟩, ?_⟩, ?_⟩, ?_⟩
      ·refine rs_plain rfl rfl fun a wr S => ?_
       have X := undrew S.ext
       exact wp_mv (ev_of ((S.old 9 (by kernel_rfl)).trans rfl)) (done (by kernel_rfl) rbu_refl rfl)
      ·refine rs_plain rfl rfl fun a wr S => ?_
       have X := undrew S.ext
       exact wp_mv (ev_of ((S.old 11 (by kernel_rfl)).trans rfl)) (done (by kernel_rfl) rbu_refl rfl)
      ·refine rs_plain rfl rfl fun a wr S => ?_
       have X := undrew S.ext
       obtain ⟨v0, e0, h0⟩ := S.got 0 (by kernel_rfl)
       obtain ⟨v1, e1, h1⟩ := S.got 1 (by kernel_rfl)
       exact wp_neB ((ev_of (e0 49 (by kernel_rfl))).trans h0) ((ev_of (e1 50 (by kernel_rfl))).trans h1) (done (by kernel_rfl) rbu_refl (congrArg Value.bool (by decide)))
      ·refine rs_plain rfl rfl fun a wr S => ?_
       have X := undrew S.ext
       obtain ⟨v2, e2, h2⟩ := S.got 2 (by kernel_rfl)
       exact wp_mv ((ev_of (e2 51 (by kernel_rfl))).trans h2) (done (by kernel_rfl) rbu_refl rfl)
      ·refine rs_yes rfl rfl (by kernel_rfl) (by kernel_rfl : _ = some 52) (fun _ _ _ h => h) fun a wr S => ?_
       have X := undrew S.ext
       exact wp_mv (ev_of ((S.old 9 (by kernel_rfl)).trans rfl)) (done (by kernel_rfl) rbu_refl rfl)
      ·refine rs_yes rfl rfl (by kernel_rfl) (by kernel_rfl : _ = some 52) (fun _ _ _ h => h) fun a wr S => ?_
       have X := undrew S.ext
       obtain ⟨v4, e4, h4⟩ := S.got 4 (by kernel_rfl)
       exact wp_mv ((ev_of (e4 53 (by kernel_rfl))).trans h4) (done (by kernel_rfl) rbu_refl rfl)
      ·refine rs_yes rfl rfl (by kernel_rfl) (by kernel_rfl : _ = some 54) (fun _ _ _ h => h) fun a wr S => ?_
       have X := undrew S.ext
       exact wp_qload (ev_of ((S.old 8 (by kernel_rfl)).trans rfl)) (P8.below X) (done (by kernel_rfl) rbu_refl rfl)
      ·refine rs_yes rfl rfl (by kernel_rfl) (by kernel_rfl : _ = some 54) (fun _ _ _ h => h) fun a wr S => ?_
       have X := undrew S.ext
       exact wp_qload (ev_of ((S.old 10 (by kernel_rfl)).trans rfl)) (P10.below X) (done (by kernel_rfl) rbu_refl rfl)
      ·refine rs_yes rfl rfl (by kernel_rfl) (by kernel_rfl : _ = some 54) (fun _ _ _ h => h) fun a wr S => ?_
       have X := undrew S.ext
       obtain ⟨v6, e6, h6⟩ := S.got 6 (by kernel_rfl)
       obtain ⟨v7, e7, h7⟩ := S.got 7 (by kernel_rfl)
       exact st_call cf_law03_same (args2 ((ev_of (e6 55 (by kernel_rfl))).trans h6) ((ev_of (e7 56 (by kernel_rfl))).trans h7)) (by kernel_rfl) rb (cSame3 (show IsQt _ _ _ _ from (q8.below X)) (show IsQt _ _ _ _ from (q10.below X)) (by omega) (by omega) (r := true) ⟨fun _ => rfl, fun _ => rfl⟩) (fun _ _ _ h => h)
      ·refine rs_yes rfl rfl (by kernel_rfl) (by kernel_rfl : _ = some 54) (fun _ _ _ h => h) fun a wr S => ?_
       have X := undrew S.ext
       obtain ⟨v8, e8, h8⟩ := S.got 8 (by kernel_rfl)
       exact wp_not ((ev_of (e8 57 (by kernel_rfl))).trans h8) (done (by kernel_rfl) rbu_refl rfl)
      ·refine rs_yes rfl rfl (by kernel_rfl) (by kernel_rfl : _ = some 52) (fun _ _ _ h => h) fun a wr S => ?_
       have X := undrew S.ext
       obtain ⟨v5, e5, h5⟩ := S.got 5 (by kernel_rfl)
       obtain ⟨v9, e9, h9⟩ := S.got 9 (by kernel_rfl)
       exact wp_pickT ((ev_of (e5 54 (by kernel_rfl))).trans h5) ((ev_of (e9 58 (by kernel_rfl))).trans h9) (done (by kernel_rfl) rbu_refl rfl)
      ·refine rs_plain rfl rfl fun a wr S => ?_
       have X := undrew S.ext
       obtain ⟨v3, e3, h3⟩ := S.got 3 (by kernel_rfl)
       obtain ⟨v10, e10, h10⟩ := S.got 10 (by kernel_rfl)
       exact wp_pickF ((ev_of (e3 52 (by kernel_rfl))).trans h3) ((ev_of (e10 59 (by kernel_rfl))).trans h10) (done (by kernel_rfl) rbu_refl rfl)
      ·refine rs_plain rfl rfl fun a wr S => ?_
       have X := undrew S.ext
       obtain ⟨v11, e11, h11⟩ := S.got 11 (by kernel_rfl)
       exact wp_mv ((ev_of (e11 60 (by kernel_rfl))).trans h11) (done (by kernel_rfl) rbu_refl rfl)
      ·refine rs_yes rfl rfl (by kernel_rfl) (by kernel_rfl : _ = some 61) (fun _ _ _ h => h) fun a wr S => ?_
       have X := undrew S.ext
       exact wp_mv (ev_of ((S.old 9 (by kernel_rfl)).trans rfl)) (done (by kernel_rfl) rbu_refl rfl)
      ·refine rs_yes rfl rfl (by kernel_rfl) (by kernel_rfl : _ = some 61) (fun _ _ _ h => h) fun a wr S => ?_
       have X := undrew S.ext
       obtain ⟨v13, e13, h13⟩ := S.got 13 (by kernel_rfl)
       exact wp_not ((ev_of (e13 62 (by kernel_rfl))).trans h13) (done (by kernel_rfl) rbu_refl rfl)
      ·refine rs_yes rfl rfl (by kernel_rfl) (by kernel_rfl : _ = some 61) (fun _ _ _ h => h) fun a wr S => ?_
       have X := undrew S.ext
       obtain ⟨v14, e14, h14⟩ := S.got 14 (by kernel_rfl)
       exact wp_mv ((ev_of (e14 63 (by kernel_rfl))).trans h14) (done (by kernel_rfl) rbu_refl rfl)
      ·exact rs_no rfl rfl (by kernel_rfl) (by kernel_rfl : _ = some 64) (fun _ _ _ h => h) (by kernel_rfl) rbu_refl (fun _ _ => rfl)
      ·exact rs_no rfl rfl (by kernel_rfl) (by kernel_rfl : _ = some 64) (fun _ _ _ h => h) (by kernel_rfl) rbu_refl (fun _ _ => rfl)
      ·exact rs_no rfl rfl (by kernel_rfl) (by kernel_rfl : _ = some 64) (fun _ _ _ h => h) (by kernel_rfl) rbu_refl (fun _ _ => rfl)
      ·exact rs_no rfl rfl (by kernel_rfl) (by kernel_rfl : _ = some 64) (fun _ _ _ h => h) (by kernel_rfl) rbu_refl (fun _ _ => rfl)
      ·exact rs_no rfl rfl (by kernel_rfl) (by kernel_rfl : _ = some 64) (fun _ _ _ h => h) (by kernel_rfl) rbu_refl (fun _ _ => rfl)
      ·refine rs_yes rfl rfl (by kernel_rfl) (by kernel_rfl : _ = some 61) (fun _ _ _ h => h) fun a wr S => ?_
       have X := undrew S.ext
       obtain ⟨v15, e15, h15⟩ := S.got 15 (by kernel_rfl)
       exact wp_pickF ((ev_of (e15 64 (by kernel_rfl))).trans h15) rfl (done (by kernel_rfl) rbu_refl rfl)
      ·refine rs_plain rfl rfl fun a wr S => ?_
       have X := undrew S.ext
       obtain ⟨v12, e12, h12⟩ := S.got 12 (by kernel_rfl)
       obtain ⟨v21, e21, h21⟩ := S.got 21 (by kernel_rfl)
       exact wp_pickF ((ev_of (e12 61 (by kernel_rfl))).trans h12) ((ev_of (e21 70 (by kernel_rfl))).trans h21) (done (by kernel_rfl) rbu_refl rfl)
     ·intro fw15 w15 hR hv
      replace hR := undrew hR
      have f0 : fw15 0 = .bool true := (hvc (hv 0 (by omega))).elim fun _ h => h
      have f1 : fw15 1 = .bool true := (hvc (hv 1 (by omega))).elim fun _ h => h
      have f2 : fw15 2 = .bool false := (hvc (hv 2 (by omega))).elim fun _ h => h
      have f3 : fw15 3 = .bool false := (hvc (hv 3 (by omega))).elim fun _ h => h
      have f4 : fw15 4 = .bool true := (hvc (hv 4 (by omega))).elim fun _ h => h
      have f5 : fw15 5 = .bool true := (hvc (hv 5 (by omega))).elim fun _ h => h
      have f6 : fw15 6 = .agg #[.bool b8, .slice A8 n8 c8, .slice B8 m8 d8] := (hvc (hv 6 (by omega))).elim fun _ h => h
      have f7 : fw15 7 = .agg #[.bool b10, .slice A10 n10 c10, .slice B10 m10 d10] := (hvc (hv 7 (by omega))).elim fun _ h => h
      have f8 : fw15 8 = .bool true := (hvc (hv 8 (by omega))).elim fun _ h => h
      have f9 : fw15 9 = .bool false := (hvc (hv 9 (by omega))).elim fun _ h => h
      have f10 : fw15 10 = .bool false := (hvc (hv 10 (by omega))).elim fun _ h => h
      have f11 : fw15 11 = .bool false := (hvc (hv 11 (by omega))).elim fun _ h => h
      have f12 : fw15 12 = .bool false := (hvc (hv 12 (by omega))).elim fun _ h => h
      have f13 : fw15 13 = .bool true := (hvc (hv 13 (by omega))).elim fun _ h => h
      have f14 : fw15 14 = .bool false := (hvc (hv 14 (by omega))).elim fun _ h => h
      have f15 : fw15 15 = .bool false := (hvc (hv 15 (by omega))).elim fun _ h => h
      have f16 : fw15 16 = undef := (hvc (hv 16 (by omega))).elim fun _ h => h
      have f17 : fw15 17 = undef := (hvc (hv 17 (by omega))).elim fun _ h => h
      have f18 : fw15 18 = undef := (hvc (hv 18 (by omega))).elim fun _ h => h
      have f19 : fw15 19 = undef := (hvc (hv 19 (by omega))).elim fun _ h => h
      have f20 : fw15 20 = undef := (hvc (hv 20 (by omega))).elim fun _ h => h
      have f21 : fw15 21 = Value.bool false := (hvc (hv 21 (by omega))).elim fun _ h => h
      have f22 : fw15 22 = Value.bool false := (hvc (hv 22 (by omega))).elim fun _ h => h
      simp only [putFn, Act.put, List.setIfInBounds_toArray, List.set_cons_zero, List.set_cons_succ, f0, f1, f2, f3, f4, f5, f6, f7, f8, f9, f10, f11, f12, f13, f14, f15, f16, f17, f18, f19, f20, f21, f22]
      replace q8 := q8.below hR
      replace P8 := P8.below hR
      replace q10 := q10.below hR
      replace P10 := P10.below hR
      replace BB := bl_trans BB hR
      clear hR hv
      clear q8 P8 q10 P10
      go_wp2
      go_roundw
      case rel => exact ⟨k + 1, by omega, by go_num, BB⟩
      case measure => simp [intOf]; omega
    ·have hq : ∀ q, M.bytes u' ≠ txtQ q := fun q e => hq ⟨q, e⟩
     have HQ := Lib.hid hq
     clear hq
     go_wp2_with fail
     refine (cQParseN HU'.out HQ.out _).mono ?_
     rintro e w16 ⟨_, rfl, hb, b8, A8, n8, c8, B8, m8, d8, rfl, q8⟩
     replace BB := bl_trans BB hb
     clear hb
     replace q8 := q8.t
     have OO := bl_alloc w16 (.cells #[.bool b8, .slice A8 n8 c8, .slice B8 m8 d8] 26)
     have P8 := Bq.new w16 b8 A8 n8 c8 B8 m8 d8
     replace q8 := q8.below OO
     replace BB := bl_trans BB OO
     clear OO
     go_upto_region 9 with (fail)
     generalize w16.alloc _ = w17 at q8 P8 BB ⊢
     go_wp2_with fail
     refine (cParse3N HU'.out HQ.out).mono ?_
     rintro e w18 ⟨_, rfl, hb, rfl⟩
     replace q8 := q8.below hb
     replace P8 := P8.below hb
     replace BB := bl_trans BB hb
     clear hb
     have OO := bl_alloc w18 (.cells #[.bool false, .slice none 0 0, .slice none 0 0] 26)
     replace q8 := q8.below OO
     replace P8 := P8.below OO
     replace BB := bl_trans BB OO
     clear OO
     go_upto_region 10 with (fail)
     generalize w18.alloc _ = w19 at q8 P8 BB ⊢
     refine wp_region_list (Ext := RB) (Rel := RBu) [fun v _ _ => v = .bool false, fun v _ _ => v = .bool false, fun v _ _ => v = .bool false, fun v _ _ => v = .bool false, fun v _ _ => v = .bool false, fun v _ _ => v = .bool false, fun v _ _ => v = undef, fun v _ _ => v = undef, fun v _ _ => v = undef, fun v _ _ => v = undef, fun v _ _ => v = Value.bool false, fun v _ _ => v = Value.bool false, fun v _ _ => v = Value.bool false, fun v _ _ => v = .bool false, fun v _ _ => v = .bool true, fun v _ _ => v = .bool true, fun v _ _ => v = .agg #[.bool b8, .slice A8 n8 c8, .slice B8 m8 d8], fun v _ _ => v = .agg #[.bool false, .slice none 0 0, .slice none 0 0], fun v _ w => IsQt w v (0) 1, fun v _ _ => v = .bool true, fun v _ _ => v = .bool false, fun v _ _ => v = .bool false, fun v _ _ => v = .bool false] (n := 23) (by kernel_rfl) rfl (by kernel_rfl) (by kernel_rfl) (by kernel_rfl) (by kernel_rfl) (by kernel_rfl) rb_refl rb_trans ⟨sC, ⟨sC, ⟨sC, ⟨sC, ⟨sC, ⟨sC, ⟨sC, ⟨sC, ⟨sC, ⟨sC, ⟨sC, ⟨sC, ⟨sC, ⟨sC, ⟨sC, ⟨sC, ⟨sC, ⟨sC, ⟨sQt, ⟨sC, ⟨sC, ⟨sC, ⟨sC, trivial⟩⟩⟩⟩⟩⟩⟩⟩⟩⟩⟩⟩⟩⟩⟩⟩⟩⟩⟩⟩⟩⟩⟩ ?_ ?_
     ·refine ⟨⟨⟨⟨⟨⟨⟨⟨⟨⟨⟨⟨⟨⟨⟨⟨⟨⟨⟨⟨⟨⟨⟨trivial, ?_⟩, ?_⟩, ?_⟩, ?_⟩, ?_⟩, ?_⟩, ?_⟩, ?_⟩, ?_⟩, ?_⟩, ?_⟩, ?_⟩, ?_⟩, ?_⟩, ?_⟩, ?_⟩, ?_⟩, ?_⟩, ?_⟩, ?_⟩, ?_⟩, ?_⟩, ?_⟩
      ·refine rs_plain rfl rfl fun a wr S => ?_
       have X := undrew S.ext
       exact wp_mv (ev_of ((S.old 9 (by kernel_rfl)).trans rfl)) (done (by kernel_rfl) rbu_refl rfl)
      ·refine rs_plain rfl rfl fun a wr S => ?_
       have X := undrew S.ext
       exact wp_mv (ev_of ((S.old 11 (by kernel_rfl)).trans rfl)) (done (by kernel_rfl) rbu_refl rfl)
      ·refine rs_plain rfl rfl fun a wr S => ?_
       have X := undrew S.ext
       obtain ⟨v0, e0, h0⟩ := S.got 0 (by kernel_rfl)
       obtain ⟨v1, e1, h1⟩ := S.got 1 (by kernel_rfl)
       exact wp_neB ((ev_of (e0 49 (by kernel_rfl))).trans h0) ((ev_of (e1 50 (by kernel_rfl))).trans h1) (done (by kernel_rfl) rbu_refl (congrArg Value.bool (by decide)))
      ·refine rs_plain rfl rfl fun a wr S => ?_
       have X := undrew S.ext
       obtain ⟨v2, e2, h2⟩ := S.got 2 (by kernel_rfl)
       exact wp_mv ((ev_of (e2 51 (by kernel_rfl))).trans h2) (done (by kernel_rfl) rbu_refl rfl)
      ·refine rs_yes rfl rfl (by kernel_rfl) (by kernel_rfl : _ = some 52) (fun _ _ _ h => h) fun a wr S => ?_
       have X := undrew S.ext
       exact wp_mv (ev_of ((S.old 9 (by kernel_rfl)).trans rfl)) (done (by kernel_rfl) rbu_refl rfl)
      ·refine rs_yes rfl rfl (by kernel_rfl) (by kernel_rfl : _ = some 52) (fun _ _ _ h => h) fun a wr S => ?_
       have X := undrew S.ext
       obtain ⟨v4, e4, h4⟩ := S.got 4 (by kernel_rfl)
       exact wp_mv ((ev_of (e4 53 (by kernel_rfl))).trans h4) (done (by kernel_rfl) rbu_refl rfl)
      ·exact rs_no rfl rfl (by kernel_rfl) (by kernel_rfl : _ = some 54) (fun _ _ _ h => h) (by kernel_rfl) rbu_refl (fun _ _ => rfl)
      ·exact rs_no rfl rfl (by kernel_rfl) (by kernel_rfl : _ = some 54) (fun _ _ _ h => h) (by kernel_rfl) rbu_refl (fun _ _ => rfl)
      ·exact rs_no rfl rfl (by kernel_rfl) (by kernel_rfl : _ = some 54) (fun _ _ _ h => h) (by kernel_rfl) rbu_refl (fun _ _ => rfl)
      ·exact rs_no rfl rfl (by kernel_rfl) (by kernel_rfl : _ = some 54) (fun _ _ _ h => h) (by kernel_rfl) rbu_refl (fun _ _ => rfl)
      ·refine rs_yes rfl rfl (by kernel_rfl) (by kernel_rfl : _ = some 52) (fun _ _ _ h => h) fun a wr S => ?_
       have X := undrew S.ext
       obtain ⟨v5, e5, h5⟩ := S.got 5 (by kernel_rfl)
       exact wp_pickF ((ev_of (e5 54 (by kernel_rfl))).trans h5) rfl (done (by kernel_rfl) rbu_refl rfl)
      ·refine rs_plain rfl rfl fun a wr S => ?_
       have X := undrew S.ext
       obtain ⟨v3, e3, h3⟩ := S.got 3 (by kernel_rfl)
       obtain ⟨v10, e10, h10⟩ := S.got 10 (by kernel_rfl)
       exact wp_pickF ((ev_of (e3 52 (by kernel_rfl))).trans h3) ((ev_of (e10 59 (by kernel_rfl))).trans h10) (done (by kernel_rfl) rbu_refl rfl)
      ·refine rs_plain rfl rfl fun a wr S => ?_
       have X := undrew S.ext
       obtain ⟨v11, e11, h11⟩ := S.got 11 (by kernel_rfl)
       exact wp_mv ((ev_of (e11 60 (by kernel_rfl))).trans h11) (done (by kernel_rfl) rbu_refl rfl)
      ·refine rs_yes rfl rfl (by kernel_rfl) (by kernel_rfl : _ = some 61) (fun _ _ _ h => h) fun a wr S => ?_
       have X := undrew S.ext
       exact wp_mv (ev_of ((S.old 9 (by kernel_rfl)).trans rfl)) (done (by kernel_rfl) rbu_refl rfl)
      ·refine rs_yes rfl rfl (by kernel_rfl) (by kernel_rfl : _ = some 61) (fun _ _ _ h => h) fun a wr S => ?_
       have X := undrew S.ext
       obtain ⟨v13, e13, h13⟩ := S.got 13 (by kernel_rfl)
       exact wp_not ((ev_of (e13 62 (by kernel_rfl))).trans h13) (done (by kernel_rfl) rbu_refl rfl)
      ·refine rs_yes rfl rfl (by kernel_rfl) (by kernel_rfl : _ = some 61) (fun _ _ _ h => h) fun a wr S => ?_
       have X := undrew S.ext
       obtain ⟨v14, e14, h14⟩ := S.got 14 (by kernel_rfl)
       exact wp_mv ((ev_of (e14 63 (by kernel_rfl))).trans h14) (done (by kernel_rfl) rbu_refl rfl)
      ·refine rs_yes rfl rfl (by kernel_rfl) (by kernel_rfl : _ = some 64) (fun _ _ _ h => h) fun a wr S => ?_
       have X := undrew S.ext
       exact wp_qload (ev_of ((S.old 8 (by kernel_rfl)).trans rfl)) (P8.below X) (done (by kernel_rfl) rbu_refl rfl)
      ·refine rs_yes rfl rfl (by kernel_rfl) (by kernel_rfl : _ = some 64) (fun _ _ _ h => h) fun a wr S => ?_
       have X := undrew S.ext
       exact wp_build0Q (done (by kernel_rfl) rbu_refl rfl)
      ·refine rs_yes rfl rfl (by kernel_rfl) (by kernel_rfl : _ = some 64) (fun _ _ _ h => h) fun a wr S => ?_
       have X := undrew S.ext
       obtain ⟨v17, e17, h17⟩ := S.got 17 (by kernel_rfl)
       exact st_call cf_ref03_Made (args1 ((ev_of (e17 66 (by kernel_rfl))).trans h17)) (by kernel_rfl) rb (cMade3 (show IsQm _ _ _ _ from ((isQm_nil w19).below X)) (by omega) (by omega)) (fun _ _ _ h => h)
      ·refine rs_yes rfl rfl (by kernel_rfl) (by kernel_rfl : _ = some 64) (fun _ _ _ h => h) fun a wr S => ?_
       have X := undrew S.ext
       obtain ⟨v16, e16, h16⟩ := S.got 16 (by kernel_rfl)
       obtain ⟨v18, e18, h18⟩ := S.got 18 (by kernel_rfl)
       exact st_call cf_law03_same (args2 ((ev_of (e16 65 (by kernel_rfl))).trans h16) (ev_of (e18 67 (by kernel_rfl)))) (by kernel_rfl) rb (cSame3 (show IsQt _ _ _ _ from (q8.below X)) (show IsQt _ _ _ _ from h18) (by omega) (by omega) (r := true) ⟨fun _ => rfl, fun _ => rfl⟩) (fun _ _ _ h => h)
      ·refine rs_yes rfl rfl (by kernel_rfl) (by kernel_rfl : _ = some 64) (fun _ _ _ h => h) fun a wr S => ?_
       have X := undrew S.ext
       obtain ⟨v19, e19, h19⟩ := S.got 19 (by kernel_rfl)
       exact wp_not ((ev_of (e19 68 (by kernel_rfl))).trans h19) (done (by kernel_rfl) rbu_refl rfl)
      ·refine rs_yes rfl rfl (by kernel_rfl) (by kernel_rfl : _ = some 61) (fun _ _ _ h => h) fun a wr S => ?_
       have X := undrew S.ext
       obtain ⟨v15, e15, h15⟩ := S.got 15 (by kernel_rfl)
       obtain ⟨v20, e20, h20⟩ := S.got 20 (by kernel_rfl)
       exact wp_pickT ((ev_of (e15 64 (by kernel_rfl))).trans h15) ((ev_of (e20 69 (by kernel_rfl))).trans h20) (done (by kernel_rfl) rbu_refl rfl)
      ·refine rs_plain rfl rfl fun a wr S => ?_
       have X := undrew S.ext
       obtain ⟨v12, e12, h12⟩ := S.got 12 (by kernel_rfl)
       obtain ⟨v21, e21, h21⟩ := S.got 21 (by kernel_rfl)
       exact wp_pickF ((ev_of (e12 61 (by kernel_rfl))).trans h12) ((ev_of (e21 70 (by kernel_rfl))).trans h21) (done (by kernel_rfl) rbu_refl rfl)
     ·intro fw20 w20 hR hv
      replace hR := undrew hR
      have f0 : fw20 0 = .bool false := (hvc (hv 0 (by omega))).elim fun _ h => h
      have f1 : fw20 1 = .bool false := (hvc (hv 1 (by omega))).elim fun _ h => h
      have f2 : fw20 2 = .bool false := (hvc (hv 2 (by omega))).elim fun _ h => h
      have f3 : fw20 3 = .bool false := (hvc (hv 3 (by omega))).elim fun _ h => h
      have f4 : fw20 4 = .bool false := (hvc (hv 4 (by omega))).elim fun _ h => h
      have f5 : fw20 5 = .bool false := (hvc (hv 5 (by omega))).elim fun _ h => h
      have f6 : fw20 6 = undef := (hvc (hv 6 (by omega))).elim fun _ h => h
      have f7 : fw20 7 = undef := (hvc (hv 7 (by omega))).elim fun _ h => h
      have f8 : fw20 8 = undef := (hvc (hv 8 (by omega))).elim fun _ h => h
      have f9 : fw20 9 = undef := (hvc (hv 9 (by omega))).elim fun _ h => h
      have f10 : fw20 10 = Value.bool false := (hvc (hv 10 (by omega))).elim fun _ h => h
      have f11 : fw20 11 = Value.bool false := (hvc (hv 11 (by omega))).elim fun _ h => h
      have f12 : fw20 12 = Value.bool false := (hvc (hv 12 (by omega))).elim fun _ h => h
      have f13 : fw20 13 = .bool false := (hvc (hv 13 (by omega))).elim fun _ h => h
      have f14 : fw20 14 = .bool true := (hvc (hv 14 (by omega))).elim fun _ h => h
      have f15 : fw20 15 = .bool true := (hvc (hv 15 (by omega))).elim fun _ h => h
      have f16 : fw20 16 = .agg #[.bool b8, .slice A8 n8 c8, .slice B8 m8 d8] := (hvc (hv 16 (by omega))).elim fun _ h => h
      have f17 : fw20 17 = .agg #[.bool false, .slice none 0 0, .slice none 0 0] := (hvc (hv 17 (by omega))).elim fun _ h => h
      have f19 : fw20 19 = .bool true := (hvc (hv 19 (by omega))).elim fun _ h => h
      have f20 : fw20 20 = .bool false := (hvc (hv 20 (by omega))).elim fun _ h => h
      have f21 : fw20 21 = .bool false := (hvc (hv 21 (by omega))).elim fun _ h => h
      have f22 : fw20 22 = .bool false := (hvc (hv 22 (by omega))).elim fun _ h => h
      simp only [putFn, Act.put, List.setIfInBounds_toArray, List.set_cons_zero, List.set_cons_succ, f0, f1, f2, f3, f4, f5, f6, f7, f8, f9, f10, f11, f12, f13, f14, f15, f16, f17, f19, f20, f21, f22]
      replace q8 := q8.below hR
      replace P8 := P8.below hR
      replace BB := bl_trans BB hR
      clear hR hv
      clear q8 P8
      go_wp2
      go_roundw
      case rel => exact ⟨k + 1, by omega, by go_num, BB⟩
      case measure => simp [intOf]; omega
   ·obtain rfl : k = 2 := by omega
    go_wp2_with fail
    refine (cWorks3 _).mono ?_
    rintro e w6 ⟨_, rfl, b6, rfl⟩
    have HB6 := Lib.hid (bl_trans HBK.out b6)
    clear b6
    go_wp2
    go_ret
    exact ⟨rfl, HB6.out⟩
 ·have htp : 0 < n := by omega
  obtain ⟨k, hk⟩ : ∃ k, k = x % n := ⟨_, rfl⟩
  have hkn : k < n := by rw [hk]; exact Nat.mod_lt _ htp
  have hki : (x : Int).tmod (n : Int) = k := by rw [hk]; exact tmod_nat x n
  have hkm : (x : Int) % (n : Int) = k := by rw [hk]; exact (Int.natCast_emod x n).symm
  obtain ⟨z, hz⟩ : ∃ z, (M.bytes (s.extract 0 60))[k]? = some z := ⟨_, List.getElem?_eq_getElem (by rw [HL.out]; exact hkn)⟩
  have ck := HBY.out.cell hz
  have fk := HBY.out.fr (i := k) (by rw [HL.out]; exact hkn)
  obtain ⟨u, hu, hback⟩ := (HBY.out.set k y).drew.back n c (by rw [List.length_set]; exact HL.out)
  have HU := Lib.hid (show u.size ≤ 60 by omega)
  have HB2 := Lib.hid ((HBB.out.setCell (p := ⟨w.heap.size + 1, k, none⟩) (by simp) (.int .u8 (y : Int))).drew)
  clear hz hu hk
  go_enter Tryz.func5, Tryz.ntmps5
  go_wp2
  go_region
  go_wp2
  go_loopw [36] (fun p wr => ∃ k : Nat, k ≤ 2 ∧ p = .int .i64 (k : Int) ∧ Below w.heap.size w wr) (fun p _ => 2 - (intOf p).toNat)
  case atStart => exact ⟨0, by omega, rfl, HB2.out⟩
  case round =>
   obtain ⟨k, hk, rfl, hbk⟩ := hrel
   have HBK := Lib.hid hbk
   clear hbk
   by_cases hk2 : k < 2
   ·obtain ⟨u', hidx, hu'⟩ : ∃ u', (Instr.index 51 (.agg #[.string (s.extract 0 60), .string u]) (.int .i64 (k : Int))).run Tryz.prog wr = .ok (.string u') wr ∧ u'.size ≤ 60 := by
     rcases (show k = 0 ∨ k = 1 by omega) with rfl | rfl
     ·exact ⟨_, (index_a2 wr (s.extract 0 60) u).1, HTZ.out⟩
     ·exact ⟨_, (index_a2 wr (s.extract 0 60) u).2, HU.out⟩
    have HU' := Lib.hid hu'
    clear hu'
    have BB := HBK.out
    clear HBK
    by_cases hq : ∃ q, M.bytes u' = txtQ q
    ·obtain ⟨q, hq⟩ := hq
     have HQ := Lib.hid hq
     clear hq
     go_wp2_with fail
     refine (cQParseY HU'.out HQ.out _).mono ?_
     rintro e w11 ⟨_, rfl, hb, b8, A8, n8, c8, B8, m8, d8, rfl, q8⟩
     replace BB := bl_trans BB hb
     clear hb
     replace q8 := q8.t
     have OO := bl_alloc w11 (.cells #[.bool b8, .slice A8 n8 c8, .slice B8 m8 d8] 26)
     have P8 := Bq.new w11 b8 A8 n8 c8 B8 m8 d8
     replace q8 := q8.below OO
     replace BB := bl_trans BB OO
     clear OO
     go_upto_region 9 with (fail)
     generalize w11.alloc _ = w12 at q8 P8 BB ⊢
     go_wp2_with fail
     refine (cParse3Y HU'.out HQ.out).mono ?_
     rintro e w13 ⟨_, rfl, hb, b10, A10, n10, c10, B10, m10, d10, rfl, q10⟩
     replace q8 := q8.below hb
     replace P8 := P8.below hb
     replace BB := bl_trans BB hb
     clear hb
     have OO := bl_alloc w13 (.cells #[.bool b10, .slice A10 n10 c10, .slice B10 m10 d10] 26)
     have P10 := Bq.new w13 b10 A10 n10 c10 B10 m10 d10
     replace q8 := q8.below OO
     replace P8 := P8.below OO
     replace q10 := q10.below OO
     replace BB := bl_trans BB OO
     clear OO
     go_upto_region 10 with (fail)
     generalize w13.alloc _ = w14 at q8 P8 q10 P10 BB ⊢
     refine wp_region_list (Ext := RB) (Rel := RBu) [fun v _ _ => v = .bool true, fun v _ _ => v = .bool true, fun v _ _ => v = .bool false, fun v _ _ => v = .bool false, fun v _ _ => v = .bool true, fun v _ _ => v = .bool true, fun v _ _ => v = .agg #[.bool b8, .slice A8 n8 c8, .slice B8 m8 d8], fun v _ _ => v = .agg #[.bool b10, .slice A10 n10 c10, .slice B10 m10 d10], fun v _ _ => v = .bool true, fun v _ _ => v = .bool false, fun v _ _ => v = .bool false, fun v _ _ => v = .bool false, fun v _ _ => v = .bool false, fun v _ _ => v = .bool true, fun v _ _ => v = .bool false, fun v _ _ => v = .bool false, fun v _ _ => v = undef, fun v _ _ => v = undef, fun v _ _ => v = undef, fun v _ _ => v = undef, fun v _ _ => v = undef, fun v _ _ => v = Value.bool false, fun v _ _ => v = Value.bool false] (n := 23) (by kernel_rfl) rfl (by kernel_rfl) (by kernel_rfl) (by kernel_rfl) (by kernel_rfl) (by kernel_rfl) rb_refl rb_trans ⟨sC, ⟨sC, ⟨sC, ⟨sC, ⟨sC, ⟨sC, ⟨sC, ⟨sC, ⟨sC, ⟨sC, ⟨sC, ⟨sC, ⟨sC, ⟨sC, ⟨sC, ⟨sC, ⟨sC, ⟨sC, ⟨sC, ⟨sC, ⟨sC, ⟨sC, ⟨sC, trivial⟩⟩⟩⟩⟩⟩⟩⟩⟩⟩⟩⟩⟩⟩⟩⟩⟩⟩⟩⟩⟩⟩⟩ ?_ ?_
     ·refine ⟨⟨⟨⟨⟨⟨⟨⟨⟨⟨⟨⟨⟨⟨⟨⟨⟨⟨⟨⟨⟨⟨⟨trivial, ?_⟩, ?_⟩, ?_⟩, ?_⟩, ?_⟩, ?_⟩, ?_⟩, ?_⟩, ?_⟩, ?_⟩, ?_⟩, ?_⟩, ?_⟩, ?_⟩, ?_⟩, ?_⟩, ?_⟩, ?_⟩, ?_⟩, ?_⟩, ?_⟩, ?_⟩, ?_⟩
      ·refine rs_plain rfl rfl fun a wr S => ?_
       have X := undrew S.ext
       exact wp_mv (ev_of ((S.old 9 (by kernel_rfl)).trans rfl)) (done (by kernel_rfl) rbu_refl rfl)
      ·refine rs_plain rfl rfl fun a wr S => ?_
       have X := undrew S.ext
       exact wp_mv (ev_of ((S.old 11 (by kernel_rfl)).trans rfl)) (done (by kernel_rfl) rbu_refl rfl)
      ·refine rs_plain rfl rfl fun a wr S => ?_
       have X := undrew S.ext
       obtain ⟨v0, e0, h0⟩ := S.got 0 (by kernel_rfl)
       obtain ⟨v1, e1, h1⟩ := S.got 1 (by kernel_rfl)
       exact wp_neB ((ev_of (e0 49 (by kernel_rfl))).trans h0) ((ev_of (e1 50 (by kernel_rfl))).trans h1) (done (by kernel_rfl) rbu_refl (congrArg Value.bool (by decide)))
      ·refine rs_plain rfl rfl fun a wr S => ?_
       have X := undrew S.ext
       obtain ⟨v2, e2, h2⟩ := S.got 2 (by kernel_rfl)
       exact wp_mv ((ev_of (e2 51 (by kernel_rfl))).trans h2) (done (by kernel_rfl) rbu_refl rfl)
      ·refine rs_yes rfl rfl (by kernel_rfl) (by kernel_rfl : _ = some 52) (fun _ _ _ h => h) fun a wr S => ?_
       have X := undrew S.ext
       exact wp_mv (ev_of ((S.old 9 (by kernel_rfl)).trans rfl)) (done (by kernel_rfl) rbu_refl rfl)
      ·refine rs_yes rfl rfl (by kernel_rfl) (by kernel_rfl : _ = some 52) (fun _ _ _ h => h) fun a wr S => ?_
       have X := undrew S.ext
       obtain ⟨v4, e4, h4⟩ := S.got 4 (by kernel_rfl)
       exact wp_mv ((ev_of (e4 53 (by kernel_rfl))).trans h4) (done (by kernel_rfl) rbu_refl rfl)
      ·refine rs_yes rfl rfl (by kernel_rfl) (by kernel_rfl : _ = some 54) (fun _ _ _ h => h) fun a wr S => ?_
       have X := undrew S.ext
       exact wp_qload (ev_of ((S.old 8 (by kernel_rfl)).trans rfl)) (P8.below X) (done (by kernel_rfl) rbu_refl rfl)
      ·refine rs_yes rfl rfl (by kernel_rfl) (by kernel_rfl : _ = some 54) (fun _ _ _ h => h) fun a wr S => ?_
       have X := undrew S.ext
       exact wp_qload (ev_of ((S.old 10 (by kernel_rfl)).trans rfl)) (P10.below X) (done (by kernel_rfl) rbu_refl rfl)
      ·refine rs_yes rfl rfl (by kernel_rfl) (by kernel_rfl : _ = some 54) (fun _ _ _ h => h) fun a wr S => ?_
       have X := undrew S.ext
       obtain ⟨v6, e6, h6⟩ := S.got 6 (by kernel_rfl)
       obtain ⟨v7, e7, h7⟩ := S.got 7 (by kernel_rfl)
       exact st_call cf_law03_same (args2 ((ev_of (e6 55 (by kernel_rfl))).trans h6) ((ev_of (e7 56 (by kernel_rfl))).trans h7)) (by kernel_rfl) rb (cSame3 (show IsQt _ _ _ _ from (q8.below X)) (show IsQt _ _ _ _ from (q10.below X)) (by omega) (by omega) (r := true) ⟨fun _ => rfl, fun _ => rfl⟩) (fun _ _ _ h => h)
      ·refine rs_yes rfl rfl (by kernel_rfl) (by kernel_rfl : _ = some 54) (fun _ _ _ h => h) fun a wr S => ?_
       have X := undrew S.ext
       obtain ⟨v8, e8, h8⟩ := S.got 8 (by kernel_rfl)
       exact wp_not ((ev_of (e8 57 (by kernel_rfl))).trans h8) (done (by kernel_rfl) rbu_refl rfl)
      ·refine rs_yes rfl rfl (by kernel_rfl) (by kernel_rfl : _ = some 52) (fun _ _ _ h => h) fun a wr S => ?_
       have X := undrew S.ext
       obtain ⟨v5, e5, h5⟩ := S.got 5 (by kernel_rfl)
       obtain ⟨v9, e9, h9⟩ := S.got 9 (by kernel_rfl)
       exact wp_pickT ((ev_of (e5 54 (by kernel_rfl))).trans h5) ((ev_of (e9 58 (by kernel_rfl))).trans h9) (done (by kernel_rfl) rbu_refl rfl)
      ·refine rs_plain rfl rfl fun a wr S => ?_
       have X := undrew S.ext
       obtain ⟨v3, e3, h3⟩ := S.got 3 (by kernel_rfl)
       obtain ⟨v10, e10, h10⟩ := S.got 10 (by kernel_rfl)
       exact wp_pickF ((ev_of (e3 52 (by kernel_rfl))).trans h3) ((ev_of (e10 59 (by kernel_rfl))).trans h10) (done (by kernel_rfl) rbu_refl rfl)
      ·refine rs_plain rfl rfl fun a wr S => ?_
       have X := undrew S.ext
       obtain ⟨v11, e11, h11⟩ := S.got 11 (by kernel_rfl)
       exact wp_mv ((ev_of (e11 60 (by kernel_rfl))).trans h11) (done (by kernel_rfl) rbu_refl rfl)
      ·refine rs_yes rfl rfl (by kernel_rfl) (by kernel_rfl : _ = some 61) (fun _ _ _ h => h) fun a wr S => ?_
       have X := undrew S.ext
       exact wp_mv (ev_of ((S.old 9 (by kernel_rfl)).trans rfl)) (done (by kernel_rfl) rbu_refl rfl)
      ·refine rs_yes rfl rfl (by kernel_rfl) (by kernel_rfl : _ = some 61) (fun _ _ _ h => h) fun a wr S => ?_
       have X := undrew S.ext
       obtain ⟨v13, e13, h13⟩ := S.got 13 (by kernel_rfl)
       exact wp_not ((ev_of (e13 62 (by kernel_rfl))).trans h13) (done (by kernel_rfl) rbu_refl rfl)
      ·refine rs_yes rfl rfl (by kernel_rfl) (by kernel_rfl : _ = some 61) (fun _ _ _ h => h) fun a wr S => ?_
       have X := undrew S.ext
       obtain ⟨v14, e14, h14⟩ := S.got 14 (by kernel_rfl)
       exact wp_mv ((ev_of (e14 63 (by kernel_rfl))).trans h14) (done (by kernel_rfl) rbu_refl rfl)
      ·exact rs_no rfl rfl (by kernel_rfl) (by kernel_rfl : _ = some 64) (fun _ _ _ h => h) (by kernel_rfl) rbu_refl (fun _ _ => rfl)
      ·exact rs_no rfl rfl (by kernel_rfl) (by kernel_rfl : _ = some 64) (fun _ _ _ h => h) (by kernel_rfl) rbu_refl (fun _ _ => rfl)
      ·exact rs_no rfl rfl (by kernel_rfl) (by kernel_rfl : _ = some 64) (fun _ _ _ h => h) (by kernel_rfl) rbu_refl (fun _ _ => rfl)
      ·exact rs_no rfl rfl (by kernel_rfl) (by kernel_rfl : _ = some 64) (fun _ _ _ h => h) (by kernel_rfl) rbu_refl (fun _ _ => rfl)
      ·exact rs_no rfl rfl (by kernel_rfl) (by kernel_rfl : _ = some 64) (fun _ _ _ h => h) (by kernel_rfl) rbu_refl (fun _ _ => rfl)
      ·refine rs_yes rfl rfl (by kernel_rfl) (by kernel_rfl : _ = some 61) (fun _ _ _ h => h) fun a wr S => ?_
       have X := undrew S.ext
       obtain ⟨v15, e15, h15⟩ := S.got 15 (by kernel_rfl)
       exact wp_pickF ((ev_of (e15 64 (by kernel_rfl))).trans h15) rfl (done (by kernel_rfl) rbu_refl rfl)
      ·refine rs_plain rfl rfl fun a wr S => ?_
       have X := undrew S.ext
       obtain ⟨v12, e12, h12⟩ := S.got 12 (by kernel_rfl)
       obtain ⟨v21, e21, h21⟩ := S.got 21 (by kernel_rfl)
       exact wp_pickF ((ev_of (e12 61 (by kernel_rfl))).trans h12) ((ev_of (e21 70 (by kernel_rfl))).trans h21) (done (by kernel_rfl) rbu_refl rfl)
     ·intro fw15 w15 hR hv
      replace hR := undrew hR
      have f0 : fw15 0 = .bool true := (hvc (hv 0 (by omega))).elim fun _ h => h
      have f1 : fw15 1 = .bool true := (hvc (hv 1 (by omega))).elim fun _ h => h
      have f2 : fw15 2 = .bool false := (hvc (hv 2 (by omega))).elim fun _ h => h
      have f3 : fw15 3 = .bool false := (hvc (hv 3 (by omega))).elim fun _ h => h
      have f4 : fw15 4 = .bool true := (hvc (hv 4 (by omega))).elim fun _ h => h
      have f5 : fw15 5 = .bool true := (hvc (hv 5 (by omega))).elim fun _ h => h
      have f6 : fw15 6 = .agg #[.bool b8, .slice A8 n8 c8, .slice B8 m8 d8] := (hvc (hv 6 (by omega))).elim fun _ h => h
      have f7 : fw15 7 = .agg #[.bool b10, .slice A10 n10 c10, .slice B10 m10 d10] := (hvc (hv 7 (by omega))).elim fun _ h => h
      have f8 : fw15 8 = .bool true := (hvc (hv 8 (by omega))).elim fun _ h => h
      have f9 : fw15 9 = .bool false := (hvc (hv 9 (by omega))).elim fun _ h => h
      have f10 : fw15 10 = .bool false := (hvc (hv 10 (by omega))).elim fun _ h => h
      have f11 : fw15 11 = .bool false := (hvc (hv 11 (by omega))).elim fun _ h => h
      have f12 : fw15 12 = .bool false := (hvc (hv 12 (by omega))).elim fun _ h => h
      have f13 : fw15 13 = .bool true := (hvc (hv 13 (by omega))).elim fun _ h => h
      have f14 : fw15 14 = .bool false := (hvc (hv 14 (by omega))).elim fun _ h => h
      have f15 : fw15 15 = .bool false := (hvc (hv 15 (by omega))).elim fun _ h => h
      have f16 : fw15 16 = undef := (hvc (hv 16 (by omega))).elim fun _ h => h
      have f17 : fw15 17 = undef := (hvc (hv 17 (by omega))).elim fun _ h => h
      have f18 : fw15 18 = undef := (hvc (hv 18 (by omega))).elim fun _ h => h
      have f19 : fw15 19 = undef := (hvc (hv 19 (by omega))).elim fun _ h => h
      have f20 : fw15 20 = undef := (hvc (hv 20 (by omega))).elim fun _ h => h
      have f21 : fw15 21 = Value.bool false := (hvc (hv 21 (by omega))).elim fun _ h => h
      have f22 : fw15 22 = Value.bool false := (hvc (hv 22 (by omega))).elim fun _ h => h
      simp only [putFn, Act.put, List.setIfInBounds_toArray, List.set_cons_zero, List.set_cons_succ, f0, f1, f2, f3, f4, f5, f6, f7, f8, f9, f10, f11, f12, f13, f14, f15, f16, f17, f18, f19, f20, f21, f22]
      replace q8 := q8.below hR
      replace P8 := P8.below hR
      replace q10 := q10.below hR
      replace P10 := P10.below hR
      replace BB := bl_trans BB hR
      clear hR hv
      clear q8 P8 q10 P10
      go_wp2
      go_roundw
      case rel => exact ⟨k + 1, by omega, by go_num, BB⟩
      case measure => simp [intOf]; omega
    ·have hq : ∀ q, M.bytes u' ≠ txtQ q := fun q e => hq ⟨q, e⟩
     have HQ := Lib.hid hq
     clear hq
     go_wp2_with fail
     refine (cQParseN HU'.out HQ.out _).mono ?_
     rintro e w16 ⟨_, rfl, hb, b8, A8, n8, c8, B8, m8, d8, rfl, q8⟩
     replace BB := bl_trans BB hb
     clear hb
     replace q8 := q8.t
     have OO := bl_alloc w16 (.cells #[.bool b8, .slice A8 n8 c8, .slice B8 m8 d8] 26)
     have P8 := Bq.new w16 b8 A8 n8 c8 B8 m8 d8
     replace q8 := q8.below OO
     replace BB := bl_trans BB OO
     clear OO
     go_upto_region 9 with (fail)
     generalize w16.alloc _ = w17 at q8 P8 BB ⊢
     go_wp2_with fail
     refine (cParse3N HU'.out HQ.out).mono ?_
     rintro e w18 ⟨_, rfl, hb, rfl⟩
     replace q8 := q8.below hb
     replace P8 := P8.below hb
     replace BB := bl_trans BB hb
     clear hb
     have OO := bl_alloc w18 (.cells #[.bool false, .slice none 0 0, .slice none 0 0] 26)
     replace q8 := q8.below OO
     replace P8 := P8.below OO
     replace BB := bl_trans BB OO
     clear OO
     go_upto_region 10 with (fail)
     generalize w18.alloc _ = w19 at q8 P8 BB ⊢
     refine wp_region_list (Ext := RB) (Rel := RBu) [fun v _ _ => v = .bool false, fun v _ _ => v = .bool false, fun v _ _ => v = .bool false, fun v _ _ => v = .bool false, fun v _ _ => v = .bool false, fun v _ _ => v = .bool false, fun v _ _ => v = undef, fun v _ _ => v = undef, fun v _ _ => v = undef, fun v _ _ => v = undef, fun v _ _ => v = Value.bool false, fun v _ _ => v = Value.bool false, fun v _ _ => v = Value.bool false, fun v _ _ => v = .bool false, fun v _ _ => v = .bool true, fun v _ _ => v = .bool true, fun v _ _ => v = .agg #[.bool b8, .slice A8 n8 c8, .slice B8 m8 d8], fun v _ _ => v = .agg #[.bool false, .slice none 0 0, .slice none 0 0], fun v _ w => IsQt w v (0) 1, fun v _ _ => v = .bool true, fun v _ _ => v = .bool false, fun v _ _ => v = .bool false, fun v _ _ => v = .bool false] (n := 23) (by kernel_rfl) rfl (by kernel_rfl) (by kernel_rfl) (by kernel_rfl) (by kernel_rfl) (by kernel_rfl) rb_refl rb_trans ⟨sC, ⟨sC, ⟨sC, ⟨sC, ⟨sC, ⟨sC, ⟨sC, ⟨sC, ⟨sC, ⟨sC, ⟨sC, ⟨sC, ⟨sC, ⟨sC, ⟨sC, ⟨sC, ⟨sC, ⟨sC, ⟨sQt, ⟨sC, ⟨sC, ⟨sC, ⟨sC, trivial⟩⟩⟩⟩⟩⟩⟩⟩⟩⟩⟩⟩⟩⟩⟩⟩⟩⟩⟩⟩⟩⟩⟩ ?_ ?_
     ·refine ⟨⟨⟨⟨⟨⟨⟨⟨⟨⟨⟨⟨⟨⟨⟨⟨⟨⟨⟨⟨⟨⟨⟨trivial, ?_⟩, ?_⟩, ?_⟩, ?_⟩, ?_⟩, ?_⟩, ?_⟩, ?_⟩, ?_⟩, ?_⟩, ?_⟩, ?_⟩, ?_⟩, ?_⟩, ?_⟩, ?_⟩, ?_⟩, ?_⟩, ?_⟩, ?_⟩, ?_⟩, ?_⟩, ?_⟩
      ·refine rs_plain rfl rfl fun a wr S => ?_
       have X := undrew S.ext
       exact wp_mv (ev_of ((S.old 9 (by kernel_rfl)).trans rfl)) (done (by kernel_rfl) rbu_refl rfl)
      ·refine rs_plain rfl rfl fun a wr S => ?_
       have X := undrew S.ext
       exact wp_mv (ev_of ((S.old 11 (by kernel_rfl)).trans rfl)) (done (by kernel_rfl) rbu_refl rfl)
      ·refine rs_plain rfl rfl fun a wr S => ?_
       have X := undrew S.ext
       obtain ⟨v0, e0, h0⟩ := S.got 0 (by kernel_rfl)
       obtain ⟨v1, e1, h1⟩ := S.got 1 (by kernel_rfl)
       exact wp_neB ((ev_of (e0 49 (by kernel_rfl))).trans h0) ((ev_of (e1 50 (by kernel_rfl))).trans h1) (done (by kernel_rfl) rbu_refl (congrArg Value.bool (by decide)))
      ·refine rs_plain rfl rfl fun a wr S => ?_
       have X := undrew S.ext
       obtain ⟨v2, e2, h2⟩ := S.got 2 (by kernel_rfl)
       exact wp_mv ((ev_of (e2 51 (by kernel_rfl))).trans h2) (done (by kernel_rfl) rbu_refl rfl)
      ·refine rs_yes rfl rfl (by kernel_rfl) (by kernel_rfl : _ = some 52) (fun _ _ _ h => h) fun a wr S => ?_
       have X := undrew S.ext
       exact wp_mv (ev_of ((S.old 9 (by kernel_rfl)).trans rfl)) (done (by kernel_rfl) rbu_refl rfl)
      ·refine rs_yes rfl rfl (by kernel_rfl) (by kernel_rfl : _ = some 52) (fun _ _ _ h => h) fun a wr S => ?_
       have X := undrew S.ext
       obtain ⟨v4, e4, h4⟩ := S.got 4 (by kernel_rfl)
       exact wp_mv ((ev_of (e4 53 (by kernel_rfl))).trans h4) (done (by kernel_rfl) rbu_refl rfl)
      ·exact rs_no rfl rfl (by kernel_rfl) (by kernel_rfl : _ = some 54) (fun _ _ _ h => h) (by kernel_rfl) rbu_refl (fun _ _ => rfl)
      ·exact rs_no rfl rfl (by kernel_rfl) (by kernel_rfl : _ = some 54) (fun _ _ _ h => h) (by kernel_rfl) rbu_refl (fun _ _ => rfl)
      ·exact rs_no rfl rfl (by kernel_rfl) (by kernel_rfl : _ = some 54) (fun _ _ _ h => h) (by kernel_rfl) rbu_refl (fun _ _ => rfl)
      ·exact rs_no rfl rfl (by kernel_rfl) (by kernel_rfl : _ = some 54) (fun _ _ _ h => h) (by kernel_rfl) rbu_refl (fun _ _ => rfl)
      ·refine rs_yes rfl rfl (by kernel_rfl) (by kernel_rfl : _ = some 52) (fun _ _ _ h => h) fun a wr S => ?_
       have X := undrew S.ext
       obtain ⟨v5, e5, h5⟩ := S.got 5 (by kernel_rfl)
       exact wp_pickF ((ev_of (e5 54 (by kernel_rfl))).trans h5) rfl (done (by kernel_rfl) rbu_refl rfl)
      ·refine rs_plain rfl rfl fun a wr S => ?_
       have X := undrew S.ext
       obtain ⟨v3, e3, h3⟩ := S.got 3 (by kernel_rfl)
       obtain ⟨v10, e10, h10⟩ := S.got 10 (by kernel_rfl)
       exact wp_pickF ((ev_of (e3 52 (by kernel_rfl))).trans h3) ((ev_of (e10 59 (by kernel_rfl))).trans h10) (done (by kernel_rfl) rbu_refl rfl)
      ·refine rs_plain rfl rfl fun a wr S => ?_
       have X := undrew S.ext
       obtain ⟨v11, e11, h11⟩ := S.got 11 (by kernel_rfl)
       exact wp_mv ((ev_of (e11 60 (by kernel_rfl))).trans h11) (done (by kernel_rfl) rbu_refl rfl)
      ·refine rs_yes rfl rfl (by kernel_rfl) (by kernel_rfl : _ = some 61) (fun _ _ _ h => h) fun a wr S => ?_
       have X := undrew S.ext
       exact wp_mv (ev_of ((S.old 9 (by kernel_rfl)).trans rfl)) (done (by kernel_rfl) rbu_refl rfl)
      ·refine rs_yes rfl rfl (by kernel_rfl) (by kernel_rfl : _ = some 61) (fun _ _ _ h => h) fun a wr S => ?_
       have X := undrew S.ext
       obtain ⟨v13, e13, h13⟩ := S.got 13 (by kernel_rfl)
       exact wp_not ((ev_of (e13 62 (by kernel_rfl))).trans h13) (done (by kernel_rfl) rbu_refl rfl)
      ·refine rs_yes rfl rfl (by kernel_rfl) (by kernel_rfl : _ = some 61) (fun _ _ _ h => h) fun a wr S => ?_
       have X := undrew S.ext
       obtain ⟨v14, e14, h14⟩ := S.got 14 (by kernel_rfl)
       exact wp_mv ((ev_of (e14 63 (by kernel_rfl))).trans h14) (done (by kernel_rfl) rbu_refl rfl)
      ·refine rs_yes rfl rfl (by kernel_rfl) (by kernel_rfl : _ = some 64) (fun _ _ _ h => h) fun a wr S => ?_
       have X := undrew S.ext
       exact wp_qload (ev_of ((S.old 8 (by kernel_rfl)).trans rfl)) (P8.below X) (done (by kernel_rfl) rbu_refl rfl)
      ·refine rs_yes rfl rfl (by kernel_rfl) (by kernel_rfl : _ = some 64) (fun _ _ _ h => h) fun a wr S => ?_
       have X := undrew S.ext
       exact wp_build0Q (done (by kernel_rfl) rbu_refl rfl)
      ·refine rs_yes rfl rfl (by kernel_rfl) (by kernel_rfl : _ = some 64) (fun _ _ _ h => h) fun a wr S => ?_
       have X := undrew S.ext
       obtain ⟨v17, e17, h17⟩ := S.got 17 (by kernel_rfl)
       exact st_call cf_ref03_Made (args1 ((ev_of (e17 66 (by kernel_rfl))).trans h17)) (by kernel_rfl) rb (cMade3 (show IsQm _ _ _ _ from ((isQm_nil w19).below X)) (by omega) (by omega)) (fun _ _ _ h => h)
      ·refine rs_yes rfl rfl (by kernel_rfl) (by kernel_rfl : _ = some 64) (fun _ _ _ h => h) fun a wr S => ?_
       have X := undrew S.ext
       obtain ⟨v16, e16, h16⟩ := S.got 16 (by kernel_rfl)
       obtain ⟨v18, e18, h18⟩ := S.got 18 (by kernel_rfl)
       exact st_call cf_law03_same (args2 ((ev_of (e16 65 (by kernel_rfl))).trans h16) (ev_of (e18 67 (by kernel_rfl)))) (by kernel_rfl) rb (cSame3 (show IsQt _ _ _ _ from (q8.below X)) (show IsQt _ _ _ _ from h18) (by omega) (by omega) (r := true) ⟨fun _ => rfl, fun _ => rfl⟩) (fun _ _ _ h => h)
      ·refine rs_yes rfl rfl (by kernel_rfl) (by kernel_rfl : _ = some 64) (fun _ _ _ h => h) fun a wr S => ?_
       have X := undrew S.ext
       obtain ⟨v19, e19, h19⟩ := S.got 19 (by kernel_rfl)
       exact wp_not ((ev_of (e19 68 (by kernel_rfl))).trans h19) (done (by kernel_rfl) rbu_refl rfl)
      ·refine rs_yes rfl rfl (by kernel_rfl) (by kernel_rfl : _ = some 61) (fun _ _ _ h => h) fun a wr S => ?_
       have X := undrew S.ext
       obtain ⟨v15, e15, h15⟩ := S.got 15 (by kernel_rfl)
       obtain ⟨v20, e20, h20⟩ := S.got 20 (by kernel_rfl)
       exact wp_pickT ((ev_of (e15 64 (by kernel_rfl))).trans h15) ((ev_of (e20 69 (by kernel_rfl))).trans h20) (done (by kernel_rfl) rbu_refl rfl)
      ·refine rs_plain rfl rfl fun a wr S => ?_
       have X := undrew S.ext
       obtain ⟨v12, e12, h12⟩ := S.got 12 (by kernel_rfl)
       obtain ⟨v21, e21, h21⟩ := S.got 21 (by kernel_rfl)
       exact wp_pickF ((ev_of (e12 61 (by kernel_rfl))).trans h12) ((ev_of (e21 70 (by kernel_rfl))).trans h21) (done (by kernel_rfl) rbu_refl rfl)
     ·intro fw20 w20 hR hv
      replace hR := undrew hR
      have f0 : fw20 0 = .bool false := (hvc (hv 0 (by omega))).elim fun _ h => h
      have f1 : fw20 1 = .bool false := (hvc (hv 1 (by omega))).elim fun _ h => h
      have f2 : fw20 2 = .bool false := (hvc (hv 2 (by omega))).elim fun _ h => h
      have f3 : fw20 3 = .bool false := (hvc (hv 3 (by omega))).elim fun _ h => h
      have f4 : fw20 4 = .bool false := (hvc (hv 4 (by omega))).elim fun _ h => h
      have f5 : fw20 5 = .bool false := (hvc (hv 5 (by omega))).elim fun _ h => h
      have f6 : fw20 6 = undef := (hvc (hv 6 (by omega))).elim fun _ h => h
      have f7 : fw20 7 = undef := (hvc (hv 7 (by omega))).elim fun _ h => h
      have f8 : fw20 8 = undef := (hvc (hv 8 (by omega))).elim fun _ h => h
      have f9 : fw20 9 = undef := (hvc (hv 9 (by omega))).elim fun _ h => h
      have f10 : fw20 10 = Value.bool false := (hvc (hv 10 (by omega))).elim fun _ h => h
      have f11 : fw20 11 = Value.bool false := (hvc (hv 11 (by omega))).elim fun _ h => h
      have f12 : fw20 12 = Value.bool false := (hvc (hv 12 (by omega))).elim fun _ h => h
      have f13 : fw20 13 = .bool false := (hvc (hv 13 (by omega))).elim fun _ h => h
      have f14 : fw20 14 = .bool true := (hvc (hv 14 (by omega))).elim fun _ h => h
      have f15 : fw20 15 = .bool true := (hvc (hv 15 (by omega))).elim fun _ h => h
      have f16 : fw20 16 = .agg #[.bool b8, .slice A8 n8 c8, .slice B8 m8 d8] := (hvc (hv 16 (by omega))).elim fun _ h => h
      have f17 : fw20 17 = .agg #[.bool false, .slice none 0 0, .slice none 0 0] := (hvc (hv 17 (by omega))).elim fun _ h => h
      have f19 : fw20 19 = .bool true := (hvc (hv 19 (by omega))).elim fun _ h => h
      have f20 : fw20 20 = .bool false := (hvc (hv 20 (by omega))).elim fun _ h => h
      have f21 : fw20 21 = .bool false := (hvc (hv 21 (by omega))).elim fun _ h => h
      have f22 : fw20 22 = .bool false := (hvc (hv 22 (by omega))).elim fun _ h => h
      simp only [putFn, Act.put, List.setIfInBounds_toArray, List.set_cons_zero, List.set_cons_succ, f0, f1, f2, f3, f4, f5, f6, f7, f8, f9, f10, f11, f12, f13, f14, f15, f16, f17, f19, f20, f21, f22]
      replace q8 := q8.below hR
      replace P8 := P8.below hR
      replace BB := bl_trans BB hR
      clear hR hv
      clear q8 P8
      go_wp2
      go_roundw
      case rel => exact ⟨k + 1, by omega, by go_num, BB⟩
      case measure => simp [intOf]; omega
   ·obtain rfl : k = 2 := by omega
    go_wp2_with fail
    refine (cWorks3 _).mono ?_
    rintro e w6 ⟨_, rfl, b6, rfl⟩
    have HB6 := Lib.hid (bl_trans HBK.out b6)
    clear b6
    go_wp2
    go_ret
    exact ⟨rfl, HB6.out⟩

set_option maxRecDepth 100000 in
set_option maxHeartbeats 4000000 in
theorem ratParses_just (s : ByteArray) (x y : Nat) (w : World) (hx : x < 256) (hy : y < 256) (hsz : s.size = 60) (hmx : s.size ≤ maxLen) :
  Calls Tryz.prog 5 #[.string s, .agg #[.int .u8 (x : Int), .int .u8 (y : Int)]] w fun e w' => e = .returned (.bool true) ∧ Below w.heap.size w w' := by
 have htz : (s.extract 0 60).size ≤ 60 := by rw [ByteArray.size_extract]; omega
 obtain ⟨n, hn⟩ : ∃ n, n = (s.extract 0 60).size := ⟨_, rfl⟩
 obtain ⟨w1, c, hconv, by1, bl1, hs1⟩ := conv_bytes (w.alloc (.cells #[.int .u8 (x : Int), .int .u8 (y : Int)] 49)) (s.extract 0 60)
 have hz1 : (w.alloc (.cells #[.int .u8 (x : Int), .int .u8 (y : Int)] 49)).heap.size = w.heap.size + 1 := by simp
 have hrow : w1.heap[w.heap.size]? = some (.cells #[.int .u8 (x : Int), .int .u8 (y : Int)] 49 (0, 0)) := by
  rw [bl1.block _ (by rw [hz1]; omega)]
  exact heap_alloc_new w _
 have cx : w1.cell? ⟨w.heap.size, 0, none⟩ = some (.int .u8 (x : Int)) := by
  rw [cell_of_row w1 w.heap.size 0 _ _ _ hrow]
  rfl
 have cy : w1.cell? ⟨w.heap.size, 1, none⟩ = some (.int .u8 (y : Int)) := by
  rw [cell_of_row w1 w.heap.size 1 _ _ _ hrow]
  rfl
 have hbb := bl_trans (bl_alloc w (.cells #[.int .u8 (x : Int), .int .u8 (y : Int)] 49)) bl1
 have hlen := M.bytes_len (s.extract 0 60)
 have HTZ := Lib.hid htz
 rw [← hn] at hconv htz hlen
 rw [hz1] at hconv by1
 unfold maxLen at hmx
 have HBY := Lib.hid by1
 have HBB := Lib.hid hbb
 have HL := Lib.hid hlen
 clear by1 bl1 hs1 hbb hz1 hrow hlen hn
 by_cases ht0 : n = 0
 ·subst ht0
  obtain ⟨u, hu, hback⟩ := HBY.out.back 0 c HL.out
  have HU := Lib.hid (show u.size ≤ 60 by omega)
  have HB2 := HBB
  clear hu cx cy
  go_enter Tryz.func5, Tryz.ntmps5
  go_wp2
  go_loopw [36] (fun p wr => ∃ k : Nat, k ≤ 2 ∧ p = .int .i64 (k : Int) ∧ Below w.heap.size w wr) (fun p _ => 2 - (intOf p).toNat)
  case atStart => exact ⟨0, by omega, rfl, HB2.out⟩
  case round =>
   obtain ⟨k, hk, rfl, hbk⟩ := hrel
   have HBK := Lib.hid hbk
   clear hbk
   by_cases hk2 : k < 2
   ·obtain ⟨u', hidx, hu'⟩ : ∃ u', (Instr.index 51 (.agg #[.string (s.extract 0 60), .string u]) (.int .i64 (k : Int))).run Tryz.prog wr = .ok (.string u') wr ∧ u'.size ≤ 60 := by
     rcases (show k = 0 ∨ k = 1 by omega) with rfl | rfl
     ·exact ⟨_, (index_a2 wr (s.extract 0 60) u).1, HTZ.out⟩
     ·exact ⟨_, (index_a2 wr (s.extract 0 60) u).2, HU.out⟩
    have HU' := Lib.hid hu'
    clear hu'
    have BB := HBK.out
    clear HBK
    by_cases hq : ∃ q, M.bytes u' = txtQ q
    ·obtain ⟨q, hq⟩ := hq
     have HQ := Lib.hid hq
     clear hq
     go_wp2_with fail
     refine (cQParseY HU'.out HQ.out _).mono ?_
     rintro e w21 ⟨_, rfl, hb, b8, A8, n8, c8, B8, m8, d8, rfl, q8⟩
     replace BB := bl_trans BB hb
     clear hb
     replace q8 := q8.t
     have OO := bl_alloc w21 (.cells #[.bool b8, .slice A8 n8 c8, .slice B8 m8 d8] 26)
     have P8 := Bq.new w21 b8 A8 n8 c8 B8 m8 d8
     replace q8 := q8.below OO
     replace BB := bl_trans BB OO
     clear OO
     go_upto_region 9 with (fail)
     generalize w21.alloc _ = w22 at q8 P8 BB ⊢
     go_wp2_with fail
     refine (cParse3Y HU'.out HQ.out).mono ?_
     rintro e w23 ⟨_, rfl, hb, b10, A10, n10, c10, B10, m10, d10, rfl, q10⟩
     replace q8 := q8.below hb
     replace P8 := P8.below hb
     replace BB := bl_trans BB hb
     clear hb
     have OO := bl_alloc w23 (.cells #[.bool b10, .slice A10 n10 c10, .slice B10 m10 d10] 26)
     have P10 := Bq.new w23 b10 A10 n10 c10 B10 m10 d10
     replace q8 := q8.below OO
     replace P8 := P8.below OO
     replace q10 := q10.below OO
     replace BB := bl_trans BB OO
     clear OO
     go_upto_region 10 with (fail)
     generalize w23.alloc _ = w24 at q8 P8 q10 P10 BB ⊢
     refine wp_region_list (Ext := RB) (Rel := RBu) [fun v _ _ => v = .bool true, fun v _ _ => v = .bool true, fun v _ _ => v = .bool false, fun v _ _ => v = .bool false, fun v _ _ => v = .bool true, fun v _ _ => v = .bool true, fun v _ _ => v = .agg #[.bool b8, .slice A8 n8 c8, .slice B8 m8 d8], fun v _ _ => v = .agg #[.bool b10, .slice A10 n10 c10, .slice B10 m10 d10], fun v _ _ => v = .bool true, fun v _ _ => v = .bool false, fun v _ _ => v = .bool false, fun v _ _ => v = .bool false, fun v _ _ => v = .bool false, fun v _ _ => v = .bool true, fun v _ _ => v = .bool false, fun v _ _ => v = .bool false, fun v _ _ => v = undef, fun v _ _ => v = undef, fun v _ _ => v = undef, fun v _ _ => v = undef, fun v _ _ => v = undef, fun v _ _ => v = Value.bool false, fun v _ _ => v = Value.bool false] (n := 23) (by kernel_rfl) rfl (by kernel_rfl) (by kernel_rfl) (by kernel_rfl) (by kernel_rfl) (by kernel_rfl) rb_refl rb_trans ⟨sC, ⟨sC, ⟨sC, ⟨sC, ⟨sC, ⟨sC, ⟨sC, ⟨sC, ⟨sC, ⟨sC, ⟨sC, ⟨sC, ⟨sC, ⟨sC, ⟨sC, ⟨sC, ⟨sC, ⟨sC, ⟨sC, ⟨sC, ⟨sC, ⟨sC, ⟨sC, trivial⟩⟩⟩⟩⟩⟩⟩⟩⟩⟩⟩⟩⟩⟩⟩⟩⟩⟩⟩⟩⟩⟩⟩ ?_ ?_
     ·refine ⟨⟨⟨⟨⟨⟨⟨⟨⟨⟨⟨⟨⟨⟨⟨⟨⟨⟨⟨⟨⟨⟨⟨trivial, ?_⟩, ?_⟩, ?_⟩, ?_⟩, ?_⟩, ?_⟩, ?_⟩, ?_⟩, ?_⟩, ?_⟩, ?_⟩, ?_⟩, ?_⟩, ?_⟩, ?_⟩, ?_⟩, ?_⟩, ?_⟩, ?_⟩, ?_⟩, ?_⟩, ?_⟩, ?_⟩
      ·refine rs_plain rfl rfl fun a wr S => ?_
       have X := undrew S.ext
       exact wp_mv (ev_of ((S.old 9 (by kernel_rfl)).trans rfl)) (done (by kernel_rfl) rbu_refl rfl)
      ·refine rs_plain rfl rfl fun a wr S => ?_
       have X := undrew S.ext
       exact wp_mv (ev_of ((S.old 11 (by kernel_rfl)).trans rfl)) (done (by kernel_rfl) rbu_refl rfl)
      ·refine rs_plain rfl rfl fun a wr S => ?_
       have X := undrew S.ext
       obtain ⟨v0, e0, h0⟩ := S.got 0 (by kernel_rfl)
       obtain ⟨v1, e1, h1⟩ := S.got 1 (by kernel_rfl)
       exact wp_neB ((ev_of (e0 49 (by kernel_rfl))).trans h0) ((ev_of (e1 50 (by kernel_rfl))).trans h1) (done (by kernel_rfl) rbu_refl (congrArg Value.bool (by decide)))
      ·refine rs_plain rfl rfl fun a wr S => ?_
       have X := undrew S.ext
       obtain ⟨v2, e2, h2⟩ := S.got 2 (by kernel_rfl)
       exact wp_mv ((ev_of (e2 51 (by kernel_rfl))).trans h2) (done (by kernel_rfl) rbu_refl rfl)
      ·refine rs_yes rfl rfl (by kernel_rfl) (by kernel_rfl : _ = some 52) (fun _ _ _ h => h) fun a wr S => ?_
       have X := undrew S.ext
       exact wp_mv (ev_of ((S.old 9 (by kernel_rfl)).trans rfl)) (done (by kernel_rfl) rbu_refl rfl)
      ·refine rs_yes rfl rfl (by kernel_rfl) (by kernel_rfl : _ = some 52) (fun _ _ _ h => h) fun a wr S => ?_
       have X := undrew S.ext
       obtain ⟨v4, e4, h4⟩ := S.got 4 (by kernel_rfl)
       exact wp_mv ((ev_of (e4 53 (by kernel_rfl))).trans h4) (done (by kernel_rfl) rbu_refl rfl)
      ·refine rs_yes rfl rfl (by kernel_rfl) (by kernel_rfl : _ = some 54) (fun _ _ _ h => h) fun a wr S => ?_
       have X := undrew S.ext
       exact wp_qload (ev_of ((S.old 8 (by kernel_rfl)).trans rfl)) (P8.below X) (done (by kernel_rfl) rbu_refl rfl)
      ·refine rs_yes rfl rfl (by kernel_rfl) (by kernel_rfl : _ = some 54) (fun _ _ _ h => h) fun a wr S => ?_
       have X := undrew S.ext
       exact wp_qload (ev_of ((S.old 10 (by kernel_rfl)).trans rfl)) (P10.below X) (done (by kernel_rfl) rbu_refl rfl)
      ·refine rs_yes rfl rfl (by kernel_rfl) (by kernel_rfl : _ = some 54) (fun _ _ _ h => h) fun a wr S => ?_
       have X := undrew S.ext
       obtain ⟨v6, e6, h6⟩ := S.got 6 (by kernel_rfl)
       obtain ⟨v7, e7, h7⟩ := S.got 7 (by kernel_rfl)
       exact st_call cf_law03_same (args2 ((ev_of (e6 55 (by kernel_rfl))).trans h6) ((ev_of (e7 56 (by kernel_rfl))).trans h7)) (by kernel_rfl) rb (cSame3 (show IsQt _ _ _ _ from (q8.below X)) (show IsQt _ _ _ _ from (q10.below X)) (by omega) (by omega) (r := true) ⟨fun _ => rfl, fun _ => rfl⟩) (fun _ _ _ h => h)
      ·refine rs_yes rfl rfl (by kernel_rfl) (by kernel_rfl : _ = some 54) (fun _ _ _ h => h) fun a wr S => ?_
       have X := undrew S.ext
       obtain ⟨v8, e8, h8⟩ := S.got 8 (by kernel_rfl)
       exact wp_not ((ev_of (e8 57 (by kernel_rfl))).trans h8) (done (by kernel_rfl) rbu_refl rfl)
      ·refine rs_yes rfl rfl (by kernel_rfl) (by kernel_rfl : _ = some 52) (fun _ _ _ h => h) fun a wr S => ?_
       have X := undrew S.ext
       obtain ⟨v5, e5, h5⟩ := S.got 5 (by kernel_rfl)
       obtain ⟨v9, e9, h9⟩ := S.got 9 (by kernel_rfl)
       exact wp_pickT ((ev_of (e5 54 (by kernel_rfl))).trans h5) ((ev_of (e9 58 (by kernel_rfl))).trans h9) (done (by kernel_rfl) rbu_refl rfl)
      ·refine rs_plain rfl rfl fun a wr S => ?_
       have X := undrew S.ext
       obtain ⟨v3, e3, h3⟩ := S.got 3 (by kernel_rfl)
       obtain ⟨v10, e10, h10⟩ := S.got 10 (by kernel_rfl)
       exact wp_pickF ((ev_of (e3 52 (by kernel_rfl))).trans h3) ((ev_of (e10 59 (by kernel_rfl))).trans h10) (done (by kernel_rfl) rbu_refl rfl)
      ·refine rs_plain rfl rfl fun a wr S => ?_
       have X := undrew S.ext
       obtain ⟨v11, e11, h11⟩ := S.got 11 (by kernel_rfl)
       exact wp_mv ((ev_of (e11 60 (by kernel_rfl))).trans h11) (done (by kernel_rfl) rbu_refl rfl)
      ·refine rs_yes rfl rfl (by kernel_rfl) (by kernel_rfl : _ = some 61) (fun _ _ _ h => h) fun a wr S => ?_
       have X := undrew S.ext
       exact wp_mv (ev_of ((S.old 9 (by kernel_rfl)).trans rfl)) (done (by kernel_rfl) rbu_refl rfl)
      ·refine rs_yes rfl rfl (by kernel_rfl) (by kernel_rfl : _ = some 61) (fun _ _ _ h => h) fun a wr S => ?_
       have X := undrew S.ext
       obtain ⟨v13, e13, h13⟩ := S.got 13 (by kernel_rfl)
       exact wp_not ((ev_of (e13 62 (by kernel_rfl))).trans h13) (done (by kernel_rfl) rbu_refl rfl)
      ·refine rs_yes rfl rfl (by kernel_rfl) (by kernel_rfl : _ = some 61) (fun _ _ _ h => h) fun a wr S => ?_
       have X := undrew S.ext
       obtain ⟨v14, e14, h14⟩ := S.got 14 (by kernel_rfl)
       exact wp_mv ((ev_of (e14 63 (by kernel_rfl))).trans h14) (done (by kernel_rfl) rbu_refl rfl)
      ·exact rs_no rfl rfl (by kernel_rfl) (by kernel_rfl : _ = some 64) (fun _ _ _ h => h) (by kernel_rfl) rbu_refl (fun _ _ => rfl)
      ·exact rs_no rfl rfl (by kernel_rfl) (by kernel_rfl : _ = some 64) (fun _ _ _ h => h) (by kernel_rfl) rbu_refl (fun _ _ => rfl)
      ·exact rs_no rfl rfl (by kernel_rfl) (by kernel_rfl : _ = some 64) (fun _ _ _ h => h) (by kernel_rfl) rbu_refl (fun _ _ => rfl)
      ·exact rs_no rfl rfl (by kernel_rfl) (by kernel_rfl : _ = some 64) (fun _ _ _ h => h) (by kernel_rfl) rbu_refl (fun _ _ => rfl)
      ·exact rs_no rfl rfl (by kernel_rfl) (by kernel_rfl : _ = some 64) (fun _ _ _ h => h) (by kernel_rfl) rbu_refl (fun _ _ => rfl)
      ·refine rs_yes rfl rfl (by kernel_rfl) (by kernel_rfl : _ = some 61) (fun _ _ _ h => h) fun a wr S => ?_
       have X := undrew S.ext
       obtain ⟨v15, e15, h15⟩ := S.got 15 (by kernel_rfl)
       exact wp_pickF ((ev_of (e15 64 (by kernel_rfl))).trans h15) rfl (done (by kernel_rfl) rbu_refl rfl)
      ·refine rs_plain rfl rfl fun a wr S => ?_
       have X := undrew S.ext
       obtain ⟨v12, e12, h12⟩ := S.got 12 (by kernel_rfl)
       obtain ⟨v21, e21, h21⟩ := S.got 21 (by kernel_rfl)
       exact wp_pickF ((ev_of (e12 61 (by kernel_rfl))).trans h12) ((ev_of (e21 70 (by kernel_rfl))).trans h21) (done (by kernel_rfl) rbu_refl rfl)
     ·intro fw25 w25 hR hv
      replace hR := undrew hR
      have f0 : fw25 0 = .bool true := (hvc (hv 0 (by omega))).elim fun _ h => h
      have f1 : fw25 1 = .bool true := (hvc (hv 1 (by omega))).elim fun _ h => h
      have f2 : fw25 2 = .bool false := (hvc (hv 2 (by omega))).elim fun _ h => h
      have f3 : fw25 3 = .bool false := (hvc (hv 3 (by omega))).elim fun _ h => h
      have f4 : fw25 4 = .bool true := (hvc (hv 4 (by omega))).elim fun _ h => h
      have f5 : fw25 5 = .bool true := (hvc (hv 5 (by omega))).elim fun _ h => h
      have f6 : fw25 6 = .agg #[.bool b8, .slice A8 n8 c8, .slice B8 m8 d8] := (hvc (hv 6 (by omega))).elim fun _ h => h
      have f7 : fw25 7 = .agg #[.bool b10, .slice A10 n10 c10, .slice B10 m10 d10] := (hvc (hv 7 (by omega))).elim fun _ h => h
      have f8 : fw25 8 = .bool true := (hvc (hv 8 (by omega))).elim fun _ h => h
      have f9 : fw25 9 = .bool false := (hvc (hv 9 (by omega))).elim fun _ h => h
      have f10 : fw25 10 = .bool false := (hvc (hv 10 (by omega))).elim fun _ h => h
      have f11 : fw25 11 = .bool false := (hvc (hv 11 (by omega))).elim fun _ h => h
      have f12 : fw25 12 = .bool false := (hvc (hv 12 (by omega))).elim fun _ h => h
      have f13 : fw25 13 = .bool true := (hvc (hv 13 (by omega))).elim fun _ h => h
      have f14 : fw25 14 = .bool false := (hvc (hv 14 (by omega))).elim fun _ h => h
      have f15 : fw25 15 = .bool false := (hvc (hv 15 (by omega))).elim fun _ h => h
      have f16 : fw25 16 = undef := (hvc (hv 16 (by omega))).elim fun _ h => h
      have f17 : fw25 17 = undef := (hvc (hv 17 (by omega))).elim fun _ h => h
      have f18 : fw25 18 = undef := (hvc (hv 18 (by omega))).elim fun _ h => h
      have f19 : fw25 19 = undef := (hvc (hv 19 (by omega))).elim fun _ h => h
      have f20 : fw25 20 = undef := (hvc (hv 20 (by omega))).elim fun _ h => h
      have f21 : fw25 21 = Value.bool false := (hvc (hv 21 (by omega))).elim fun _ h => h
      have f22 : fw25 22 = Value.bool false := (hvc (hv 22 (by omega))).elim fun _ h => h
      simp only [putFn, Act.put, List.setIfInBounds_toArray, List.set_cons_zero, List.set_cons_succ, f0, f1, f2, f3, f4, f5, f6, f7, f8, f9, f10, f11, f12, f13, f14, f15, f16, f17, f18, f19, f20, f21, f22]
      replace q8 := q8.below hR
      replace P8 := P8.below hR
      replace q10 := q10.below hR
      replace P10 := P10.below hR
      replace BB := bl_trans BB hR
      clear hR hv
      clear q8 P8 q10 P10
      go_wp2
      go_roundw
      case rel => exact ⟨k + 1, by omega, by go_num, BB⟩
      case measure => simp [intOf]; omega
    ·have hq : ∀ q, M.bytes u' ≠ txtQ q := fun q e => hq ⟨q, e⟩
     have HQ := Lib.hid hq
     clear hq
     go_wp2_with fail
     refine (cQParseN HU'.out HQ.out _).mono ?_
     rintro e w26 ⟨_, rfl, hb, b8, A8, n8, c8, B8, m8, d8, rfl, q8⟩
     replace BB := bl_trans BB hb
     clear hb
     replace q8 := q8.t
     have OO := bl_alloc w26 (.cells #[.bool b8, .slice A8 n8 c8, .slice B8 m8 d8] 26)
     have P8 := Bq.new w26 b8 A8 n8 c8 B8 m8 d8
     replace q8 := q8.below OO
     replace BB := bl_trans BB OO
     clear OO
     go_upto_region 9 with (fail)
     generalize w26.alloc _ = w27 at q8 P8 BB ⊢
     go_wp2_with fail
     refine (cParse3N HU'.out HQ.out).mono ?_
     rintro e w28 ⟨_, rfl, hb, rfl⟩
     replace q8 := q8.below hb
     replace P8 := P8.below hb
     replace BB := bl_trans BB hb
     clear hb
     have OO := bl_alloc w28 (.cells #[.bool false, .slice none 0 0, .slice none 0 0] 26)
     replace q8 := q8.below OO
     replace P8 := P8.below OO
     replace BB := bl_trans BB OO
     clear OO
     go_upto_region 10 with (fail)
     generalize w28.alloc _ = w29 at q8 P8 BB ⊢
     refine wp_region_list (Ext := RB) (Rel := RBu) [fun v _ _ => v = .bool false, fun v _ _ => v = .bool false, fun v _ _ => v = .bool false, fun v _ _ => v = .bool false, fun v _ _ => v = .bool false, fun v _ _ => v = .bool false, fun v _ _ => v = undef, fun v _ _ => v = undef, fun v _ _ => v = undef, fun v _ _ => v = undef, fun v _ _ => v = Value.bool false, fun v _ _ => v = Value.bool false, fun v _ _ => v = Value.bool false, fun v _ _ => v = .bool false, fun v _ _ => v = .bool true, fun v _ _ => v = .bool true, fun v _ _ => v = .agg #[.bool b8, .slice A8 n8 c8, .slice B8 m8 d8], fun v _ _ => v = .agg #[.bool false, .slice none 0 0, .slice none 0 0], fun v _ w => IsQt w v (0) 1, fun v _ _ => v = .bool true, fun v _ _ => v = .bool false, fun v _ _ => v = .bool false, fun v _ _ => v = .bool false] (n := 23) (by kernel_rfl) rfl (by kernel_rfl) (by kernel_rfl) (by kernel_rfl) (by kernel_rfl) (by kernel_rfl) rb_refl rb_trans ⟨sC, ⟨sC, ⟨sC, ⟨sC, ⟨sC, ⟨sC, ⟨sC, ⟨sC, ⟨sC, ⟨sC, ⟨sC, ⟨sC, ⟨sC, ⟨sC, ⟨sC, ⟨sC, ⟨sC, ⟨sC, ⟨sQt, ⟨sC, ⟨sC, ⟨sC, ⟨sC, trivial⟩⟩⟩⟩⟩⟩⟩⟩⟩⟩⟩⟩⟩⟩⟩⟩⟩⟩⟩⟩⟩⟩⟩ ?_ ?_
     ·refine ⟨⟨⟨⟨⟨⟨⟨⟨⟨⟨⟨⟨⟨⟨⟨⟨⟨⟨⟨⟨⟨⟨⟨trivial, ?_⟩, ?_⟩, ?_⟩, ?_⟩, ?_⟩, ?_⟩, ?_⟩, ?_⟩, ?_⟩, ?_⟩, ?_⟩, ?_⟩, ?_⟩, ?_⟩, ?_⟩, ?_⟩, ?_⟩, ?_⟩, ?_⟩, ?_⟩, ?_⟩, ?_⟩, ?_⟩
      ·refine rs_plain rfl rfl fun a wr S => ?_
       have X := undrew S.ext
       exact wp_mv (ev_of ((S.old 9 (by kernel_rfl)).trans rfl)) (done (by kernel_rfl) rbu_refl rfl)
      ·refine rs_plain rfl rfl fun a wr S => ?_
       have X := undrew S.ext
       exact wp_mv (ev_of ((S.old 11 (by kernel_rfl)).trans rfl)) (done (by kernel_rfl) rbu_refl rfl)
      ·refine rs_plain rfl rfl fun a wr S => ?_
       have X := undrew S.ext
       obtain ⟨v0, e0, h0⟩ := S.got 0 (by kernel_rfl)
       obtain ⟨v1, e1, h1⟩ := S.got 1 (by kernel_rfl)
       exact wp_neB ((ev_of (e0 49 (by kernel_rfl))).trans h0) ((ev_of (e1 50 (by kernel_rfl))).trans h1) (done (by kernel_rfl) rbu_refl (congrArg Value.bool (by decide)))
      ·refine rs_plain rfl rfl fun a wr S => ?_
       have X := undrew S.ext
       obtain ⟨v2, e2, h2⟩ := S.got 2 (by kernel_rfl)
       exact wp_mv ((ev_of (e2 51 (by kernel_rfl))).trans h2) (done (by kernel_rfl) rbu_refl rfl)
      ·refine rs_yes rfl rfl (by kernel_rfl) (by kernel_rfl : _ = some 52) (fun _ _ _ h => h) fun a wr S => ?_
       have X := undrew S.ext
       exact wp_mv (ev_of ((S.old 9 (by kernel_rfl)).trans rfl)) (done (by kernel_rfl) rbu_refl rfl)
      ·refine rs_yes rfl rfl (by kernel_rfl) (by kernel_rfl : _ = some 52) (fun _ _ _ h => h) fun a wr S => ?_
       have X := undrew S.ext
       obtain ⟨v4, e4, h4⟩ := S.got 4 (by kernel_rfl)
       exact wp_mv ((ev_of (e4 53 (by kernel_rfl))).trans h4) (done (by kernel_rfl) rbu_refl rfl)
      ·exact rs_no rfl rfl (by kernel_rfl) (by kernel_rfl : _ = some 54) (fun _ _ _ h => h) (by kernel_rfl) rbu_refl (fun _ _ => rfl)
      ·exact rs_no rfl rfl (by kernel_rfl) (by kernel_rfl : _ = some 54) (fun _ _ _ h => h) (by kernel_rfl) rbu_refl (fun _ _ => rfl)
      ·exact rs_no rfl rfl (by kernel_rfl) (by kernel_rfl : _ = some 54) (fun _ _ _ h => h) (by kernel_rfl) rbu_refl (fun _ _ => rfl)
      ·exact rs_no rfl rfl (by kernel_rfl) (by kernel_rfl : _ = some 54) (fun _ _ _ h => h) (by kernel_rfl) rbu_refl (fun _ _ => rfl)
      ·refine rs_yes rfl rfl (by kernel_rfl) (by kernel_rfl : _ = some 52) (fun _ _ _ h => h) fun a wr S => ?_
       have X := undrew S.ext
       obtain ⟨v5, e5, h5⟩ := S.got 5 (by kernel_rfl)
       exact wp_pickF ((ev_of (e5 54 (by kernel_rfl))).trans h5) rfl (done (by kernel_rfl) rbu_refl rfl)
      ·refine rs_plain rfl rfl fun a wr S => ?_
       have X := undrew S.ext
       obtain ⟨v3, e3, h3⟩ := S.got 3 (by kernel_rfl)
       obtain ⟨v10, e10, h10⟩ := S.got 10 (by kernel_rfl)
       exact wp_pickF ((ev_of (e3 52 (by kernel_rfl))).trans h3) ((ev_of (e10 59 (by kernel_rfl))).trans h10) (done (by kernel_rfl) rbu_refl rfl)
      ·refine rs_plain rfl rfl fun a wr S => ?_
       have X := undrew S.ext
       obtain ⟨v11, e11, h11⟩ := S.got 11 (by kernel_rfl)
       exact wp_mv ((ev_of (e11 60 (by kernel_rfl))).trans h11) (done (by kernel_rfl) rbu_refl rfl)
      ·refine rs_yes rfl rfl (by kernel_rfl) (by kernel_rfl : _ = some 61) (fun _ _ _ h => h) fun a wr S => ?_
       have X := undrew S.ext
       exact wp_mv (ev_of ((S.old 9 (by kernel_rfl)).trans rfl)) (done (by kernel_rfl) rbu_refl rfl)
      ·refine rs_yes rfl rfl (by kernel_rfl) (by kernel_rfl : _ = some 61) (fun _ _ _ h => h) fun a wr S => ?_
       have X := undrew S.ext
       obtain ⟨v13, e13, h13⟩ := S.got 13 (by kernel_rfl)
       exact wp_not ((ev_of (e13 62 (by kernel_rfl))).trans h13) (done (by kernel_rfl) rbu_refl rfl)
      ·refine rs_yes rfl rfl (by kernel_rfl) (by kernel_rfl : _ = some 61) (fun _ _ _ h => h) fun a wr S => ?_
       have X := undrew S.ext
       obtain ⟨v14, e14, h14⟩ := S.got 14 (by kernel_rfl)
       exact wp_mv ((ev_of (e14 63 (by kernel_rfl))).trans h14) (done (by kernel_rfl) rbu_refl rfl)
      ·refine rs_yes rfl rfl (by kernel_rfl) (by kernel_rfl : _ = some 64) (fun _ _ _ h => h) fun a wr S => ?_
       have X := undrew S.ext
       exact wp_qload (ev_of ((S.old 8 (by kernel_rfl)).trans rfl)) (P8.below X) (done (by kernel_rfl) rbu_refl rfl)
      ·refine rs_yes rfl rfl (by kernel_rfl) (by kernel_rfl : _ = some 64) (fun _ _ _ h => h) fun a wr S => ?_
       have X := undrew S.ext
       exact wp_build0Q (done (by kernel_rfl) rbu_refl rfl)
      ·refine rs_yes rfl rfl (by kernel_rfl) (by kernel_rfl : _ = some 64) (fun _ _ _ h => h) fun a wr S => ?_
       have X := undrew S.ext
       obtain ⟨v17, e17, h17⟩ := S.got 17 (by kernel_rfl)
       exact st_call cf_ref03_Made (args1 ((ev_of (e17 66 (by kernel_rfl))).trans h17)) (by kernel_rfl) rb (cMade3 (show IsQm _ _ _ _ from ((isQm_nil w29).below X)) (by omega) (by omega)) (fun _ _ _ h => h)
      ·refine rs_yes rfl rfl (by kernel_rfl) (by kernel_rfl : _ = some 64) (fun _ _ _ h => h) fun a wr S => ?_
       have X := undrew S.ext
       obtain ⟨v16, e16, h16⟩ := S.got 16 (by kernel_rfl)
       obtain ⟨v18, e18, h18⟩ := S.got 18 (by kernel_rfl)
       exact st_call cf_law03_same (args2 ((ev_of (e16 65 (by kernel_rfl))).trans h16) (ev_of (e18 67 (by kernel_rfl)))) (by kernel_rfl) rb (cSame3 (show IsQt _ _ _ _ from (q8.below X)) (show IsQt _ _ _ _ from h18) (by omega) (by omega) (r := true) ⟨fun _ => rfl, fun _ => rfl⟩) (fun _ _ _ h => h)
      ·refine rs_yes rfl rfl (by kernel_rfl) (by kernel_rfl : _ = some 64) (fun _ _ _ h => h) fun a wr S => ?_
       have X := undrew S.ext
       obtain ⟨v19, e19, h19⟩ := S.got 19 (by kernel_rfl)
       exact wp_not ((ev_of (e19 68 (by kernel_rfl))).trans h19) (done (by kernel_rfl) rbu_refl rfl)
      ·refine rs_yes rfl rfl (by kernel_rfl) (by kernel_rfl : _ = some 61) (fun _ _ _ h => h) fun a wr S => ?_
       have X := undrew S.ext
       obtain ⟨v15, e15, h15⟩ := S.got 15 (by kernel_rfl)
       obtain ⟨v20, e20, h20⟩ := S.got 20 (by kernel_rfl)
       exact wp_pickT ((ev_of (e15 64 (by kernel_rfl))).trans h15) ((ev_of (e20 69 (by kernel_rfl))).trans h20) (done (by kernel_rfl) rbu_refl rfl)
      ·refine rs_plain rfl rfl fun a wr S => ?_
       have X := undrew S.ext
       obtain ⟨v12, e12, h12⟩ := S.got 12 (by kernel_rfl)
       obtain ⟨v21, e21, h21⟩ := S.got 21 (by kernel_rfl)
       exact wp_pickF ((ev_of (e12 61 (by kernel_rfl))).trans h12) ((ev_of (e21 70 (by kernel_rfl))).trans h21) (done (by kernel_rfl) rbu_refl rfl)
     ·intro fw30 w30 hR hv
      replace hR := undrew hR
      have f0 : fw30 0 = .bool false := (hvc (hv 0 (by omega))).elim fun _ h => h
      have f1 : fw30 1 = .bool false := (hvc (hv 1 (by omega))).elim fun _ h => h
      have f2 : fw30 2 = .bool false := (hvc (hv 2 (by omega))).elim fun _ h => h
      have f3 : fw30 3 = .bool false := (hvc (hv 3 (by omega))).elim fun _ h => h
      have f4 : fw30 4 = .bool false := (hvc (hv 4 (by omega))).elim fun _ h => h
      have f5 : fw30 5 = .bool false := (hvc (hv 5 (by omega))).elim fun _ h => h
      have f6 : fw30 6 = undef := (hvc (hv 6 (by omega))).elim fun _ h => h
      have f7 : fw30 7 = undef := (hvc (hv 7 (by omega))).elim fun _ h => h
      have f8 : fw30 8 = undef := (hvc (hv 8 (by omega))).elim fun _ h => h
      have f9 : fw30 9 = undef := (hvc (hv 9 (by omega))).elim fun _ h => h
      have f10 : fw30 10 = Value.bool false := (hvc (hv 10 (by omega))).elim fun _ h => h
      have f11 : fw30 11 = Value.bool false := (hvc (hv 11 (by omega))).elim fun _ h => h
      have f12 : fw30 12 = Value.bool false := (hvc (hv 12 (by omega))).elim fun _ h => h
      have f13 : fw30 13 = .bool false := (hvc (hv 13 (by omega))).elim fun _ h => h
      have f14 : fw30 14 = .bool true := (hvc (hv 14 (by omega))).elim fun _ h => h
      have f15 : fw30 15 = .bool true := (hvc (hv 15 (by omega))).elim fun _ h => h
      have f16 : fw30 16 = .agg #[.bool b8, .slice A8 n8 c8, .slice B8 m8 d8] := (hvc (hv 16 (by omega))).elim fun _ h => h
      have f17 : fw30 17 = .agg #[.bool false, .slice none 0 0, .slice none 0 0] := (hvc (hv 17 (by omega))).elim fun _ h => h
      have f19 : fw30 19 = .bool true := (hvc (hv 19 (by omega))).elim fun _ h => h
      have f20 : fw30 20 = .bool false := (hvc (hv 20 (by omega))).elim fun _ h => h
      have f21 : fw30 21 = .bool false := (hvc (hv 21 (by omega))).elim fun _ h => h
      have f22 : fw30 22 = .bool false := (hvc (hv 22 (by omega))).elim fun _ h => h
      simp only [putFn, Act.put, List.setIfInBounds_toArray, List.set_cons_zero, List.set_cons_succ, f0, f1, f2, f3, f4, f5, f6, f7, f8, f9, f10, f11, f12, f13, f14, f15, f16, f17, f19, f20, f21, f22]
      replace q8 := q8.below hR
      replace P8 := P8.below hR
      replace BB := bl_trans BB hR
      clear hR hv
      clear q8 P8
      go_wp2
      go_roundw
      case rel => exact ⟨k + 1, by omega, by go_num, BB⟩
      case measure => simp [intOf]; omega
   ·obtain rfl : k = 2 := by omega
    go_wp2_with fail
    refine (cWorks3 _).mono ?_
    rintro e w6 ⟨_, rfl, b6, rfl⟩
    have HB6 := Lib.hid (bl_trans HBK.out b6)
    clear b6
    go_wp2
    go_ret
    exact ⟨rfl, HB6.out⟩
 ·have htp : 0 < n := by omega
  obtain ⟨k, hk⟩ : ∃ k, k = x % n := ⟨_, rfl⟩
  have hkn : k < n := by rw [hk]; exact Nat.mod_lt _ htp
  have hki : (x : Int).tmod (n : Int) = k := by rw [hk]; exact tmod_nat x n
  have hkm : (x : Int) % (n : Int) = k := by rw [hk]; exact (Int.natCast_emod x n).symm
  obtain ⟨z, hz⟩ : ∃ z, (M.bytes (s.extract 0 60))[k]? = some z := ⟨_, List.getElem?_eq_getElem (by rw [HL.out]; exact hkn)⟩
  have ck := HBY.out.cell hz
  have fk := HBY.out.fr (i := k) (by rw [HL.out]; exact hkn)
  obtain ⟨u, hu, hback⟩ := (HBY.out.set k y).drew.back n c (by rw [List.length_set]; exact HL.out)
  have HU := Lib.hid (show u.size ≤ 60 by omega)
  have HB2 := Lib.hid ((HBB.out.setCell (p := ⟨w.heap.size + 1, k, none⟩) (by simp) (.int .u8 (y : Int))).drew)
  clear hz hu hk
  go_enter Tryz.func5, Tryz.ntmps5
  go_wp2
  go_region
  go_wp2
  go_loopw [36] (fun p wr => ∃ k : Nat, k ≤ 2 ∧ p = .int .i64 (k : Int) ∧ Below w.heap.size w wr) (fun p _ => 2 - (intOf p).toNat)
  case atStart => exact ⟨0, by omega, rfl, HB2.out⟩
  case round =>
   obtain ⟨k, hk, rfl, hbk⟩ := hrel
   have HBK := Lib.hid hbk
   clear hbk
   by_cases hk2 : k < 2
   ·obtain ⟨u', hidx, hu'⟩ : ∃ u', (Instr.index 51 (.agg #[.string (s.extract 0 60), .string u]) (.int .i64 (k : Int))).run Tryz.prog wr = .ok (.string u') wr ∧ u'.size ≤ 60 := by
     rcases (show k = 0 ∨ k = 1 by omega) with rfl | rfl
     ·exact ⟨_, (index_a2 wr (s.extract 0 60) u).1, HTZ.out⟩
     ·exact ⟨_, (index_a2 wr (s.extract 0 60) u).2, HU.out⟩
    have HU' := Lib.hid hu'
    clear hu'
    have BB := HBK.out
    clear HBK
    by_cases hq : ∃ q, M.bytes u' = txtQ q
    ·obtain ⟨q, hq⟩ := hq
     have HQ := Lib.hid hq
     clear hq
     go_wp2_with fail
     refine (cQParseY HU'.out HQ.out _).mono ?_
     rintro e w21 ⟨_, rfl, hb, b8, A8, n8, c8, B8, m8, d8, rfl, q8⟩
     replace BB := bl_trans BB hb
     clear hb
     replace q8 := q8.t
     have OO := bl_alloc w21 (.cells #[.bool b8, .slice A8 n8 c8, .slice B8 m8 d8] 26)
     have P8 := Bq.new w21 b8 A8 n8 c8 B8 m8 d8
     replace q8 := q8.below OO
     replace BB := bl_trans BB OO
     clear OO
     go_upto_region 9 with (fail)
     generalize w21.alloc _ = w22 at q8 P8 BB ⊢
     go_wp2_with fail
     refine (cParse3Y HU'.out HQ.out).mono ?_
     rintro e w23 ⟨_, rfl, hb, b10, A10, n10, c10, B10, m10, d10, rfl, q10⟩
     replace q8 := q8.below hb
     replace P8 := P8.below hb
     replace BB := bl_trans BB hb
     clear hb
     have OO := bl_alloc w23 (.cells #[.bool b10, .slice A10 n10 c10, .slice B10 m10 d10] 26)
     have P10 := Bq.new w23 b10 A10 n10 c10 B10 m10 d10
     replace q8 := q8.below OO
     replace P8 := P8.below OO
     replace q10 := q10.below OO
     replace BB := bl_trans BB OO
     clear OO
     go_upto_region 10 with (fail)
     generalize w23.alloc _ = w24 at q8 P8 q10 P10 BB ⊢
     refine wp_region_list (Ext := RB) (Rel := RBu) [fun v _ _ => v = .bool true, fun v _ _ => v = .bool true, fun v _ _ => v = .bool false, fun v _ _ => v = .bool false, fun v _ _ => v = .bool true, fun v _ _ => v = .bool true, fun v _ _ => v = .agg #[.bool b8, .slice A8 n8 c8, .slice B8 m8 d8], fun v _ _ => v = .agg #[.bool b10, .slice A10 n10 c10, .slice B10 m10 d10], fun v _ _ => v = .bool true, fun v _ _ => v = .bool false, fun v _ _ => v = .bool false, fun v _ _ => v = .bool false, fun v _ _ => v = .bool false, fun v _ _ => v = .bool true, fun v _ _ => v = .bool false, fun v _ _ => v = .bool false, fun v _ _ => v = undef, fun v _ _ => v = undef, fun v _ _ => v = undef, fun v _ _ => v = undef, fun v _ _ => v = undef, fun v _ _ => v = Value.bool false, fun v _ _ => v = Value.bool false] (n := 23) (by kernel_rfl) rfl (by kernel_rfl) (by kernel_rfl) (by kernel_rfl) (by kernel_rfl) (by kernel_rfl) rb_refl rb_trans ⟨sC, ⟨sC, ⟨sC, ⟨sC, ⟨sC, ⟨sC, ⟨sC, ⟨sC, ⟨sC, ⟨sC, ⟨sC, ⟨sC, ⟨sC, ⟨sC, ⟨sC, ⟨sC, ⟨sC, ⟨sC, ⟨sC, ⟨sC, ⟨sC, ⟨sC, ⟨sC, trivial⟩⟩⟩⟩⟩⟩⟩⟩⟩⟩⟩⟩⟩⟩⟩⟩⟩⟩⟩⟩⟩⟩⟩ ?_ ?_
     ·refine ⟨⟨⟨⟨⟨⟨⟨⟨⟨⟨⟨⟨⟨⟨⟨⟨⟨⟨⟨⟨⟨⟨⟨trivial, ?_⟩, ?_⟩, ?_⟩, ?_⟩, ?_⟩, ?_⟩, ?_⟩, ?_⟩, ?_⟩, ?_⟩, ?_⟩, ?_⟩, ?_⟩, ?_⟩, ?_⟩, ?_⟩, ?_⟩, ?_⟩, ?_⟩, ?_⟩, ?_⟩, ?_⟩, ?_⟩
      ·refine rs_plain rfl rfl fun a wr S => ?_
       have X := undrew S.ext
       exact wp_mv (ev_of ((S.old 9 (by kernel_rfl)).trans rfl)) (done (by kernel_rfl) rbu_refl rfl)
      ·refine rs_plain rfl rfl fun a wr S => ?_
       have X := undrew S.ext
       exact wp_mv (ev_of ((S.old 11 (by kernel_rfl)).trans rfl)) (done (by kernel_rfl) rbu_refl rfl)
      ·refine rs_plain rfl rfl fun a wr S => ?_
       have X := undrew S.ext
       obtain ⟨v0, e0, h0⟩ := S.got 0 (by kernel_rfl)
       obtain ⟨v1, e1, h1⟩ := S.got 1 (by kernel_rfl)
       exact wp_neB ((ev_of (e0 49 (by kernel_rfl))).trans h0) ((ev_of (e1 50 (by kernel_rfl))).trans h1) (done (by kernel_rfl) rbu_refl (congrArg Value.bool (by decide)))
      ·refine rs_plain rfl rfl fun a wr S => ?_
       have X := undrew S.ext
       obtain ⟨v2, e2, h2⟩ := S.got 2 (by kernel_rfl)
       exact wp_mv ((ev_of (e2 51 (by kernel_rfl))).trans h2) (done (by kernel_rfl) rbu_refl rfl)
      ·refine rs_yes rfl rfl (by kernel_rfl) (by kernel_rfl : _ = some 52) (fun _ _ _ h => h) fun a wr S => ?_
       have X := undrew S.ext
       exact wp_mv (ev_of ((S.old 9 (by kernel_rfl)).trans rfl)) (done (by kernel_rfl) rbu_refl rfl)
      ·refine rs_yes rfl rfl (by kernel_rfl) (by kernel_rfl : _ = some 52) (fun _ _ _ h => h) fun a wr S => ?_
       have X := undrew S.ext
       obtain ⟨v4, e4, h4⟩ := S.got 4 (by kernel_rfl)
       exact wp_mv ((ev_of (e4 53 (by kernel_rfl))).trans h4) (done (by kernel_rfl) rbu_refl rfl)
      ·refine rs_yes rfl rfl (by kernel_rfl) (by kernel_rfl : _ = some 54) (fun _ _ _ h => h) fun a wr S => ?_
       have X := undrew S.ext
       exact wp_qload (ev_of ((S.old 8 (by kernel_rfl)).trans rfl)) (P8.below X) (done (by kernel_rfl) rbu_refl rfl)
      ·refine rs_yes rfl rfl (by kernel_rfl) (by kernel_rfl : _ = some 54) (fun _ _ _ h => h) fun a wr S => ?_
       have X := undrew S.ext
       exact wp_qload (ev_of ((S.old 10 (by kernel_rfl)).trans rfl)) (P10.below X) (done (by kernel_rfl) rbu_refl rfl)
      ·refine rs_yes rfl rfl (by kernel_rfl) (by kernel_rfl : _ = some 54) (fun _ _ _ h => h) fun a wr S => ?_
       have X := undrew S.ext
       obtain ⟨v6, e6, h6⟩ := S.got 6 (by kernel_rfl)
       obtain ⟨v7, e7, h7⟩ := S.got 7 (by kernel_rfl)
       exact st_call cf_law03_same (args2 ((ev_of (e6 55 (by kernel_rfl))).trans h6) ((ev_of (e7 56 (by kernel_rfl))).trans h7)) (by kernel_rfl) rb (cSame3 (show IsQt _ _ _ _ from (q8.below X)) (show IsQt _ _ _ _ from (q10.below X)) (by omega) (by omega) (r := true) ⟨fun _ => rfl, fun _ => rfl⟩) (fun _ _ _ h => h)
      ·refine rs_yes rfl rfl (by kernel_rfl) (by kernel_rfl : _ = some 54) (fun _ _ _ h => h) fun a wr S => ?_
       have X := undrew S.ext
       obtain ⟨v8, e8, h8⟩ := S.got 8 (by kernel_rfl)
       exact wp_not ((ev_of (e8 57 (by kernel_rfl))).trans h8) (done (by kernel_rfl) rbu_refl rfl)
      ·refine rs_yes rfl rfl (by kernel_rfl) (by kernel_rfl : _ = some 52) (fun _ _ _ h => h) fun a wr S => ?_
       have X := undrew S.ext
       obtain ⟨v5, e5, h5⟩ := S.got 5 (by kernel_rfl)
       obtain ⟨v9, e9, h9⟩ := S.got 9 (by kernel_rfl)
       exact wp_pickT ((ev_of (e5 54 (by kernel_rfl))).trans h5) ((ev_of (e9 58 (by kernel_rfl))).trans h9) (done (by kernel_rfl) rbu_refl rfl)
      ·refine rs_plain rfl rfl fun a wr S => ?_
       have X := undrew S.ext
       obtain ⟨v3, e3, h3⟩ := S.got 3 (by kernel_rfl)
       obtain ⟨v10, e10, h10⟩ := S.got 10 (by kernel_rfl)
       exact wp_pickF ((ev_of (e3 52 (by kernel_rfl))).trans h3) ((ev_of (e10 59 (by kernel_rfl))).trans h10) (done (by kernel_rfl) rbu_refl rfl)
      ·refine rs_plain rfl rfl fun a wr S => ?_
       have X := undrew S.ext
       obtain ⟨v11, e11, h11⟩ := S.got 11 (by kernel_rfl)
       exact wp_mv ((ev_of (e11 60 (by kernel_rfl))).trans h11) (done (by kernel_rfl) rbu_refl rfl)
      ·refine rs_yes rfl rfl (by kernel_rfl) (by kernel_rfl : _ = some 61) (fun _ _ _ h => h) fun a wr S => ?_
       have X := undrew S.ext
       exact wp_mv (ev_of ((S.old 9 (by kernel_rfl)).trans rfl)) (done (by kernel_rfl) rbu_refl rfl)
      ·refine rs_yes rfl rfl (by kernel_rfl) (by kernel_rfl : _ = some 61) (fun _ _ _ h => h) fun a wr S => ?_
       have X := undrew S.ext
       obtain ⟨v13, e13, h13⟩ := S.got 13 (by kernel_rfl)
       exact wp_not ((ev_of (e13 62 (by kernel_rfl))).trans h13) (done (by kernel_rfl) rbu_refl rfl)
      ·refine rs_yes rfl rfl (by kernel_rfl) (by kernel_rfl : _ = some 61) (fun _ _ _ h => h) fun a wr S => ?_
       have X := undrew S.ext
       obtain ⟨v14, e14, h14⟩ := S.got 14 (by kernel_rfl)
       exact wp_mv ((ev_of (e14 63 (by kernel_rfl))).trans h14) (done (by kernel_rfl) rbu_refl rfl)
      ·exact rs_no rfl rfl (by kernel_rfl) (by kernel_rfl : _ = some 64) (fun _ _ _ h => h) (by kernel_rfl) rbu_refl (fun _ _ => rfl)
      ·exact rs_no rfl rfl (by kernel_rfl) (by kernel_rfl : _ = some 64) (fun _ _ _ h => h) (by kernel_rfl) rbu_refl (fun _ _ => rfl)
      ·exact rs_no rfl rfl (by kernel_rfl) (by kernel_rfl : _ = some 64) (fun _ _ _ h => h) (by kernel_rfl) rbu_refl (fun _ _ => rfl)
      ·exact rs_no rfl rfl (by kernel_rfl) (by kernel_rfl : _ = some 64) (fun _ _ _ h => h) (by kernel_rfl) rbu_refl (fun _ _ => rfl)
      ·exact rs_no rfl rfl (by kernel_rfl) (by kernel_rfl : _ = some 64) (fun _ _ _ h => h) (by kernel_rfl) rbu_refl (fun _ _ => rfl)
      ·refine rs_yes rfl rfl (by kernel_rfl) (by kernel_rfl : _ = some 61) (fun _ _ _ h => h) fun a wr S => ?_
       have X := undrew S.ext
       obtain ⟨v15, e15, h15⟩ := S.got 15 (by kernel_rfl)
       exact wp_pickF ((ev_of (e15 64 (by kernel_rfl))).trans h15) rfl (done (by kernel_rfl) rbu_refl rfl)
      ·refine rs_plain rfl rfl fun a wr S => ?_
       have X := undrew S.ext
       obtain ⟨v12, e12, h12⟩ := S.got 12 (by kernel_rfl)
       obtain ⟨v21, e21, h21⟩ := S.got 21 (by kernel_rfl)
       exact wp_pickF ((ev_of (e12 61 (by kernel_rfl))).trans h12) ((ev_of (e21 70 (by kernel_rfl))).trans h21) (done (by kernel_rfl) rbu_refl rfl)
     ·intro fw25 w25 hR hv
      replace hR := undrew hR
      have f0 : fw25 0 = .bool true := (hvc (hv 0 (by omega))).elim fun _ h => h
      have f1 : fw25 1 = .bool true := (hvc (hv 1 (by omega))).elim fun _ h => h
      have f2 : fw25 2 = .bool false := (hvc (hv 2 (by omega))).elim fun _ h => h
      have f3 : fw25 3 = .bool false := (hvc (hv 3 (by omega))).elim fun _ h => h
      have f4 : fw25 4 = .bool true := (hvc (hv 4 (by omega))).elim fun _ h => h
      have f5 : fw25 5 = .bool true := (hvc (hv 5 (by omega))).elim fun _ h => h
      have f6 : fw25 6 = .agg #[.bool b8, .slice A8 n8 c8, .slice B8 m8 d8] := (hvc (hv 6 (by omega))).elim fun _ h => h
      have f7 : fw25 7 = .agg #[.bool b10, .slice A10 n10 c10, .slice B10 m10 d10] := (hvc (hv 7 (by omega))).elim fun _ h => h
      have f8 : fw25 8 = .bool true := (hvc (hv 8 (by omega))).elim fun _ h => h
      have f9 : fw25 9 = .bool false := (hvc (hv 9 (by omega))).elim fun _ h => h
      have f10 : fw25 10 = .bool false := (hvc (hv 10 (by omega))).elim fun _ h => h
      have f11 : fw25 11 = .bool false := (hvc (hv 11 (by omega))).elim fun _ h => h
      have f12 : fw25 12 = .bool false := (hvc (hv 12 (by omega))).elim fun _ h => h
      have f13 : fw25 13 = .bool true := (hvc (hv 13 (by omega))).elim fun _ h => h
      have f14 : fw25 14 = .bool false := (hvc (hv 14 (by omega))).elim fun _ h => h
      have f15 : fw25 15 = .bool false := (hvc (hv 15 (by omega))).elim fun _ h => h
      have f16 : fw25 16 = undef := (hvc (hv 16 (by omega))).elim fun _ h => h
      have f17 : fw25 17 = undef := (hvc (hv 17 (by omega))).elim fun _ h => h
      have f18 : fw25 18 = undef := (hvc (hv 18 (by omega))).elim fun _ h => h
      have f19 : fw25 19 = undef := (hvc (hv 19 (by omega))).elim fun _ h => h
      have f20 : fw25 20 = undef := (hvc (hv 20 (by omega))).elim fun _ h => h
      have f21 : fw25 21 = Value.bool false := (hvc (hv 21 (by omega))).elim fun _ h => h
      have f22 : fw25 22 = Value.bool false := (hvc (hv 22 (by omega))).elim fun _ h => h
      simp only [putFn, Act.put, List.setIfInBounds_toArray, List.set_cons_zero, List.set_cons_succ, f0, f1, f2, f3, f4, f5, f6, f7, f8, f9, f10, f11, f12, f13, f14, f15, f16, f17, f18, f19, f20, f21, f22]
      replace q8 := q8.below hR
      replace P8 := P8.below hR
      replace q10 := q10.below hR
      replace P10 := P10.below hR
      replace BB := bl_trans BB hR
      clear hR hv
      clear q8 P8 q10 P10
      go_wp2
      go_roundw
      case rel => exact ⟨k + 1, by omega, by go_num, BB⟩
      case measure => simp [intOf]; omega
    ·have hq : ∀ q, M.bytes u' ≠ txtQ q := fun q e => hq ⟨q, e⟩
     have HQ := Lib.hid hq
     clear hq
     go_wp2_with fail
     refine (cQParseN HU'.out HQ.out _).mono ?_
     rintro e w26 ⟨_, rfl, hb, b8, A8, n8, c8, B8, m8, d8, rfl, q8⟩
     replace BB := bl_trans BB hb
     clear hb
     replace q8 := q8.t
     have OO := bl_alloc w26 (.cells #[.bool b8, .slice A8 n8 c8, .slice B8 m8 d8] 26)
     have P8 := Bq.new w26 b8 A8 n8 c8 B8 m8 d8
     replace q8 := q8.below OO
     replace BB := bl_trans BB OO
     clear OO
     go_upto_region 9 with (fail)
     generalize w26.alloc _ = w27 at q8 P8 BB ⊢
     go_wp2_with fail
     refine (cParse3N HU'.out HQ.out).mono ?_
     rintro e w28 ⟨_, rfl, hb, rfl⟩
     replace q8 := q8.below hb
     replace P8 := P8.below hb
     replace BB := bl_trans BB hb
     clear hb
     have OO := bl_alloc w28 (.cells #[.bool false, .slice none 0 0, .slice none 0 0] 26)
     replace q8 := q8.below OO
     replace P8 := P8.below OO
     replace BB := bl_trans BB OO
     clear OO
     go_upto_region 10 with (fail)
     generalize w28.alloc _ = w29 at q8 P8 BB ⊢
     refine wp_region_list (Ext := RB) (Rel := RBu) [fun v _ _ => v = .bool false, fun v _ _ => v = .bool false, fun v _ _ => v = .bool false, fun v _ _ => v = .bool false, fun v _ _ => v = .bool false, fun v _ _ => v = .bool false, fun v _ _ => v = undef, fun v _ _ => v = undef, fun v _ _ => v = undef, fun v _ _ => v = undef, fun v _ _ => v = Value.bool false, fun v _ _ => v = Value.bool false, fun v _ _ => v = Value.bool false, fun v _ _ => v = .bool false, fun v _ _ => v = .bool true, fun v _ _ => v = .bool true, fun v _ _ => v = .agg #[.bool b8, .slice A8 n8 c8, .slice B8 m8 d8], fun v _ _ => v = .agg #[.bool false, .slice none 0 0, .slice none 0 0], fun v _ w => IsQt w v (0) 1, fun v _ _ => v = .bool true, fun v _ _ => v = .bool false, fun v _ _ => v = .bool false, fun v _ _ => v = .bool false] (n := 23) (by kernel_rfl) rfl (by kernel_rfl) (by kernel_rfl) (by kernel_rfl) (by kernel_rfl) (by kernel_rfl) rb_refl rb_trans ⟨sC, ⟨sC, ⟨sC, ⟨sC, ⟨sC, ⟨sC, ⟨sC, ⟨sC, ⟨sC, ⟨sC, ⟨sC, ⟨sC, ⟨sC, ⟨sC, ⟨sC, ⟨sC, ⟨sC, ⟨sC, ⟨sQt, ⟨sC, ⟨sC, ⟨sC, ⟨sC, trivial⟩⟩⟩⟩⟩⟩⟩⟩⟩⟩⟩⟩⟩⟩⟩⟩⟩⟩⟩⟩⟩⟩⟩ ?_ ?_
     ·refine ⟨⟨⟨⟨⟨⟨⟨⟨⟨⟨⟨⟨⟨⟨⟨⟨⟨⟨⟨⟨⟨⟨⟨trivial, ?_⟩, ?_⟩, ?_⟩, ?_⟩, ?_⟩, ?_⟩, ?_⟩, ?_⟩, ?_⟩, ?_⟩, ?_⟩, ?_⟩, ?_⟩, ?_⟩, ?_⟩, ?_⟩, ?_⟩, ?_⟩, ?_⟩, ?_⟩, ?_⟩, ?_⟩, ?_⟩
      ·refine rs_plain rfl rfl fun a wr S => ?_
       have X := undrew S.ext
       exact wp_mv (ev_of ((S.old 9 (by kernel_rfl)).trans rfl)) (done (by kernel_rfl) rbu_refl rfl)
      ·refine rs_plain rfl rfl fun a wr S => ?_
       have X := undrew S.ext
       exact wp_mv (ev_of ((S.old 11 (by kernel_rfl)).trans rfl)) (done (by kernel_rfl) rbu_refl rfl)
      ·refine rs_plain rfl rfl fun a wr S => ?_
       have X := undrew S.ext
       obtain ⟨v0, e0, h0⟩ := S.got 0 (by kernel_rfl)
       obtain ⟨v1, e1, h1⟩ := S.got 1 (by kernel_rfl)
       exact wp_neB ((ev_of (e0 49 (by kernel_rfl))).trans h0) ((ev_of (e1 50 (by kernel_rfl))).trans h1) (done (by kernel_rfl) rbu_refl (congrArg Value.bool (by decide)))
      ·refine rs_plain rfl rfl fun a wr S => ?_
       have X := undrew S.ext
       obtain ⟨v2, e2, h2⟩ := S.got 2 (by kernel_rfl)
       exact wp_mv ((ev_of (e2 51 (by kernel_rfl))).trans h2) (done (by kernel_rfl) rbu_refl rfl)
      ·refine rs_yes rfl rfl (by kernel_rfl) (by kernel_rfl : _ = some 52) (fun _ _ _ h => h) fun a wr S => ?_
       have X := undrew S.ext
       exact wp_mv (ev_of ((S.old 9 (by kernel_rfl)).trans rfl)) (done (by kernel_rfl) rbu_refl rfl)
      ·refine rs_yes rfl rfl (by kernel_rfl) (by kernel_rfl : _ = some 52) (fun _ _ _ h => h) fun a wr S => ?_
       have X := undrew S.ext
       obtain ⟨v4, e4, h4⟩ := S.got 4 (by kernel_rfl)
       exact wp_mv ((ev_of (e4 53 (by kernel_rfl))).trans h4) (done (by kernel_rfl) rbu_refl rfl)
      ·exact rs_no rfl rfl (by kernel_rfl) (by kernel_rfl : _ = some 54) (fun _ _ _ h => h) (by kernel_rfl) rbu_refl (fun _ _ => rfl)
      ·exact rs_no rfl rfl (by kernel_rfl) (by kernel_rfl : _ = some 54) (fun _ _ _ h => h) (by kernel_rfl) rbu_refl (fun _ _ => rfl)
      ·exact rs_no rfl rfl (by kernel_rfl) (by kernel_rfl : _ = some 54) (fun _ _ _ h => h) (by kernel_rfl) rbu_refl (fun _ _ => rfl)
      ·exact rs_no rfl rfl (by kernel_rfl) (by kernel_rfl : _ = some 54) (fun _ _ _ h => h) (by kernel_rfl) rbu_refl (fun _ _ => rfl)
      ·refine rs_yes rfl rfl (by kernel_rfl) (by kernel_rfl : _ = some 52) (fun _ _ _ h => h) fun a wr S => ?_
       have X := undrew S.ext
       obtain ⟨v5, e5, h5⟩ := S.got 5 (by kernel_rfl)
       exact wp_pickF ((ev_of (e5 54 (by kernel_rfl))).trans h5) rfl (done (by kernel_rfl) rbu_refl rfl)
      ·refine rs_plain rfl rfl fun a wr S => ?_
       have X := undrew S.ext
       obtain ⟨v3, e3, h3⟩ := S.got 3 (by kernel_rfl)
       obtain ⟨v10, e10, h10⟩ := S.got 10 (by kernel_rfl)
       exact wp_pickF ((ev_of (e3 52 (by kernel_rfl))).trans h3) ((ev_of (e10 59 (by kernel_rfl))).trans h10) (done (by kernel_rfl) rbu_refl rfl)
      ·refine rs_plain rfl rfl fun a wr S => ?_
       have X := undrew S.ext
       obtain ⟨v11, e11, h11⟩ := S.got 11 (by kernel_rfl)
       exact wp_mv ((ev_of (e11 60 (by kernel_rfl))).trans h11) (done (by kernel_rfl) rbu_refl rfl)
      ·refine rs_yes rfl rfl (by kernel_rfl) (by kernel_rfl : _ = some 61) (fun _ _ _ h => h) fun a wr S => ?_
       have X := undrew S.ext
       exact wp_mv (ev_of ((S.old 9 (by kernel_rfl)).trans rfl)) (done (by kernel_rfl) rbu_refl rfl)
      ·refine rs_yes rfl rfl (by kernel_rfl) (by kernel_rfl : _ = some 61) (fun _ _ _ h => h) fun a wr S => ?_
       have X := undrew S.ext
       obtain ⟨v13, e13, h13⟩ := S.got 13 (by kernel_rfl)
       exact wp_not ((ev_of (e13 62 (by kernel_rfl))).trans h13) (done (by kernel_rfl) rbu_refl rfl)
      ·refine rs_yes rfl rfl (by kernel_rfl) (by kernel_rfl : _ = some 61) (fun _ _ _ h => h) fun a wr S => ?_
       have X := undrew S.ext
       obtain ⟨v14, e14, h14⟩ := S.got 14 (by kernel_rfl)
       exact wp_mv ((ev_of (e14 63 (by kernel_rfl))).trans h14) (done (by kernel_rfl) rbu_refl rfl)
      ·refine rs_yes rfl rfl (by kernel_rfl) (by kernel_rfl : _ = some 64) (fun _ _ _ h => h) fun a wr S => ?_
       have X := undrew S.ext
       exact wp_qload (ev_of ((S.old 8 (by kernel_rfl)).trans rfl)) (P8.below X) (done (by kernel_rfl) rbu_refl rfl)
      ·refine rs_yes rfl rfl (by kernel_rfl) (by kernel_rfl : _ = some 64) (fun _ _ _ h => h) fun a wr S => ?_
       have X := undrew S.ext
       exact wp_build0Q (done (by kernel_rfl) rbu_refl rfl)
      ·refine rs_yes rfl rfl (by kernel_rfl) (by kernel_rfl : _ = some 64) (fun _ _ _ h => h) fun a wr S => ?_
       have X := undrew S.ext
       obtain ⟨v17, e17, h17⟩ := S.got 17 (by kernel_rfl)
       exact st_call cf_ref03_Made (args1 ((ev_of (e17 66 (by kernel_rfl))).trans h17)) (by kernel_rfl) rb (cMade3 (show IsQm _ _ _ _ from ((isQm_nil w29).below X)) (by omega) (by omega)) (fun _ _ _ h => h)
      ·refine rs_yes rfl rfl (by kernel_rfl) (by kernel_rfl : _ = some 64) (fun _ _ _ h => h) fun a wr S => ?_
       have X := undrew S.ext
       obtain ⟨v16, e16, h16⟩ := S.got 16 (by kernel_rfl)
       obtain ⟨v18, e18, h18⟩ := S.got 18 (by kernel_rfl)
       exact st_call cf_law03_same (args2 ((ev_of (e16 65 (by kernel_rfl))).trans h16) (ev_of (e18 67 (by kernel_rfl)))) (by kernel_rfl) rb (cSame3 (show IsQt _ _ _ _ from (q8.below X)) (show IsQt _ _ _ _ from h18) (by omega) (by omega) (r := true) ⟨fun _ => rfl, fun _ => rfl⟩) (fun _ _ _ h => h)
      ·refine rs_yes rfl rfl (by kernel_rfl) (by kernel_rfl : _ = some 64) (fun _ _ _ h => h) fun a wr S => ?_
       have X := undrew S.ext
       obtain ⟨v19, e19, h19⟩ := S.got 19 (by kernel_rfl)
       exact wp_not ((ev_of (e19 68 (by kernel_rfl))).trans h19) (done (by kernel_rfl) rbu_refl rfl)
      ·refine rs_yes rfl rfl (by kernel_rfl) (by kernel_rfl : _ = some 61) (fun _ _ _ h => h) fun a wr S => ?_
       have X := undrew S.ext
       obtain ⟨v15, e15, h15⟩ := S.got 15 (by kernel_rfl)
       obtain ⟨v20, e20, h20⟩ := S.got 20 (by kernel_rfl)
       exact wp_pickT ((ev_of (e15 64 (by kernel_rfl))).trans h15) ((ev_of (e20 69 (by kernel_rfl))).trans h20) (done (by kernel_rfl) rbu_refl rfl)
      ·refine rs_plain rfl rfl fun a wr S => ?_
       have X := undrew S.ext
       obtain ⟨v12, e12, h12⟩ := S.got 12 (by kernel_rfl)
       obtain ⟨v21, e21, h21⟩ := S.got 21 (by kernel_rfl)
       exact wp_pickF ((ev_of (e12 61 (by kernel_rfl))).trans h12) ((ev_of (e21 70 (by kernel_rfl))).trans h21) (done (by kernel_rfl) rbu_refl rfl)
     ·intro fw30 w30 hR hv
      replace hR := undrew hR
      have f0 : fw30 0 = .bool false := (hvc (hv 0 (by omega))).elim fun _ h => h
      have f1 : fw30 1 = .bool false := (hvc (hv 1 (by omega))).elim fun _ h => h
      have f2 : fw30 2 = .bool false := (hvc (hv 2 (by omega))).elim fun _ h => h
      have f3 : fw30 3 = .bool false := (hvc (hv 3 (by omega))).elim fun _ h => h
      have f4 : fw30 4 = .bool false := (hvc (hv 4 (by omega))).elim fun _ h => h
      have f5 : fw30 5 = .bool false := (hvc (hv 5 (by omega))).elim fun _ h => h
      have f6 : fw30 6 = undef := (hvc (hv 6 (by omega))).elim fun _ h => h
      have f7 : fw30 7 = undef := (hvc (hv 7 (by omega))).elim fun _ h => h
      have f8 : fw30 8 = undef := (hvc (hv 8 (by omega))).elim fun _ h => h
      have f9 : fw30 9 = undef := (hvc (hv 9 (by omega))).elim fun _ h => h
      have f10 : fw30 10 = Value.bool false := (hvc (hv 10 (by omega))).elim fun _ h => h
      have f11 : fw30 11 = Value.bool false := (hvc (hv 11 (by omega))).elim fun _ h => h
      have f12 : fw30 12 = Value.bool false := (hvc (hv 12 (by omega))).elim fun _ h => h
      have f13 : fw30 13 = .bool false := (hvc (hv 13 (by omega))).elim fun _ h => h
      have f14 : fw30 14 = .bool true := (hvc (hv 14 (by omega))).elim fun _ h => h
      have f15 : fw30 15 = .bool true := (hvc (hv 15 (by omega))).elim fun _ h => h
      have f16 : fw30 16 = .agg #[.bool b8, .slice A8 n8 c8, .slice B8 m8 d8] := (hvc (hv 16 (by omega))).elim fun _ h => h
      have f17 : fw30 17 = .agg #[.bool false, .slice none 0 0, .slice none 0 0] := (hvc (hv 17 (by omega))).elim fun _ h => h
      have f19 : fw30 19 = .bool true := (hvc (hv 19 (by omega))).elim fun _ h => h
      have f20 : fw30 20 = .bool false := (hvc (hv 20 (by omega))).elim fun _ h => h
      have f21 : fw30 21 = .bool false := (hvc (hv 21 (by omega))).elim fun _ h => h
      have f22 : fw30 22 = .bool false := (hvc (hv 22 (by omega))).elim fun _ h => h
      simp only [putFn, Act.put, List.setIfInBounds_toArray, List.set_cons_zero, List.set_cons_succ, f0, f1, f2, f3, f4, f5, f6, f7, f8, f9, f10, f11, f12, f13, f14, f15, f16, f17, f19, f20, f21, f22]
      replace q8 := q8.below hR
      replace P8 := P8.below hR
      replace BB := bl_trans BB hR
      clear hR hv
      clear q8 P8
      go_wp2
      go_roundw
      case rel => exact ⟨k + 1, by omega, by go_num, BB⟩
      case measure => simp [intOf]; omega
   ·obtain rfl : k = 2 := by omega
    go_wp2_with fail
    refine (cWorks3 _).mono ?_
    rintro e w6 ⟨_, rfl, b6, rfl⟩
    have HB6 := Lib.hid (bl_trans HBK.out b6)
    clear b6
    go_wp2
    go_ret
    exact ⟨rfl, HB6.out⟩

theorem ratParses_walk (s : ByteArray) (x y : Nat) (w : World) (hx : x < 256) (hy : y < 256) (hmx : s.size ≤ maxLen) :
  Calls Tryz.prog 5 #[.string s, .agg #[.int .u8 (x : Int), .int .u8 (y : Int)]] w fun e w' => e = .returned (.bool true) ∧ Below w.heap.size w w' := by
 rcases Nat.lt_trichotomy s.size 60 with h | h | h
 ·exact ratParses_few s x y w hx hy (by omega) hmx
 ·exact ratParses_just s x y w hx hy h hmx
 ·exact ratParses_many s x y w hx hy (by omega) hmx
end Go.Proofs.YtbhgbilhoonopaaGreat
