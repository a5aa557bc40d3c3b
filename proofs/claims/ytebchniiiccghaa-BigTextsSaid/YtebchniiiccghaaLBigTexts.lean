/- litmuslaw02.BigTexts answers true at every input, and changes nothing that was there: its walk. -/
import Derived.Test.YtebchniiiccghaaZY
namespace Go.Proofs.Ytebchniiiccghaa
open Go.RowKit
set_option linter.unusedVariables false
set_option maxRecDepth 100000

set_option maxHeartbeats 4000000 in
theorem bigTexts_1n (sa : Bool) (Aa : Option Addr) (na ca : Nat) (xa : List Nat) (sb : Bool) (Ab : Option Addr) (nb cb : Nat) (xs : List Nat) (za zb : Int) (w : World) (Ha : Hid (Rd w Aa na ca xa)) (Hb : Hid (Rd w Ab nb cb xs)) (Ga : Hid (na ≤ maxLen)) (Gb : Hid (nb ≤ maxLen)) (HZa : Hid (za = zv sa (M.val (xa.take (min na 15))))) (HZb : Hid (zb = zv sb (M.val (xs.take (min nb 15))))) (HLT : Hid (za.natAbs < M.R ^ 15)) (xb : Nat) (lb : List Nat) (HX : Hid (txtZ za = xb :: lb)) (HEQ : Hid (za = zb)) (HC : Hid (cmpI za zb = 0)) (HX45 : Hid (((xb : Int) == 45) = true)) (HS : Hid (sgn za = -1)) (HNZ : Hid (za ≠ 0)) : Calls Try.prog 10 #[.agg #[.bool sa, .slice Aa na ca], .agg #[.bool sb, .slice Ab nb cb]] w fun e w' => e = .returned (.bool true) ∧ Below w.heap.size w w' := by
  have Pa := (Bz.new w sa Aa na ca).alloc (.cells #[.bool sb, .slice Ab nb cb] 32)
  have Pb := Bz.new2 w (.cells #[.bool sa, .slice Aa na ca] 32) sb Ab nb cb
  have BB := bl_trans (bl_alloc w (.cells #[.bool sa, .slice Aa na ca] 32)) (bl_alloc _ (.cells #[.bool sb, .slice Ab nb cb] 32))
  go_enter Try.func10, Try.ntmps10
  go_wp2_with fail
  refine (cWorks _).mono ?_
  rintro e w1 ⟨_, rfl, hb1, rfl⟩
  replace Pa := Pa.below hb1
  replace Pb := Pb.below hb1
  replace BB := bl_trans BB hb1
  clear hb1
  have Fa := Lib.hid (show ∀ W, Below w.heap.size w W → Calls Try.prog 18 #[.agg #[.bool sa, .slice Aa na ca], .int .i64 15] W (Ans W fun _ v => v = .agg #[.bool sa, .slice Aa (min na 15) ca]) from fun W h => cFew (Ha.out.below h) Ga.out 15 _ rfl (by omega))
  have Fb := Lib.hid (show ∀ W, Below w.heap.size w W → Calls Try.prog 18 #[.agg #[.bool sb, .slice Ab nb cb], .int .i64 15] W (Ans W fun _ v => v = .agg #[.bool sb, .slice Ab (min nb 15) cb]) from fun W h => cFew (Hb.out.below h) Gb.out 15 _ rfl (by omega))
  have Pa_0 := Pa.c0
  have Pa_1 := Pa.c1
  have Pb_0 := Pb.c0
  have Pb_1 := Pb.c1
  go_wp2_with fail
  go_region_with (first
    | (go_at_call 18; ((with_reducible refine (Fa.out _ (Below.drew BB)).mono ?_); rintro e wf ⟨_, rfl, hf, rfl⟩; replace BB := bl_trans (Below.drew BB) hf; replace Pa := (Pa.drew).below hf; replace Pb := (Pb.drew).below hf; have Pa_2 := Pa.c0; have Pa_3 := Pa.c1; have Pb_2 := Pb.c0; have Pb_3 := Pb.c1; clear hf))
    | (go_at_call 18; ((with_reducible refine (Fb.out _ BB).mono ?_); rintro e wg ⟨_, rfl, hf, rfl⟩; replace BB := bl_trans BB hf; replace Pa := Pa.below hf; replace Pb := Pb.below hf; have Pa_4 := Pa.c0; have Pa_5 := Pa.c1; have Pb_4 := Pb.c0; have Pb_5 := Pb.c1; have Pa_6 := Pa.f 0; have Pa_7 := Pa.f 1; have Pb_6 := Pb.f 0; have Pb_7 := Pb.f 1; clear hf)))
  all_goals
    have st := two_store (s := sa) (A := Aa) (n := min na 15) (c := ca) (t := sb) (B := Ab) (m := min nb 15) (d := cb) Pa Pb (by omega) BB (Nat.le_refl _) (by omega)
    clear Pa_0 Pa_1 Pb_0 Pb_1 Pa_2 Pa_3 Pb_2 Pb_3 Pa_4 Pa_5 Pb_4 Pb_5 Pa_6 Pa_7 Pb_6 Pb_7
    replace Pa := st.1
    replace Pb := st.2.1
    replace BB := st.2.2
    clear st
    have Qa : IsM ((((wg.setCell ⟨w.heap.size, 0, none⟩ (.bool sa)).setCell ⟨w.heap.size, 1, none⟩ (.slice Aa (min na 15) ca)).setCell ⟨w.heap.size + 1, 0, none⟩ (.bool sb)).setCell ⟨w.heap.size + 1, 1, none⟩ (.slice Ab (min nb 15) cb)) (.agg #[.bool sa, .slice Aa (min na 15) ca]) za 15 := ⟨_, _, _, _, rfl, by rw [HZa.out]; exact few_zm (Ha.out.below BB) 15⟩
    have Qb : IsM ((((wg.setCell ⟨w.heap.size, 0, none⟩ (.bool sa)).setCell ⟨w.heap.size, 1, none⟩ (.slice Aa (min na 15) ca)).setCell ⟨w.heap.size + 1, 0, none⟩ (.bool sb)).setCell ⟨w.heap.size + 1, 1, none⟩ (.slice Ab (min nb 15) cb)) (.agg #[.bool sb, .slice Ab (min nb 15) cb]) zb 15 := ⟨_, _, _, _, rfl, by rw [HZb.out]; exact few_zm (Hb.out.below BB) 15⟩
    generalize ((((wg.setCell ⟨w.heap.size, 0, none⟩ (.bool sa)).setCell ⟨w.heap.size, 1, none⟩ (.slice Aa (min na 15) ca)).setCell ⟨w.heap.size + 1, 0, none⟩ (.bool sb)).setCell ⟨w.heap.size + 1, 1, none⟩ (.slice Ab (min nb 15) cb)) = wh at Pa Pb BB Qa Qb ⊢
    clear Ha Hb Ga Gb HZa HZb Fa Fb
    have Pa_0 := Pa.c0
    have Pa_1 := Pa.c1
    go_wp2_with fail
    refine (cText Qa (by omega)).mono ?_
    rintro e w2 ⟨_, rfl, hb2, t2, rfl, ht2⟩
    clear Pa_0 Pa_1
    replace Pa := Pa.below hb2
    replace Pb := Pb.below hb2
    replace Qa := Qa.below hb2
    replace Qb := Qb.below hb2
    replace BB := bl_trans BB hb2
    clear hb2
    have HT2 := Lib.hid ht2
    clear ht2
    have HI := txtZ_is HT2.out
    have hsz : t2.size ≤ 152 := txtZ_size HT2.out HLT.out
    go_wp2_with fail
    refine (cParse (k := 15) t2 (by omega) HI.1 (by rw [HI.2]; exact HLT.out) (Nat.le_refl _)).mono ?_
    rintro e w3 ⟨_, rfl, hb3, b3, A3, n3, c3, rfl, Z3⟩
    replace Pa := Pa.below hb3
    replace Pb := Pb.below hb3
    replace Qa := Qa.below hb3
    replace Qb := Qb.below hb3
    replace BB := bl_trans BB hb3
    clear hb3
    have q3 : IsZ _ w3 (.agg #[.bool b3, .slice A3 n3 c3]) (valZ t2) 15 := ⟨_, _, _, _, rfl, Z3⟩
    clear Z3
    replace BB := bl_trans BB (bl_alloc w3 (.cells #[.bool b3, .slice A3 n3 c3] 32))
    replace Pa := Pa.below (bl_alloc _ (.cells #[.bool b3, .slice A3 n3 c3] 32))
    replace Pb := Pb.below (bl_alloc _ (.cells #[.bool b3, .slice A3 n3 c3] 32))
    replace Qa := Qa.below (bl_alloc _ (.cells #[.bool b3, .slice A3 n3 c3] 32))
    replace Qb := Qb.below (bl_alloc _ (.cells #[.bool b3, .slice A3 n3 c3] 32))
    replace q3 := q3.below (bl_alloc _ (.cells #[.bool b3, .slice A3 n3 c3] 32))
    have P4 := Bz.new w3 b3 A3 n3 c3
    go_wp2_with fail
    refine wp_region_list (Ext := RB) (Rel := RBu) [fun v _ _ => v = .bool true, fun v _ _ => v = .bool false, fun v _ _ => v = .bool false, fun v _ w => IsT w v (valZ t2) 15, fun v _ w => IsM w v (za) 15, fun v _ w => IsR1 w v (za) 15, fun v _ w => IsZ ((w3.alloc (.cells #[.bool b3, .slice A3 n3 c3] 32))).heap.size w v (za) 16, fun v _ _ => v = .bool true, fun v _ _ => v = .bool false, fun v _ _ => v = .bool false, fun v _ _ => v = .bool false, fun v _ _ => v = .string t2, fun v _ w => IsM w v (zb) 15, fun v _ _ => IsS v (txtZ zb), fun v _ _ => v = .bool true, fun v _ w => IsM w v (za) 15, fun v _ w => IsM w v (zb) 15, fun v _ _ => v = .int .i64 0, fun v _ _ => v = .bool true, fun v _ _ => v = .bool false, fun v _ _ => v = .bool false, fun v _ _ => v = .bool false, fun v _ _ => v = .string t2, fun v _ _ => v = .int .u8 (xb : Nat), fun v _ _ => v = .bool true, fun v _ w => IsM w v (za) 15, fun v _ _ => v = .int .i64 (-1), fun v _ _ => v = .bool true, fun v _ _ => v = .bool false, fun v _ _ => v = .bool false] (n := 30) (by kernel_rfl) rfl (by kernel_rfl) (by kernel_rfl) (by kernel_rfl) (by kernel_rfl) (by kernel_rfl) rb_refl rb_trans ⟨sC, ⟨sC, ⟨sC, ⟨sT, ⟨sM, ⟨sR1, ⟨sZ, ⟨sC, ⟨sC, ⟨sC, ⟨sC, ⟨sC, ⟨sM, ⟨sS, ⟨sC, ⟨sM, ⟨sM, ⟨sC, ⟨sC, ⟨sC, ⟨sC, ⟨sC, ⟨sC, ⟨sC, ⟨sC, ⟨sM, ⟨sC, ⟨sC, ⟨sC, ⟨sC, trivial⟩⟩⟩⟩⟩⟩⟩⟩⟩⟩⟩⟩⟩⟩⟩⟩⟩⟩⟩⟩⟩⟩⟩⟩⟩⟩⟩⟩⟩⟩ ?_ ?_
    · refine ⟨⟨⟨⟨⟨⟨⟨⟨⟨⟨⟨⟨⟨⟨⟨⟨⟨⟨⟨⟨⟨⟨⟨⟨⟨⟨⟨⟨⟨⟨trivial, ?_⟩, ?_⟩, ?_⟩, ?_⟩, ?_⟩, ?_⟩, ?_⟩, ?_⟩, ?_⟩, ?_⟩, ?_⟩, ?_⟩, ?_⟩, ?_⟩, ?_⟩, ?_⟩, ?_⟩, ?_⟩, ?_⟩, ?_⟩, ?_⟩, ?_⟩, ?_⟩, ?_⟩, ?_⟩, ?_⟩, ?_⟩, ?_⟩, ?_⟩, ?_⟩
      · refine rs_plain rfl rfl fun a wr S => ?_
        have X := undrew S.ext
        exact wp_mv (ev_of ((S.old 7 (by kernel_rfl)).trans rfl)) (done (by kernel_rfl) rbu_refl rfl)
      · refine rs_plain rfl rfl fun a wr S => ?_
        have X := undrew S.ext
        obtain ⟨v0, e0, h0⟩ := S.got 0 (by kernel_rfl)
        exact wp_not ((ev_of (e0 21 (by kernel_rfl))).trans h0) (done (by kernel_rfl) rbu_refl rfl)
      · refine rs_plain rfl rfl fun a wr S => ?_
        have X := undrew S.ext
        obtain ⟨v1, e1, h1⟩ := S.got 1 (by kernel_rfl)
        exact wp_mv ((ev_of (e1 22 (by kernel_rfl))).trans h1) (done (by kernel_rfl) rbu_refl rfl)
      · refine rs_yes rfl rfl (by kernel_rfl) (by kernel_rfl : _ = some 23) (fun _ _ _ h => h) fun a wr S => ?_
        have X := undrew S.ext
        exact wp_load (ev_of ((S.old 6 (by kernel_rfl)).trans rfl)) (P4.below X) (done (by kernel_rfl) rbu_refl (q3.below X).t)
      · refine rs_yes rfl rfl (by kernel_rfl) (by kernel_rfl : _ = some 23) (fun _ _ _ h => h) fun a wr S => ?_
        have X := undrew S.ext
        exact wp_load (ev_of ((S.old 2 (by kernel_rfl)).trans rfl)) (Pa.below X) (done (by kernel_rfl) rbu_refl (Qa.below X))
      · refine rs_yes rfl rfl (by kernel_rfl) (by kernel_rfl : _ = some 23) (fun _ _ _ h => h) fun a wr S => ?_
        have X := undrew S.ext
        obtain ⟨v4, e4, h4⟩ := S.got 4 (by kernel_rfl)
        obtain ⟨b0, A0, n0, c0, hv0, Z0⟩ := (show IsM wr _ _ _ from h4)
        exact wp_bs1 ((ev_of (e4 25 (by kernel_rfl))).trans hv0) (done' (by kernel_rfl) (rb _ _ _ (bl_alloc _ _)) (IsR1.new Z0))
      · refine rs_yes rfl rfl (by kernel_rfl) (by kernel_rfl : _ = some 23) (fun _ _ _ h => h) fun a wr S => ?_
        have X := undrew S.ext
        obtain ⟨v5, e5, h5⟩ := S.got 5 (by kernel_rfl)
        exact st_call cf_big_Add (args1 (ev_of (e5 26 (by kernel_rfl)))) (by kernel_rfl) rb (cAdd1 h5 (by omega) X.size) (fun _ _ _ h => h)
      · refine rs_yes rfl rfl (by kernel_rfl) (by kernel_rfl : _ = some 23) (fun _ _ _ h => h) fun a wr S => ?_
        have X := undrew S.ext
        obtain ⟨v3, e3, h3⟩ := S.got 3 (by kernel_rfl)
        obtain ⟨v6, e6, h6⟩ := S.got 6 (by kernel_rfl)
        exact st_call cf_law02_same (args2 (ev_of (e3 24 (by kernel_rfl))) (ev_of (e6 27 (by kernel_rfl)))) (by kernel_rfl) rb (cSame h3 h6.t (by omega) (by omega) (decide_eq_true (HI.2))) (fun _ _ _ h => h)
      · refine rs_yes rfl rfl (by kernel_rfl) (by kernel_rfl : _ = some 23) (fun _ _ _ h => h) fun a wr S => ?_
        have X := undrew S.ext
        obtain ⟨v7, e7, h7⟩ := S.got 7 (by kernel_rfl)
        exact wp_not ((ev_of (e7 28 (by kernel_rfl))).trans h7) (done (by kernel_rfl) rbu_refl rfl)
      · refine rs_plain rfl rfl fun a wr S => ?_
        have X := undrew S.ext
        obtain ⟨v2, e2, h2⟩ := S.got 2 (by kernel_rfl)
        obtain ⟨v8, e8, h8⟩ := S.got 8 (by kernel_rfl)
        exact wp_pickF ((ev_of (e2 23 (by kernel_rfl))).trans h2) ((ev_of (e8 29 (by kernel_rfl))).trans h8) (done (by kernel_rfl) rbu_refl rfl)
      · refine rs_plain rfl rfl fun a wr S => ?_
        have X := undrew S.ext
        obtain ⟨v9, e9, h9⟩ := S.got 9 (by kernel_rfl)
        exact wp_mv ((ev_of (e9 30 (by kernel_rfl))).trans h9) (done (by kernel_rfl) rbu_refl rfl)
      · refine rs_yes rfl rfl (by kernel_rfl) (by kernel_rfl : _ = some 31) (fun _ _ _ h => h) fun a wr S => ?_
        have X := undrew S.ext
        exact wp_mv (ev_of ((S.old 5 (by kernel_rfl)).trans rfl)) (done (by kernel_rfl) rbu_refl rfl)
      · refine rs_yes rfl rfl (by kernel_rfl) (by kernel_rfl : _ = some 31) (fun _ _ _ h => h) fun a wr S => ?_
        have X := undrew S.ext
        exact wp_load (ev_of ((S.old 3 (by kernel_rfl)).trans rfl)) (Pb.below X) (done (by kernel_rfl) rbu_refl (Qb.below X))
      · refine rs_yes rfl rfl (by kernel_rfl) (by kernel_rfl : _ = some 31) (fun _ _ _ h => h) fun a wr S => ?_
        have X := undrew S.ext
        obtain ⟨v12, e12, h12⟩ := S.got 12 (by kernel_rfl)
        exact st_call cf_big_Text (args1 (ev_of (e12 33 (by kernel_rfl)))) (by kernel_rfl) rb (cText h12 (by omega)) (fun _ _ _ h => h)
      · refine rs_yes rfl rfl (by kernel_rfl) (by kernel_rfl : _ = some 31) (fun _ _ _ h => h) fun a wr S => ?_
        have X := undrew S.ext
        obtain ⟨v11, e11, h11⟩ := S.got 11 (by kernel_rfl)
        obtain ⟨v13, e13, h13⟩ := S.got 13 (by kernel_rfl)
        obtain ⟨sy, hsy, bsy⟩ := (show IsS _ _ from h13)
        exact wp_eqS ((ev_of (e11 32 (by kernel_rfl))).trans h11) ((ev_of (e13 34 (by kernel_rfl))).trans hsy) (done (by kernel_rfl) rbu_refl (congrArg Value.bool (eqT HT2.out bsy HEQ.out)))
      · refine rs_yes rfl rfl (by kernel_rfl) (by kernel_rfl : _ = some 31) (fun _ _ _ h => h) fun a wr S => ?_
        have X := undrew S.ext
        exact wp_load (ev_of ((S.old 2 (by kernel_rfl)).trans rfl)) (Pa.below X) (done (by kernel_rfl) rbu_refl (Qa.below X))
      · refine rs_yes rfl rfl (by kernel_rfl) (by kernel_rfl : _ = some 31) (fun _ _ _ h => h) fun a wr S => ?_
        have X := undrew S.ext
        exact wp_load (ev_of ((S.old 3 (by kernel_rfl)).trans rfl)) (Pb.below X) (done (by kernel_rfl) rbu_refl (Qb.below X))
      · refine rs_yes rfl rfl (by kernel_rfl) (by kernel_rfl : _ = some 31) (fun _ _ _ h => h) fun a wr S => ?_
        have X := undrew S.ext
        obtain ⟨v15, e15, h15⟩ := S.got 15 (by kernel_rfl)
        obtain ⟨v16, e16, h16⟩ := S.got 16 (by kernel_rfl)
        exact st_call cf_big_Cmp (args2 (ev_of (e15 36 (by kernel_rfl))) (ev_of (e16 37 (by kernel_rfl)))) (by kernel_rfl) rb (cCmp h15 h16 (by omega) (by omega) HC.out) (fun _ _ _ h => h)
      · refine rs_yes rfl rfl (by kernel_rfl) (by kernel_rfl : _ = some 31) (fun _ _ _ h => h) fun a wr S => ?_
        have X := undrew S.ext
        obtain ⟨v17, e17, h17⟩ := S.got 17 (by kernel_rfl)
        exact wp_eqI ((ev_of (e17 38 (by kernel_rfl))).trans h17) rfl (Or.inl rfl) (done (by kernel_rfl) rbu_refl (congrArg Value.bool (by decide)))
      · refine rs_yes rfl rfl (by kernel_rfl) (by kernel_rfl : _ = some 31) (fun _ _ _ h => h) fun a wr S => ?_
        have X := undrew S.ext
        obtain ⟨v14, e14, h14⟩ := S.got 14 (by kernel_rfl)
        obtain ⟨v18, e18, h18⟩ := S.got 18 (by kernel_rfl)
        exact wp_neB ((ev_of (e14 35 (by kernel_rfl))).trans h14) ((ev_of (e18 39 (by kernel_rfl))).trans h18) (done (by kernel_rfl) rbu_refl (congrArg Value.bool (by decide)))
      · refine rs_plain rfl rfl fun a wr S => ?_
        have X := undrew S.ext
        obtain ⟨v10, e10, h10⟩ := S.got 10 (by kernel_rfl)
        obtain ⟨v19, e19, h19⟩ := S.got 19 (by kernel_rfl)
        exact wp_pickF ((ev_of (e10 31 (by kernel_rfl))).trans h10) ((ev_of (e19 40 (by kernel_rfl))).trans h19) (done (by kernel_rfl) rbu_refl rfl)
      · refine rs_plain rfl rfl fun a wr S => ?_
        have X := undrew S.ext
        obtain ⟨v20, e20, h20⟩ := S.got 20 (by kernel_rfl)
        exact wp_mv ((ev_of (e20 41 (by kernel_rfl))).trans h20) (done (by kernel_rfl) rbu_refl rfl)
      · refine rs_yes rfl rfl (by kernel_rfl) (by kernel_rfl : _ = some 42) (fun _ _ _ h => h) fun a wr S => ?_
        have X := undrew S.ext
        exact wp_mv (ev_of ((S.old 5 (by kernel_rfl)).trans rfl)) (done (by kernel_rfl) rbu_refl rfl)
      · refine rs_yes rfl rfl (by kernel_rfl) (by kernel_rfl : _ = some 42) (fun _ _ _ h => h) fun a wr S => ?_
        have X := undrew S.ext
        obtain ⟨v22, e22, h22⟩ := S.got 22 (by kernel_rfl)
        exact wp_idxT ((ev_of (e22 43 (by kernel_rfl))).trans h22) (HT2.out.trans HX.out) (done (by kernel_rfl) rbu_refl rfl)
      · refine rs_yes rfl rfl (by kernel_rfl) (by kernel_rfl : _ = some 42) (fun _ _ _ h => h) fun a wr S => ?_
        have X := undrew S.ext
        obtain ⟨v23, e23, h23⟩ := S.got 23 (by kernel_rfl)
        exact wp_eqU8 ((ev_of (e23 44 (by kernel_rfl))).trans h23) rfl (done (by kernel_rfl) rbu_refl (congrArg Value.bool HX45.out))
      · refine rs_yes rfl rfl (by kernel_rfl) (by kernel_rfl : _ = some 42) (fun _ _ _ h => h) fun a wr S => ?_
        have X := undrew S.ext
        exact wp_load (ev_of ((S.old 2 (by kernel_rfl)).trans rfl)) (Pa.below X) (done (by kernel_rfl) rbu_refl (Qa.below X))
      · refine rs_yes rfl rfl (by kernel_rfl) (by kernel_rfl : _ = some 42) (fun _ _ _ h => h) fun a wr S => ?_
        have X := undrew S.ext
        obtain ⟨v25, e25, h25⟩ := S.got 25 (by kernel_rfl)
        exact st_call cf_big_Sign (args1 (ev_of (e25 46 (by kernel_rfl)))) (by kernel_rfl) rb (cSign h25 (by omega) HS.out) (fun _ _ _ h => h)
      · refine rs_yes rfl rfl (by kernel_rfl) (by kernel_rfl : _ = some 42) (fun _ _ _ h => h) fun a wr S => ?_
        have X := undrew S.ext
        obtain ⟨v26, e26, h26⟩ := S.got 26 (by kernel_rfl)
        exact wp_ltI ((ev_of (e26 47 (by kernel_rfl))).trans h26) rfl (done (by kernel_rfl) rbu_refl (congrArg Value.bool (by decide)))
      · refine rs_yes rfl rfl (by kernel_rfl) (by kernel_rfl : _ = some 42) (fun _ _ _ h => h) fun a wr S => ?_
        have X := undrew S.ext
        obtain ⟨v24, e24, h24⟩ := S.got 24 (by kernel_rfl)
        obtain ⟨v27, e27, h27⟩ := S.got 27 (by kernel_rfl)
        exact wp_neB ((ev_of (e24 45 (by kernel_rfl))).trans h24) ((ev_of (e27 48 (by kernel_rfl))).trans h27) (done (by kernel_rfl) rbu_refl (congrArg Value.bool (by decide)))
      · refine rs_plain rfl rfl fun a wr S => ?_
        have X := undrew S.ext
        obtain ⟨v21, e21, h21⟩ := S.got 21 (by kernel_rfl)
        obtain ⟨v28, e28, h28⟩ := S.got 28 (by kernel_rfl)
        exact wp_pickF ((ev_of (e21 42 (by kernel_rfl))).trans h21) ((ev_of (e28 49 (by kernel_rfl))).trans h28) (done (by kernel_rfl) rbu_refl rfl)
    · intro f5_ w5 hR hv
      replace hR := undrew hR
      have f0 : f5_ 0 = .bool true := (hvc (hv 0 (by omega))).elim fun _ h => h
      have f1 : f5_ 1 = .bool false := (hvc (hv 1 (by omega))).elim fun _ h => h
      have f2 : f5_ 2 = .bool false := (hvc (hv 2 (by omega))).elim fun _ h => h
      have f7 : f5_ 7 = .bool true := (hvc (hv 7 (by omega))).elim fun _ h => h
      have f8 : f5_ 8 = .bool false := (hvc (hv 8 (by omega))).elim fun _ h => h
      have f9 : f5_ 9 = .bool false := (hvc (hv 9 (by omega))).elim fun _ h => h
      have f10 : f5_ 10 = .bool false := (hvc (hv 10 (by omega))).elim fun _ h => h
      have f11 : f5_ 11 = .string t2 := (hvc (hv 11 (by omega))).elim fun _ h => h
      have f14 : f5_ 14 = .bool true := (hvc (hv 14 (by omega))).elim fun _ h => h
      have f17 : f5_ 17 = .int .i64 0 := (hvc (hv 17 (by omega))).elim fun _ h => h
      have f18 : f5_ 18 = .bool true := (hvc (hv 18 (by omega))).elim fun _ h => h
      have f19 : f5_ 19 = .bool false := (hvc (hv 19 (by omega))).elim fun _ h => h
      have f20 : f5_ 20 = .bool false := (hvc (hv 20 (by omega))).elim fun _ h => h
      have f21 : f5_ 21 = .bool false := (hvc (hv 21 (by omega))).elim fun _ h => h
      have f22 : f5_ 22 = .string t2 := (hvc (hv 22 (by omega))).elim fun _ h => h
      have f23 : f5_ 23 = .int .u8 (xb : Nat) := (hvc (hv 23 (by omega))).elim fun _ h => h
      have f24 : f5_ 24 = .bool true := (hvc (hv 24 (by omega))).elim fun _ h => h
      have f26 : f5_ 26 = .int .i64 (-1) := (hvc (hv 26 (by omega))).elim fun _ h => h
      have f27 : f5_ 27 = .bool true := (hvc (hv 27 (by omega))).elim fun _ h => h
      have f28 : f5_ 28 = .bool false := (hvc (hv 28 (by omega))).elim fun _ h => h
      have f29 : f5_ 29 = .bool false := (hvc (hv 29 (by omega))).elim fun _ h => h
      simp only [putFn, Act.put, List.setIfInBounds_toArray, List.set_cons_zero, List.set_cons_succ, f0, f1, f2, f7, f8, f9, f10, f11, f14, f17, f18, f19, f20, f21, f22, f23, f24, f26, f27, f28, f29]
      replace Pa := Pa.below hR
      replace Pb := Pb.below hR
      replace Qa := Qa.below hR
      replace Qb := Qb.below hR
      replace q3 := q3.below hR
      replace P4 := P4.below hR
      replace BB := bl_trans BB hR
      clear hR
      clear hv
      go_wp2_with fail
      refine wp_region_list (Ext := RB) (Rel := RBu) [fun v _ w => IsM w v (za) 15, fun v _ _ => v = .int .i64 (-1), fun v _ _ => v = .bool false, fun v _ _ => v = .bool false, fun v _ w => IsM w v (za) 15, fun v _ w => IsZ (w5).heap.size w v (10) 2, fun v _ w => IsR2 w v (za) 15 (10) 2, fun v _ w => IsZ (w5).heap.size w v (za * 10) 17, fun v _ _ => IsS v (txtZ (za * 10)), fun v _ _ => v = .string t2, fun v _ _ => v = .string (t2 ++ { data := #[48] }), fun v _ _ => v = .bool true, fun v _ _ => v = .bool true, fun v _ _ => v = .bool true] (n := 14) (by kernel_rfl) rfl (by kernel_rfl) (by kernel_rfl) (by kernel_rfl) (by kernel_rfl) (by kernel_rfl) rb_refl rb_trans ⟨sM, ⟨sC, ⟨sC, ⟨sC, ⟨sM, ⟨sZ, ⟨sR2, ⟨sZ, ⟨sS, ⟨sC, ⟨sC, ⟨sC, ⟨sC, ⟨sC, trivial⟩⟩⟩⟩⟩⟩⟩⟩⟩⟩⟩⟩⟩⟩ ?_ ?_
      · refine ⟨⟨⟨⟨⟨⟨⟨⟨⟨⟨⟨⟨⟨⟨trivial, ?_⟩, ?_⟩, ?_⟩, ?_⟩, ?_⟩, ?_⟩, ?_⟩, ?_⟩, ?_⟩, ?_⟩, ?_⟩, ?_⟩, ?_⟩, ?_⟩
        · refine rs_plain rfl rfl fun a wr S => ?_
          have X := undrew S.ext
          exact wp_load (ev_of ((S.old 2 (by kernel_rfl)).trans rfl)) (Pa.below X) (done (by kernel_rfl) rbu_refl (Qa.below X))
        · refine rs_plain rfl rfl fun a wr S => ?_
          have X := undrew S.ext
          obtain ⟨v0, e0, h0⟩ := S.got 0 (by kernel_rfl)
          exact st_call cf_big_Sign (args1 (ev_of (e0 51 (by kernel_rfl)))) (by kernel_rfl) rb (cSign h0 (by omega) HS.out) (fun _ _ _ h => h)
        · refine rs_plain rfl rfl fun a wr S => ?_
          have X := undrew S.ext
          obtain ⟨v1, e1, h1⟩ := S.got 1 (by kernel_rfl)
          exact wp_eqI ((ev_of (e1 52 (by kernel_rfl))).trans h1) rfl (Or.inl rfl) (done (by kernel_rfl) rbu_refl (congrArg Value.bool (by decide)))
        · refine rs_plain rfl rfl fun a wr S => ?_
          have X := undrew S.ext
          obtain ⟨v2, e2, h2⟩ := S.got 2 (by kernel_rfl)
          exact wp_mv ((ev_of (e2 53 (by kernel_rfl))).trans h2) (done (by kernel_rfl) rbu_refl rfl)
        · refine rs_yes rfl rfl (by kernel_rfl) (by kernel_rfl : _ = some 54) (fun _ _ _ h => h) fun a wr S => ?_
          have X := undrew S.ext
          exact wp_load (ev_of ((S.old 2 (by kernel_rfl)).trans rfl)) (Pa.below X) (done (by kernel_rfl) rbu_refl (Qa.below X))
        · refine rs_yes rfl rfl (by kernel_rfl) (by kernel_rfl : _ = some 54) (fun _ _ _ h => h) fun a wr S => ?_
          have X := undrew S.ext
          exact st_call cf_big_From (args1 rfl) (by kernel_rfl) rb (cFrom _ (by omega) (by omega) X.size) (fun _ _ _ h => h)
        · refine rs_yes rfl rfl (by kernel_rfl) (by kernel_rfl : _ = some 54) (fun _ _ _ h => h) fun a wr S => ?_
          have X := undrew S.ext
          obtain ⟨v4, e4, h4⟩ := S.got 4 (by kernel_rfl)
          obtain ⟨v5, e5, h5⟩ := S.got 5 (by kernel_rfl)
          obtain ⟨b0, A0, n0, c0, hv0, Z0⟩ := (show IsM wr _ _ _ from h4)
          obtain ⟨b1, A1, n1, c1, hv1, Z1⟩ := (show IsM wr _ _ _ from h5.m)
          exact wp_bs2 ((ev_of (e4 55 (by kernel_rfl))).trans hv0) ((ev_of (e5 56 (by kernel_rfl))).trans hv1) (done' (by kernel_rfl) (rb _ _ _ (bl_alloc _ _)) (IsR2.new Z0 Z1))
        · refine rs_yes rfl rfl (by kernel_rfl) (by kernel_rfl : _ = some 54) (fun _ _ _ h => h) fun a wr S => ?_
          have X := undrew S.ext
          obtain ⟨v6, e6, h6⟩ := S.got 6 (by kernel_rfl)
          exact st_call cf_big_Mul (args1 (ev_of (e6 57 (by kernel_rfl)))) (by kernel_rfl) rb (cMul2 (z := za) (u := 10) h6 (by omega) (by omega) (by omega) X.size) (fun _ _ _ h => h)
        · refine rs_yes rfl rfl (by kernel_rfl) (by kernel_rfl : _ = some 54) (fun _ _ _ h => h) fun a wr S => ?_
          have X := undrew S.ext
          obtain ⟨v7, e7, h7⟩ := S.got 7 (by kernel_rfl)
          exact st_call cf_big_Text (args1 (ev_of (e7 58 (by kernel_rfl)))) (by kernel_rfl) rb (cText h7.m (by omega)) (fun _ _ _ h => h)
        · refine rs_yes rfl rfl (by kernel_rfl) (by kernel_rfl : _ = some 54) (fun _ _ _ h => h) fun a wr S => ?_
          have X := undrew S.ext
          exact wp_mv (ev_of ((S.old 5 (by kernel_rfl)).trans rfl)) (done (by kernel_rfl) rbu_refl rfl)
        · refine rs_yes rfl rfl (by kernel_rfl) (by kernel_rfl : _ = some 54) (fun _ _ _ h => h) fun a wr S => ?_
          have X := undrew S.ext
          obtain ⟨v9, e9, h9⟩ := S.got 9 (by kernel_rfl)
          exact wp_addS ((ev_of (e9 60 (by kernel_rfl))).trans h9) rfl (by omega) (by decide) (done (by kernel_rfl) rbu_refl rfl)
        · refine rs_yes rfl rfl (by kernel_rfl) (by kernel_rfl : _ = some 54) (fun _ _ _ h => h) fun a wr S => ?_
          have X := undrew S.ext
          obtain ⟨v8, e8, h8⟩ := S.got 8 (by kernel_rfl)
          obtain ⟨v10, e10, h10⟩ := S.got 10 (by kernel_rfl)
          obtain ⟨sx, hsx, bsx⟩ := (show IsS _ _ from h8)
          exact wp_eqS ((ev_of (e8 59 (by kernel_rfl))).trans hsx) ((ev_of (e10 61 (by kernel_rfl))).trans h10) (done (by kernel_rfl) rbu_refl (congrArg Value.bool (tenT bsx HT2.out HNZ.out)))
        · refine rs_plain rfl rfl fun a wr S => ?_
          have X := undrew S.ext
          obtain ⟨v3, e3, h3⟩ := S.got 3 (by kernel_rfl)
          obtain ⟨v11, e11, h11⟩ := S.got 11 (by kernel_rfl)
          exact wp_pickF ((ev_of (e3 54 (by kernel_rfl))).trans h3) ((ev_of (e11 62 (by kernel_rfl))).trans h11) (done (by kernel_rfl) rbu_refl rfl)
        · refine rs_plain rfl rfl fun a wr S => ?_
          have X := undrew S.ext
          obtain ⟨v12, e12, h12⟩ := S.got 12 (by kernel_rfl)
          exact wp_as ((ev_of (e12 63 (by kernel_rfl))).trans h12) (done (by kernel_rfl) rbu_refl rfl)
      · intro f6_ w6 hR hv
        replace hR := undrew hR
        have f1 : f6_ 1 = .int .i64 (-1) := (hvc (hv 1 (by omega))).elim fun _ h => h
        have f2 : f6_ 2 = .bool false := (hvc (hv 2 (by omega))).elim fun _ h => h
        have f3 : f6_ 3 = .bool false := (hvc (hv 3 (by omega))).elim fun _ h => h
        have f9 : f6_ 9 = .string t2 := (hvc (hv 9 (by omega))).elim fun _ h => h
        have f10 : f6_ 10 = .string (t2 ++ { data := #[48] }) := (hvc (hv 10 (by omega))).elim fun _ h => h
        have f11 : f6_ 11 = .bool true := (hvc (hv 11 (by omega))).elim fun _ h => h
        have f12 : f6_ 12 = .bool true := (hvc (hv 12 (by omega))).elim fun _ h => h
        have f13 : f6_ 13 = .bool true := (hvc (hv 13 (by omega))).elim fun _ h => h
        simp only [putFn, Act.put, List.setIfInBounds_toArray, List.set_cons_zero, List.set_cons_succ, f1, f2, f3, f9, f10, f11, f12, f13]
        replace Pa := Pa.below hR
        replace Pb := Pb.below hR
        replace Qa := Qa.below hR
        replace Qb := Qb.below hR
        replace q3 := q3.below hR
        replace P4 := P4.below hR
        replace BB := bl_trans BB hR
        clear hR
        clear hv
        go_wp2_with fail
        go_ret
        exact ⟨rfl, BB⟩

set_option maxHeartbeats 4000000 in
theorem bigTexts_1z (sa : Bool) (Aa : Option Addr) (na ca : Nat) (xa : List Nat) (sb : Bool) (Ab : Option Addr) (nb cb : Nat) (xs : List Nat) (za zb : Int) (w : World) (Ha : Hid (Rd w Aa na ca xa)) (Hb : Hid (Rd w Ab nb cb xs)) (Ga : Hid (na ≤ maxLen)) (Gb : Hid (nb ≤ maxLen)) (HZa : Hid (za = zv sa (M.val (xa.take (min na 15))))) (HZb : Hid (zb = zv sb (M.val (xs.take (min nb 15))))) (HLT : Hid (za.natAbs < M.R ^ 15)) (xb : Nat) (lb : List Nat) (HX : Hid (txtZ za = xb :: lb)) (HEQ : Hid (za = zb)) (HC : Hid (cmpI za zb = 0)) (HX45 : Hid (((xb : Int) == 45) = false)) (HS : Hid (sgn za = 0)) : Calls Try.prog 10 #[.agg #[.bool sa, .slice Aa na ca], .agg #[.bool sb, .slice Ab nb cb]] w fun e w' => e = .returned (.bool true) ∧ Below w.heap.size w w' := by
  have Pa := (Bz.new w sa Aa na ca).alloc (.cells #[.bool sb, .slice Ab nb cb] 32)
  have Pb := Bz.new2 w (.cells #[.bool sa, .slice Aa na ca] 32) sb Ab nb cb
  have BB := bl_trans (bl_alloc w (.cells #[.bool sa, .slice Aa na ca] 32)) (bl_alloc _ (.cells #[.bool sb, .slice Ab nb cb] 32))
  go_enter Try.func10, Try.ntmps10
  go_wp2_with fail
  refine (cWorks _).mono ?_
  rintro e w1 ⟨_, rfl, hb1, rfl⟩
  replace Pa := Pa.below hb1
  replace Pb := Pb.below hb1
  replace BB := bl_trans BB hb1
  clear hb1
  have Fa := Lib.hid (show ∀ W, Below w.heap.size w W → Calls Try.prog 18 #[.agg #[.bool sa, .slice Aa na ca], .int .i64 15] W (Ans W fun _ v => v = .agg #[.bool sa, .slice Aa (min na 15) ca]) from fun W h => cFew (Ha.out.below h) Ga.out 15 _ rfl (by omega))
  have Fb := Lib.hid (show ∀ W, Below w.heap.size w W → Calls Try.prog 18 #[.agg #[.bool sb, .slice Ab nb cb], .int .i64 15] W (Ans W fun _ v => v = .agg #[.bool sb, .slice Ab (min nb 15) cb]) from fun W h => cFew (Hb.out.below h) Gb.out 15 _ rfl (by omega))
  have Pa_0 := Pa.c0
  have Pa_1 := Pa.c1
  have Pb_0 := Pb.c0
  have Pb_1 := Pb.c1
  go_wp2_with fail
  go_region_with (first
    | (go_at_call 18; ((with_reducible refine (Fa.out _ (Below.drew BB)).mono ?_); rintro e wf ⟨_, rfl, hf, rfl⟩; replace BB := bl_trans (Below.drew BB) hf; replace Pa := (Pa.drew).below hf; replace Pb := (Pb.drew).below hf; have Pa_2 := Pa.c0; have Pa_3 := Pa.c1; have Pb_2 := Pb.c0; have Pb_3 := Pb.c1; clear hf))
    | (go_at_call 18; ((with_reducible refine (Fb.out _ BB).mono ?_); rintro e wg ⟨_, rfl, hf, rfl⟩; replace BB := bl_trans BB hf; replace Pa := Pa.below hf; replace Pb := Pb.below hf; have Pa_4 := Pa.c0; have Pa_5 := Pa.c1; have Pb_4 := Pb.c0; have Pb_5 := Pb.c1; have Pa_6 := Pa.f 0; have Pa_7 := Pa.f 1; have Pb_6 := Pb.f 0; have Pb_7 := Pb.f 1; clear hf)))
  all_goals
    have st := two_store (s := sa) (A := Aa) (n := min na 15) (c := ca) (t := sb) (B := Ab) (m := min nb 15) (d := cb) Pa Pb (by omega) BB (Nat.le_refl _) (by omega)
    clear Pa_0 Pa_1 Pb_0 Pb_1 Pa_2 Pa_3 Pb_2 Pb_3 Pa_4 Pa_5 Pb_4 Pb_5 Pa_6 Pa_7 Pb_6 Pb_7
    replace Pa := st.1
    replace Pb := st.2.1
    replace BB := st.2.2
    clear st
    have Qa : IsM ((((wg.setCell ⟨w.heap.size, 0, none⟩ (.bool sa)).setCell ⟨w.heap.size, 1, none⟩ (.slice Aa (min na 15) ca)).setCell ⟨w.heap.size + 1, 0, none⟩ (.bool sb)).setCell ⟨w.heap.size + 1, 1, none⟩ (.slice Ab (min nb 15) cb)) (.agg #[.bool sa, .slice Aa (min na 15) ca]) za 15 := ⟨_, _, _, _, rfl, by rw [HZa.out]; exact few_zm (Ha.out.below BB) 15⟩
    have Qb : IsM ((((wg.setCell ⟨w.heap.size, 0, none⟩ (.bool sa)).setCell ⟨w.heap.size, 1, none⟩ (.slice Aa (min na 15) ca)).setCell ⟨w.heap.size + 1, 0, none⟩ (.bool sb)).setCell ⟨w.heap.size + 1, 1, none⟩ (.slice Ab (min nb 15) cb)) (.agg #[.bool sb, .slice Ab (min nb 15) cb]) zb 15 := ⟨_, _, _, _, rfl, by rw [HZb.out]; exact few_zm (Hb.out.below BB) 15⟩
    generalize ((((wg.setCell ⟨w.heap.size, 0, none⟩ (.bool sa)).setCell ⟨w.heap.size, 1, none⟩ (.slice Aa (min na 15) ca)).setCell ⟨w.heap.size + 1, 0, none⟩ (.bool sb)).setCell ⟨w.heap.size + 1, 1, none⟩ (.slice Ab (min nb 15) cb)) = wh at Pa Pb BB Qa Qb ⊢
    clear Ha Hb Ga Gb HZa HZb Fa Fb
    have Pa_0 := Pa.c0
    have Pa_1 := Pa.c1
    go_wp2_with fail
    refine (cText Qa (by omega)).mono ?_
    rintro e w2 ⟨_, rfl, hb2, t2, rfl, ht2⟩
    clear Pa_0 Pa_1
    replace Pa := Pa.below hb2
    replace Pb := Pb.below hb2
    replace Qa := Qa.below hb2
    replace Qb := Qb.below hb2
    replace BB := bl_trans BB hb2
    clear hb2
    have HT2 := Lib.hid ht2
    clear ht2
    have HI := txtZ_is HT2.out
    have hsz : t2.size ≤ 152 := txtZ_size HT2.out HLT.out
    go_wp2_with fail
    refine (cParse (k := 15) t2 (by omega) HI.1 (by rw [HI.2]; exact HLT.out) (Nat.le_refl _)).mono ?_
    rintro e w3 ⟨_, rfl, hb3, b3, A3, n3, c3, rfl, Z3⟩
    replace Pa := Pa.below hb3
    replace Pb := Pb.below hb3
    replace Qa := Qa.below hb3
    replace Qb := Qb.below hb3
    replace BB := bl_trans BB hb3
    clear hb3
    have q3 : IsZ _ w3 (.agg #[.bool b3, .slice A3 n3 c3]) (valZ t2) 15 := ⟨_, _, _, _, rfl, Z3⟩
    clear Z3
    replace BB := bl_trans BB (bl_alloc w3 (.cells #[.bool b3, .slice A3 n3 c3] 32))
    replace Pa := Pa.below (bl_alloc _ (.cells #[.bool b3, .slice A3 n3 c3] 32))
    replace Pb := Pb.below (bl_alloc _ (.cells #[.bool b3, .slice A3 n3 c3] 32))
    replace Qa := Qa.below (bl_alloc _ (.cells #[.bool b3, .slice A3 n3 c3] 32))
    replace Qb := Qb.below (bl_alloc _ (.cells #[.bool b3, .slice A3 n3 c3] 32))
    replace q3 := q3.below (bl_alloc _ (.cells #[.bool b3, .slice A3 n3 c3] 32))
    have P4 := Bz.new w3 b3 A3 n3 c3
    go_wp2_with fail
    refine wp_region_list (Ext := RB) (Rel := RBu) [fun v _ _ => v = .bool true, fun v _ _ => v = .bool false, fun v _ _ => v = .bool false, fun v _ w => IsT w v (valZ t2) 15, fun v _ w => IsM w v (za) 15, fun v _ w => IsR1 w v (za) 15, fun v _ w => IsZ ((w3.alloc (.cells #[.bool b3, .slice A3 n3 c3] 32))).heap.size w v (za) 16, fun v _ _ => v = .bool true, fun v _ _ => v = .bool false, fun v _ _ => v = .bool false, fun v _ _ => v = .bool false, fun v _ _ => v = .string t2, fun v _ w => IsM w v (zb) 15, fun v _ _ => IsS v (txtZ zb), fun v _ _ => v = .bool true, fun v _ w => IsM w v (za) 15, fun v _ w => IsM w v (zb) 15, fun v _ _ => v = .int .i64 0, fun v _ _ => v = .bool true, fun v _ _ => v = .bool false, fun v _ _ => v = .bool false, fun v _ _ => v = .bool false, fun v _ _ => v = .string t2, fun v _ _ => v = .int .u8 (xb : Nat), fun v _ _ => v = .bool false, fun v _ w => IsM w v (za) 15, fun v _ _ => v = .int .i64 0, fun v _ _ => v = .bool false, fun v _ _ => v = .bool false, fun v _ _ => v = .bool false] (n := 30) (by kernel_rfl) rfl (by kernel_rfl) (by kernel_rfl) (by kernel_rfl) (by kernel_rfl) (by kernel_rfl) rb_refl rb_trans ⟨sC, ⟨sC, ⟨sC, ⟨sT, ⟨sM, ⟨sR1, ⟨sZ, ⟨sC, ⟨sC, ⟨sC, ⟨sC, ⟨sC, ⟨sM, ⟨sS, ⟨sC, ⟨sM, ⟨sM, ⟨sC, ⟨sC, ⟨sC, ⟨sC, ⟨sC, ⟨sC, ⟨sC, ⟨sC, ⟨sM, ⟨sC, ⟨sC, ⟨sC, ⟨sC, trivial⟩⟩⟩⟩⟩⟩⟩⟩⟩⟩⟩⟩⟩⟩⟩⟩⟩⟩⟩⟩⟩⟩⟩⟩⟩⟩⟩⟩⟩⟩ ?_ ?_
    · refine ⟨⟨⟨⟨⟨⟨⟨⟨⟨⟨⟨⟨⟨⟨⟨⟨⟨⟨⟨⟨⟨⟨⟨⟨⟨⟨⟨⟨⟨⟨trivial, ?_⟩, ?_⟩, ?_⟩, ?_⟩, ?_⟩, ?_⟩, ?_⟩, ?_⟩, ?_⟩, ?_⟩, ?_⟩, ?_⟩, ?_⟩, ?_⟩, ?_⟩, ?_⟩, ?_⟩, ?_⟩, ?_⟩, ?_⟩, ?_⟩, ?_⟩, ?_⟩, ?_⟩, ?_⟩, ?_⟩, ?_⟩, ?_⟩, ?_⟩, ?_⟩
      · refine rs_plain rfl rfl fun a wr S => ?_
        have X := undrew S.ext
        exact wp_mv (ev_of ((S.old 7 (by kernel_rfl)).trans rfl)) (done (by kernel_rfl) rbu_refl rfl)
      · refine rs_plain rfl rfl fun a wr S => ?_
        have X := undrew S.ext
        obtain ⟨v0, e0, h0⟩ := S.got 0 (by kernel_rfl)
        exact wp_not ((ev_of (e0 21 (by kernel_rfl))).trans h0) (done (by kernel_rfl) rbu_refl rfl)
      · refine rs_plain rfl rfl fun a wr S => ?_
        have X := undrew S.ext
        obtain ⟨v1, e1, h1⟩ := S.got 1 (by kernel_rfl)
        exact wp_mv ((ev_of (e1 22 (by kernel_rfl))).trans h1) (done (by kernel_rfl) rbu_refl rfl)
      · refine rs_yes rfl rfl (by kernel_rfl) (by kernel_rfl : _ = some 23) (fun _ _ _ h => h) fun a wr S => ?_
        have X := undrew S.ext
        exact wp_load (ev_of ((S.old 6 (by kernel_rfl)).trans rfl)) (P4.below X) (done (by kernel_rfl) rbu_refl (q3.below X).t)
      · refine rs_yes rfl rfl (by kernel_rfl) (by kernel_rfl : _ = some 23) (fun _ _ _ h => h) fun a wr S => ?_
        have X := undrew S.ext
        exact wp_load (ev_of ((S.old 2 (by kernel_rfl)).trans rfl)) (Pa.below X) (done (by kernel_rfl) rbu_refl (Qa.below X))
      · refine rs_yes rfl rfl (by kernel_rfl) (by kernel_rfl : _ = some 23) (fun _ _ _ h => h) fun a wr S => ?_
        have X := undrew S.ext
        obtain ⟨v4, e4, h4⟩ := S.got 4 (by kernel_rfl)
        obtain ⟨b0, A0, n0, c0, hv0, Z0⟩ := (show IsM wr _ _ _ from h4)
        exact wp_bs1 ((ev_of (e4 25 (by kernel_rfl))).trans hv0) (done' (by kernel_rfl) (rb _ _ _ (bl_alloc _ _)) (IsR1.new Z0))
      · refine rs_yes rfl rfl (by kernel_rfl) (by kernel_rfl : _ = some 23) (fun _ _ _ h => h) fun a wr S => ?_
        have X := undrew S.ext
        obtain ⟨v5, e5, h5⟩ := S.got 5 (by kernel_rfl)
        exact st_call cf_big_Add (args1 (ev_of (e5 26 (by kernel_rfl)))) (by kernel_rfl) rb (cAdd1 h5 (by omega) X.size) (fun _ _ _ h => h)
      · refine rs_yes rfl rfl (by kernel_rfl) (by kernel_rfl : _ = some 23) (fun _ _ _ h => h) fun a wr S => ?_
        have X := undrew S.ext
        obtain ⟨v3, e3, h3⟩ := S.got 3 (by kernel_rfl)
        obtain ⟨v6, e6, h6⟩ := S.got 6 (by kernel_rfl)
        exact st_call cf_law02_same (args2 (ev_of (e3 24 (by kernel_rfl))) (ev_of (e6 27 (by kernel_rfl)))) (by kernel_rfl) rb (cSame h3 h6.t (by omega) (by omega) (decide_eq_true (HI.2))) (fun _ _ _ h => h)
      · refine rs_yes rfl rfl (by kernel_rfl) (by kernel_rfl : _ = some 23) (fun _ _ _ h => h) fun a wr S => ?_
        have X := undrew S.ext
        obtain ⟨v7, e7, h7⟩ := S.got 7 (by kernel_rfl)
        exact wp_not ((ev_of (e7 28 (by kernel_rfl))).trans h7) (done (by kernel_rfl) rbu_refl rfl)
      · refine rs_plain rfl rfl fun a wr S => ?_
        have X := undrew S.ext
        obtain ⟨v2, e2, h2⟩ := S.got 2 (by kernel_rfl)
        obtain ⟨v8, e8, h8⟩ := S.got 8 (by kernel_rfl)
        exact wp_pickF ((ev_of (e2 23 (by kernel_rfl))).trans h2) ((ev_of (e8 29 (by kernel_rfl))).trans h8) (done (by kernel_rfl) rbu_refl rfl)
      · refine rs_plain rfl rfl fun a wr S => ?_
        have X := undrew S.ext
        obtain ⟨v9, e9, h9⟩ := S.got 9 (by kernel_rfl)
        exact wp_mv ((ev_of (e9 30 (by kernel_rfl))).trans h9) (done (by kernel_rfl) rbu_refl rfl)
      · refine rs_yes rfl rfl (by kernel_rfl) (by kernel_rfl : _ = some 31) (fun _ _ _ h => h) fun a wr S => ?_
        have X := undrew S.ext
        exact wp_mv (ev_of ((S.old 5 (by kernel_rfl)).trans rfl)) (done (by kernel_rfl) rbu_refl rfl)
      · refine rs_yes rfl rfl (by kernel_rfl) (by kernel_rfl : _ = some 31) (fun _ _ _ h => h) fun a wr S => ?_
        have X := undrew S.ext
        exact wp_load (ev_of ((S.old 3 (by kernel_rfl)).trans rfl)) (Pb.below X) (done (by kernel_rfl) rbu_refl (Qb.below X))
      · refine rs_yes rfl rfl (by kernel_rfl) (by kernel_rfl : _ = some 31) (fun _ _ _ h => h) fun a wr S => ?_
        have X := undrew S.ext
        obtain ⟨v12, e12, h12⟩ := S.got 12 (by kernel_rfl)
        exact st_call cf_big_Text (args1 (ev_of (e12 33 (by kernel_rfl)))) (by kernel_rfl) rb (cText h12 (by omega)) (fun _ _ _ h => h)
      · refine rs_yes rfl rfl (by kernel_rfl) (by kernel_rfl : _ = some 31) (fun _ _ _ h => h) fun a wr S => ?_
        have X := undrew S.ext
        obtain ⟨v11, e11, h11⟩ := S.got 11 (by kernel_rfl)
        obtain ⟨v13, e13, h13⟩ := S.got 13 (by kernel_rfl)
        obtain ⟨sy, hsy, bsy⟩ := (show IsS _ _ from h13)
        exact wp_eqS ((ev_of (e11 32 (by kernel_rfl))).trans h11) ((ev_of (e13 34 (by kernel_rfl))).trans hsy) (done (by kernel_rfl) rbu_refl (congrArg Value.bool (eqT HT2.out bsy HEQ.out)))
      · refine rs_yes rfl rfl (by kernel_rfl) (by kernel_rfl : _ = some 31) (fun _ _ _ h => h) fun a wr S => ?_
        have X := undrew S.ext
        exact wp_load (ev_of ((S.old 2 (by kernel_rfl)).trans rfl)) (Pa.below X) (done (by kernel_rfl) rbu_refl (Qa.below X))
      · refine rs_yes rfl rfl (by kernel_rfl) (by kernel_rfl : _ = some 31) (fun _ _ _ h => h) fun a wr S => ?_
        have X := undrew S.ext
        exact wp_load (ev_of ((S.old 3 (by kernel_rfl)).trans rfl)) (Pb.below X) (done (by kernel_rfl) rbu_refl (Qb.below X))
      · refine rs_yes rfl rfl (by kernel_rfl) (by kernel_rfl : _ = some 31) (fun _ _ _ h => h) fun a wr S => ?_
        have X := undrew S.ext
        obtain ⟨v15, e15, h15⟩ := S.got 15 (by kernel_rfl)
        obtain ⟨v16, e16, h16⟩ := S.got 16 (by kernel_rfl)
        exact st_call cf_big_Cmp (args2 (ev_of (e15 36 (by kernel_rfl))) (ev_of (e16 37 (by kernel_rfl)))) (by kernel_rfl) rb (cCmp h15 h16 (by omega) (by omega) HC.out) (fun _ _ _ h => h)
      · refine rs_yes rfl rfl (by kernel_rfl) (by kernel_rfl : _ = some 31) (fun _ _ _ h => h) fun a wr S => ?_
        have X := undrew S.ext
        obtain ⟨v17, e17, h17⟩ := S.got 17 (by kernel_rfl)
        exact wp_eqI ((ev_of (e17 38 (by kernel_rfl))).trans h17) rfl (Or.inl rfl) (done (by kernel_rfl) rbu_refl (congrArg Value.bool (by decide)))
      · refine rs_yes rfl rfl (by kernel_rfl) (by kernel_rfl : _ = some 31) (fun _ _ _ h => h) fun a wr S => ?_
        have X := undrew S.ext
        obtain ⟨v14, e14, h14⟩ := S.got 14 (by kernel_rfl)
        obtain ⟨v18, e18, h18⟩ := S.got 18 (by kernel_rfl)
        exact wp_neB ((ev_of (e14 35 (by kernel_rfl))).trans h14) ((ev_of (e18 39 (by kernel_rfl))).trans h18) (done (by kernel_rfl) rbu_refl (congrArg Value.bool (by decide)))
      · refine rs_plain rfl rfl fun a wr S => ?_
        have X := undrew S.ext
        obtain ⟨v10, e10, h10⟩ := S.got 10 (by kernel_rfl)
        obtain ⟨v19, e19, h19⟩ := S.got 19 (by kernel_rfl)
        exact wp_pickF ((ev_of (e10 31 (by kernel_rfl))).trans h10) ((ev_of (e19 40 (by kernel_rfl))).trans h19) (done (by kernel_rfl) rbu_refl rfl)
      · refine rs_plain rfl rfl fun a wr S => ?_
        have X := undrew S.ext
        obtain ⟨v20, e20, h20⟩ := S.got 20 (by kernel_rfl)
        exact wp_mv ((ev_of (e20 41 (by kernel_rfl))).trans h20) (done (by kernel_rfl) rbu_refl rfl)
      · refine rs_yes rfl rfl (by kernel_rfl) (by kernel_rfl : _ = some 42) (fun _ _ _ h => h) fun a wr S => ?_
        have X := undrew S.ext
        exact wp_mv (ev_of ((S.old 5 (by kernel_rfl)).trans rfl)) (done (by kernel_rfl) rbu_refl rfl)
      · refine rs_yes rfl rfl (by kernel_rfl) (by kernel_rfl : _ = some 42) (fun _ _ _ h => h) fun a wr S => ?_
        have X := undrew S.ext
        obtain ⟨v22, e22, h22⟩ := S.got 22 (by kernel_rfl)
        exact wp_idxT ((ev_of (e22 43 (by kernel_rfl))).trans h22) (HT2.out.trans HX.out) (done (by kernel_rfl) rbu_refl rfl)
      · refine rs_yes rfl rfl (by kernel_rfl) (by kernel_rfl : _ = some 42) (fun _ _ _ h => h) fun a wr S => ?_
        have X := undrew S.ext
        obtain ⟨v23, e23, h23⟩ := S.got 23 (by kernel_rfl)
        exact wp_eqU8 ((ev_of (e23 44 (by kernel_rfl))).trans h23) rfl (done (by kernel_rfl) rbu_refl (congrArg Value.bool HX45.out))
      · refine rs_yes rfl rfl (by kernel_rfl) (by kernel_rfl : _ = some 42) (fun _ _ _ h => h) fun a wr S => ?_
        have X := undrew S.ext
        exact wp_load (ev_of ((S.old 2 (by kernel_rfl)).trans rfl)) (Pa.below X) (done (by kernel_rfl) rbu_refl (Qa.below X))
      · refine rs_yes rfl rfl (by kernel_rfl) (by kernel_rfl : _ = some 42) (fun _ _ _ h => h) fun a wr S => ?_
        have X := undrew S.ext
        obtain ⟨v25, e25, h25⟩ := S.got 25 (by kernel_rfl)
        exact st_call cf_big_Sign (args1 (ev_of (e25 46 (by kernel_rfl)))) (by kernel_rfl) rb (cSign h25 (by omega) HS.out) (fun _ _ _ h => h)
      · refine rs_yes rfl rfl (by kernel_rfl) (by kernel_rfl : _ = some 42) (fun _ _ _ h => h) fun a wr S => ?_
        have X := undrew S.ext
        obtain ⟨v26, e26, h26⟩ := S.got 26 (by kernel_rfl)
        exact wp_ltI ((ev_of (e26 47 (by kernel_rfl))).trans h26) rfl (done (by kernel_rfl) rbu_refl (congrArg Value.bool (by decide)))
      · refine rs_yes rfl rfl (by kernel_rfl) (by kernel_rfl : _ = some 42) (fun _ _ _ h => h) fun a wr S => ?_
        have X := undrew S.ext
        obtain ⟨v24, e24, h24⟩ := S.got 24 (by kernel_rfl)
        obtain ⟨v27, e27, h27⟩ := S.got 27 (by kernel_rfl)
        exact wp_neB ((ev_of (e24 45 (by kernel_rfl))).trans h24) ((ev_of (e27 48 (by kernel_rfl))).trans h27) (done (by kernel_rfl) rbu_refl (congrArg Value.bool (by decide)))
      · refine rs_plain rfl rfl fun a wr S => ?_
        have X := undrew S.ext
        obtain ⟨v21, e21, h21⟩ := S.got 21 (by kernel_rfl)
        obtain ⟨v28, e28, h28⟩ := S.got 28 (by kernel_rfl)
        exact wp_pickF ((ev_of (e21 42 (by kernel_rfl))).trans h21) ((ev_of (e28 49 (by kernel_rfl))).trans h28) (done (by kernel_rfl) rbu_refl rfl)
    · intro f5_ w5 hR hv
      replace hR := undrew hR
      have f0 : f5_ 0 = .bool true := (hvc (hv 0 (by omega))).elim fun _ h => h
      have f1 : f5_ 1 = .bool false := (hvc (hv 1 (by omega))).elim fun _ h => h
      have f2 : f5_ 2 = .bool false := (hvc (hv 2 (by omega))).elim fun _ h => h
      have f7 : f5_ 7 = .bool true := (hvc (hv 7 (by omega))).elim fun _ h => h
      have f8 : f5_ 8 = .bool false := (hvc (hv 8 (by omega))).elim fun _ h => h
      have f9 : f5_ 9 = .bool false := (hvc (hv 9 (by omega))).elim fun _ h => h
      have f10 : f5_ 10 = .bool false := (hvc (hv 10 (by omega))).elim fun _ h => h
      have f11 : f5_ 11 = .string t2 := (hvc (hv 11 (by omega))).elim fun _ h => h
      have f14 : f5_ 14 = .bool true := (hvc (hv 14 (by omega))).elim fun _ h => h
      have f17 : f5_ 17 = .int .i64 0 := (hvc (hv 17 (by omega))).elim fun _ h => h
      have f18 : f5_ 18 = .bool true := (hvc (hv 18 (by omega))).elim fun _ h => h
      have f19 : f5_ 19 = .bool false := (hvc (hv 19 (by omega))).elim fun _ h => h
      have f20 : f5_ 20 = .bool false := (hvc (hv 20 (by omega))).elim fun _ h => h
      have f21 : f5_ 21 = .bool false := (hvc (hv 21 (by omega))).elim fun _ h => h
      have f22 : f5_ 22 = .string t2 := (hvc (hv 22 (by omega))).elim fun _ h => h
      have f23 : f5_ 23 = .int .u8 (xb : Nat) := (hvc (hv 23 (by omega))).elim fun _ h => h
      have f24 : f5_ 24 = .bool false := (hvc (hv 24 (by omega))).elim fun _ h => h
      have f26 : f5_ 26 = .int .i64 0 := (hvc (hv 26 (by omega))).elim fun _ h => h
      have f27 : f5_ 27 = .bool false := (hvc (hv 27 (by omega))).elim fun _ h => h
      have f28 : f5_ 28 = .bool false := (hvc (hv 28 (by omega))).elim fun _ h => h
      have f29 : f5_ 29 = .bool false := (hvc (hv 29 (by omega))).elim fun _ h => h
      simp only [putFn, Act.put, List.setIfInBounds_toArray, List.set_cons_zero, List.set_cons_succ, f0, f1, f2, f7, f8, f9, f10, f11, f14, f17, f18, f19, f20, f21, f22, f23, f24, f26, f27, f28, f29]
      replace Pa := Pa.below hR
      replace Pb := Pb.below hR
      replace Qa := Qa.below hR
      replace Qb := Qb.below hR
      replace q3 := q3.below hR
      replace P4 := P4.below hR
      replace BB := bl_trans BB hR
      clear hR
      clear hv
      go_wp2_with fail
      refine wp_region_list (Ext := RB) (Rel := RBu) [fun v _ w => IsM w v (za) 15, fun v _ _ => v = .int .i64 0, fun v _ _ => v = .bool true, fun v _ _ => v = .bool true, fun v _ _ => v = undef, fun v _ _ => v = undef, fun v _ _ => v = undef, fun v _ _ => v = undef, fun v _ _ => v = undef, fun v _ _ => v = undef, fun v _ _ => v = undef, fun v _ _ => v = undef, fun v _ _ => v = Value.bool true, fun v _ _ => v = Value.bool true] (n := 14) (by kernel_rfl) rfl (by kernel_rfl) (by kernel_rfl) (by kernel_rfl) (by kernel_rfl) (by kernel_rfl) rb_refl rb_trans ⟨sM, ⟨sC, ⟨sC, ⟨sC, ⟨sC, ⟨sC, ⟨sC, ⟨sC, ⟨sC, ⟨sC, ⟨sC, ⟨sC, ⟨sC, ⟨sC, trivial⟩⟩⟩⟩⟩⟩⟩⟩⟩⟩⟩⟩⟩⟩ ?_ ?_
      · refine ⟨⟨⟨⟨⟨⟨⟨⟨⟨⟨⟨⟨⟨⟨trivial, ?_⟩, ?_⟩, ?_⟩, ?_⟩, ?_⟩, ?_⟩, ?_⟩, ?_⟩, ?_⟩, ?_⟩, ?_⟩, ?_⟩, ?_⟩, ?_⟩
        · refine rs_plain rfl rfl fun a wr S => ?_
          have X := undrew S.ext
          exact wp_load (ev_of ((S.old 2 (by kernel_rfl)).trans rfl)) (Pa.below X) (done (by kernel_rfl) rbu_refl (Qa.below X))
        · refine rs_plain rfl rfl fun a wr S => ?_
          have X := undrew S.ext
          obtain ⟨v0, e0, h0⟩ := S.got 0 (by kernel_rfl)
          exact st_call cf_big_Sign (args1 (ev_of (e0 51 (by kernel_rfl)))) (by kernel_rfl) rb (cSign h0 (by omega) HS.out) (fun _ _ _ h => h)
        · refine rs_plain rfl rfl fun a wr S => ?_
          have X := undrew S.ext
          obtain ⟨v1, e1, h1⟩ := S.got 1 (by kernel_rfl)
          exact wp_eqI ((ev_of (e1 52 (by kernel_rfl))).trans h1) rfl (Or.inl rfl) (done (by kernel_rfl) rbu_refl (congrArg Value.bool (by decide)))
        · refine rs_plain rfl rfl fun a wr S => ?_
          have X := undrew S.ext
          obtain ⟨v2, e2, h2⟩ := S.got 2 (by kernel_rfl)
          exact wp_mv ((ev_of (e2 53 (by kernel_rfl))).trans h2) (done (by kernel_rfl) rbu_refl rfl)
        · exact rs_no rfl rfl (by kernel_rfl) (by kernel_rfl : _ = some 54) (fun _ _ _ h => h) (by kernel_rfl) rbu_refl (fun _ _ => rfl)
        · exact rs_no rfl rfl (by kernel_rfl) (by kernel_rfl : _ = some 54) (fun _ _ _ h => h) (by kernel_rfl) rbu_refl (fun _ _ => rfl)
        · exact rs_no rfl rfl (by kernel_rfl) (by kernel_rfl : _ = some 54) (fun _ _ _ h => h) (by kernel_rfl) rbu_refl (fun _ _ => rfl)
        · exact rs_no rfl rfl (by kernel_rfl) (by kernel_rfl : _ = some 54) (fun _ _ _ h => h) (by kernel_rfl) rbu_refl (fun _ _ => rfl)
        · exact rs_no rfl rfl (by kernel_rfl) (by kernel_rfl : _ = some 54) (fun _ _ _ h => h) (by kernel_rfl) rbu_refl (fun _ _ => rfl)
        · exact rs_no rfl rfl (by kernel_rfl) (by kernel_rfl : _ = some 54) (fun _ _ _ h => h) (by kernel_rfl) rbu_refl (fun _ _ => rfl)
        · exact rs_no rfl rfl (by kernel_rfl) (by kernel_rfl : _ = some 54) (fun _ _ _ h => h) (by kernel_rfl) rbu_refl (fun _ _ => rfl)
        · exact rs_no rfl rfl (by kernel_rfl) (by kernel_rfl : _ = some 54) (fun _ _ _ h => h) (by kernel_rfl) rbu_refl (fun _ _ => rfl)
        · refine rs_plain rfl rfl fun a wr S => ?_
          have X := undrew S.ext
          obtain ⟨v3, e3, h3⟩ := S.got 3 (by kernel_rfl)
          exact wp_pickT ((ev_of (e3 54 (by kernel_rfl))).trans h3) rfl (done (by kernel_rfl) rbu_refl rfl)
        · refine rs_plain rfl rfl fun a wr S => ?_
          have X := undrew S.ext
          obtain ⟨v12, e12, h12⟩ := S.got 12 (by kernel_rfl)
          exact wp_as ((ev_of (e12 63 (by kernel_rfl))).trans h12) (done (by kernel_rfl) rbu_refl rfl)
      · intro f6_ w6 hR hv
        replace hR := undrew hR
        have f1 : f6_ 1 = .int .i64 0 := (hvc (hv 1 (by omega))).elim fun _ h => h
        have f2 : f6_ 2 = .bool true := (hvc (hv 2 (by omega))).elim fun _ h => h
        have f3 : f6_ 3 = .bool true := (hvc (hv 3 (by omega))).elim fun _ h => h
        have f4 : f6_ 4 = undef := (hvc (hv 4 (by omega))).elim fun _ h => h
        have f5 : f6_ 5 = undef := (hvc (hv 5 (by omega))).elim fun _ h => h
        have f6 : f6_ 6 = undef := (hvc (hv 6 (by omega))).elim fun _ h => h
        have f7 : f6_ 7 = undef := (hvc (hv 7 (by omega))).elim fun _ h => h
        have f8 : f6_ 8 = undef := (hvc (hv 8 (by omega))).elim fun _ h => h
        have f9 : f6_ 9 = undef := (hvc (hv 9 (by omega))).elim fun _ h => h
        have f10 : f6_ 10 = undef := (hvc (hv 10 (by omega))).elim fun _ h => h
        have f11 : f6_ 11 = undef := (hvc (hv 11 (by omega))).elim fun _ h => h
        have f12 : f6_ 12 = Value.bool true := (hvc (hv 12 (by omega))).elim fun _ h => h
        have f13 : f6_ 13 = Value.bool true := (hvc (hv 13 (by omega))).elim fun _ h => h
        simp only [putFn, Act.put, List.setIfInBounds_toArray, List.set_cons_zero, List.set_cons_succ, f1, f2, f3, f4, f5, f6, f7, f8, f9, f10, f11, f12, f13]
        replace Pa := Pa.below hR
        replace Pb := Pb.below hR
        replace Qa := Qa.below hR
        replace Qb := Qb.below hR
        replace q3 := q3.below hR
        replace P4 := P4.below hR
        replace BB := bl_trans BB hR
        clear hR
        clear hv
        go_wp2_with fail
        go_ret
        exact ⟨rfl, BB⟩

set_option maxHeartbeats 4000000 in
theorem bigTexts_1p (sa : Bool) (Aa : Option Addr) (na ca : Nat) (xa : List Nat) (sb : Bool) (Ab : Option Addr) (nb cb : Nat) (xs : List Nat) (za zb : Int) (w : World) (Ha : Hid (Rd w Aa na ca xa)) (Hb : Hid (Rd w Ab nb cb xs)) (Ga : Hid (na ≤ maxLen)) (Gb : Hid (nb ≤ maxLen)) (HZa : Hid (za = zv sa (M.val (xa.take (min na 15))))) (HZb : Hid (zb = zv sb (M.val (xs.take (min nb 15))))) (HLT : Hid (za.natAbs < M.R ^ 15)) (xb : Nat) (lb : List Nat) (HX : Hid (txtZ za = xb :: lb)) (HEQ : Hid (za = zb)) (HC : Hid (cmpI za zb = 0)) (HX45 : Hid (((xb : Int) == 45) = false)) (HS : Hid (sgn za = 1)) (HNZ : Hid (za ≠ 0)) : Calls Try.prog 10 #[.agg #[.bool sa, .slice Aa na ca], .agg #[.bool sb, .slice Ab nb cb]] w fun e w' => e = .returned (.bool true) ∧ Below w.heap.size w w' := by
  have Pa := (Bz.new w sa Aa na ca).alloc (.cells #[.bool sb, .slice Ab nb cb] 32)
  have Pb := Bz.new2 w (.cells #[.bool sa, .slice Aa na ca] 32) sb Ab nb cb
  have BB := bl_trans (bl_alloc w (.cells #[.bool sa, .slice Aa na ca] 32)) (bl_alloc _ (.cells #[.bool sb, .slice Ab nb cb] 32))
  go_enter Try.func10, Try.ntmps10
  go_wp2_with fail
  refine (cWorks _).mono ?_
  rintro e w1 ⟨_, rfl, hb1, rfl⟩
  replace Pa := Pa.below hb1
  replace Pb := Pb.below hb1
  replace BB := bl_trans BB hb1
  clear hb1
  have Fa := Lib.hid (show ∀ W, Below w.heap.size w W → Calls Try.prog 18 #[.agg #[.bool sa, .slice Aa na ca], .int .i64 15] W (Ans W fun _ v => v = .agg #[.bool sa, .slice Aa (min na 15) ca]) from fun W h => cFew (Ha.out.below h) Ga.out 15 _ rfl (by omega))
  have Fb := Lib.hid (show ∀ W, Below w.heap.size w W → Calls Try.prog 18 #[.agg #[.bool sb, .slice Ab nb cb], .int .i64 15] W (Ans W fun _ v => v = .agg #[.bool sb, .slice Ab (min nb 15) cb]) from fun W h => cFew (Hb.out.below h) Gb.out 15 _ rfl (by omega))
  have Pa_0 := Pa.c0
  have Pa_1 := Pa.c1
  have Pb_0 := Pb.c0
  have Pb_1 := Pb.c1
  go_wp2_with fail
  go_region_with (first
    | (go_at_call 18; ((with_reducible refine (Fa.out _ (Below.drew BB)).mono ?_); rintro e wf ⟨_, rfl, hf, rfl⟩; replace BB := bl_trans (Below.drew BB) hf; replace Pa := (Pa.drew).below hf; replace Pb := (Pb.drew).below hf; have Pa_2 := Pa.c0; have Pa_3 := Pa.c1; have Pb_2 := Pb.c0; have Pb_3 := Pb.c1; clear hf))
    | (go_at_call 18; ((with_reducible refine (Fb.out _ BB).mono ?_); rintro e wg ⟨_, rfl, hf, rfl⟩; replace BB := bl_trans BB hf; replace Pa := Pa.below hf; replace Pb := Pb.below hf; have Pa_4 := Pa.c0; have Pa_5 := Pa.c1; have Pb_4 := Pb.c0; have Pb_5 := Pb.c1; have Pa_6 := Pa.f 0; have Pa_7 := Pa.f 1; have Pb_6 := Pb.f 0; have Pb_7 := Pb.f 1; clear hf)))
  all_goals
    have st := two_store (s := sa) (A := Aa) (n := min na 15) (c := ca) (t := sb) (B := Ab) (m := min nb 15) (d := cb) Pa Pb (by omega) BB (Nat.le_refl _) (by omega)
    clear Pa_0 Pa_1 Pb_0 Pb_1 Pa_2 Pa_3 Pb_2 Pb_3 Pa_4 Pa_5 Pb_4 Pb_5 Pa_6 Pa_7 Pb_6 Pb_7
    replace Pa := st.1
    replace Pb := st.2.1
    replace BB := st.2.2
    clear st
    have Qa : IsM ((((wg.setCell ⟨w.heap.size, 0, none⟩ (.bool sa)).setCell ⟨w.heap.size, 1, none⟩ (.slice Aa (min na 15) ca)).setCell ⟨w.heap.size + 1, 0, none⟩ (.bool sb)).setCell ⟨w.heap.size + 1, 1, none⟩ (.slice Ab (min nb 15) cb)) (.agg #[.bool sa, .slice Aa (min na 15) ca]) za 15 := ⟨_, _, _, _, rfl, by rw [HZa.out]; exact few_zm (Ha.out.below BB) 15⟩
    have Qb : IsM ((((wg.setCell ⟨w.heap.size, 0, none⟩ (.bool sa)).setCell ⟨w.heap.size, 1, none⟩ (.slice Aa (min na 15) ca)).setCell ⟨w.heap.size + 1, 0, none⟩ (.bool sb)).setCell ⟨w.heap.size + 1, 1, none⟩ (.slice Ab (min nb 15) cb)) (.agg #[.bool sb, .slice Ab (min nb 15) cb]) zb 15 := ⟨_, _, _, _, rfl, by rw [HZb.out]; exact few_zm (Hb.out.below BB) 15⟩
    generalize ((((wg.setCell ⟨w.heap.size, 0, none⟩ (.bool sa)).setCell ⟨w.heap.size, 1, none⟩ (.slice Aa (min na 15) ca)).setCell ⟨w.heap.size + 1, 0, none⟩ (.bool sb)).setCell ⟨w.heap.size + 1, 1, none⟩ (.slice Ab (min nb 15) cb)) = wh at Pa Pb BB Qa Qb ⊢
    clear Ha Hb Ga Gb HZa HZb Fa Fb
    have Pa_0 := Pa.c0
    have Pa_1 := Pa.c1
    go_wp2_with fail
    refine (cText Qa (by omega)).mono ?_
    rintro e w2 ⟨_, rfl, hb2, t2, rfl, ht2⟩
    clear Pa_0 Pa_1
    replace Pa := Pa.below hb2
    replace Pb := Pb.below hb2
    replace Qa := Qa.below hb2
    replace Qb := Qb.below hb2
    replace BB := bl_trans BB hb2
    clear hb2
    have HT2 := Lib.hid ht2
    clear ht2
    have HI := txtZ_is HT2.out
    have hsz : t2.size ≤ 152 := txtZ_size HT2.out HLT.out
    go_wp2_with fail
    refine (cParse (k := 15) t2 (by omega) HI.1 (by rw [HI.2]; exact HLT.out) (Nat.le_refl _)).mono ?_
    rintro e w3 ⟨_, rfl, hb3, b3, A3, n3, c3, rfl, Z3⟩
    replace Pa := Pa.below hb3
    replace Pb := Pb.below hb3
    replace Qa := Qa.below hb3
    replace Qb := Qb.below hb3
    replace BB := bl_trans BB hb3
    clear hb3
    have q3 : IsZ _ w3 (.agg #[.bool b3, .slice A3 n3 c3]) (valZ t2) 15 := ⟨_, _, _, _, rfl, Z3⟩
    clear Z3
    replace BB := bl_trans BB (bl_alloc w3 (.cells #[.bool b3, .slice A3 n3 c3] 32))
    replace Pa := Pa.below (bl_alloc _ (.cells #[.bool b3, .slice A3 n3 c3] 32))
    replace Pb := Pb.below (bl_alloc _ (.cells #[.bool b3, .slice A3 n3 c3] 32))
    replace Qa := Qa.below (bl_alloc _ (.cells #[.bool b3, .slice A3 n3 c3] 32))
    replace Qb := Qb.below (bl_alloc _ (.cells #[.bool b3, .slice A3 n3 c3] 32))
    replace q3 := q3.below (bl_alloc _ (.cells #[.bool b3, .slice A3 n3 c3] 32))
    have P4 := Bz.new w3 b3 A3 n3 c3
    go_wp2_with fail
    refine wp_region_list (Ext := RB) (Rel := RBu) [fun v _ _ => v = .bool true, fun v _ _ => v = .bool false, fun v _ _ => v = .bool false, fun v _ w => IsT w v (valZ t2) 15, fun v _ w => IsM w v (za) 15, fun v _ w => IsR1 w v (za) 15, fun v _ w => IsZ ((w3.alloc (.cells #[.bool b3, .slice A3 n3 c3] 32))).heap.size w v (za) 16, fun v _ _ => v = .bool true, fun v _ _ => v = .bool false, fun v _ _ => v = .bool false, fun v _ _ => v = .bool false, fun v _ _ => v = .string t2, fun v _ w => IsM w v (zb) 15, fun v _ _ => IsS v (txtZ zb), fun v _ _ => v = .bool true, fun v _ w => IsM w v (za) 15, fun v _ w => IsM w v (zb) 15, fun v _ _ => v = .int .i64 0, fun v _ _ => v = .bool true, fun v _ _ => v = .bool false, fun v _ _ => v = .bool false, fun v _ _ => v = .bool false, fun v _ _ => v = .string t2, fun v _ _ => v = .int .u8 (xb : Nat), fun v _ _ => v = .bool false, fun v _ w => IsM w v (za) 15, fun v _ _ => v = .int .i64 1, fun v _ _ => v = .bool false, fun v _ _ => v = .bool false, fun v _ _ => v = .bool false] (n := 30) (by kernel_rfl) rfl (by kernel_rfl) (by kernel_rfl) (by kernel_rfl) (by kernel_rfl) (by kernel_rfl) rb_refl rb_trans ⟨sC, ⟨sC, ⟨sC, ⟨sT, ⟨sM, ⟨sR1, ⟨sZ, ⟨sC, ⟨sC, ⟨sC, ⟨sC, ⟨sC, ⟨sM, ⟨sS, ⟨sC, ⟨sM, ⟨sM, ⟨sC, ⟨sC, ⟨sC, ⟨sC, ⟨sC, ⟨sC, ⟨sC, ⟨sC, ⟨sM, ⟨sC, ⟨sC, ⟨sC, ⟨sC, trivial⟩⟩⟩⟩⟩⟩⟩⟩⟩⟩⟩⟩⟩⟩⟩⟩⟩⟩⟩⟩⟩⟩⟩⟩⟩⟩⟩⟩⟩⟩ ?_ ?_
    · refine ⟨⟨⟨⟨⟨⟨⟨⟨⟨⟨⟨⟨⟨⟨⟨⟨⟨⟨⟨⟨⟨⟨⟨⟨⟨⟨⟨⟨⟨⟨trivial, ?_⟩, ?_⟩, ?_⟩, ?_⟩, ?_⟩, ?_⟩, ?_⟩, ?_⟩, ?_⟩, ?_⟩, ?_⟩, ?_⟩, ?_⟩, ?_⟩, ?_⟩, ?_⟩, ?_⟩, ?_⟩, ?_⟩, ?_⟩, ?_⟩, ?_⟩, ?_⟩, ?_⟩, ?_⟩, ?_⟩, ?_⟩, ?_⟩, ?_⟩, ?_⟩
      · refine rs_plain rfl rfl fun a wr S => ?_
        have X := undrew S.ext
        exact wp_mv (ev_of ((S.old 7 (by kernel_rfl)).trans rfl)) (done (by kernel_rfl) rbu_refl rfl)
      · refine rs_plain rfl rfl fun a wr S => ?_
        have X := undrew S.ext
        obtain ⟨v0, e0, h0⟩ := S.got 0 (by kernel_rfl)
        exact wp_not ((ev_of (e0 21 (by kernel_rfl))).trans h0) (done (by kernel_rfl) rbu_refl rfl)
      · refine rs_plain rfl rfl fun a wr S => ?_
        have X := undrew S.ext
        obtain ⟨v1, e1, h1⟩ := S.got 1 (by kernel_rfl)
        exact wp_mv ((ev_of (e1 22 (by kernel_rfl))).trans h1) (done (by kernel_rfl) rbu_refl rfl)
      · refine rs_yes rfl rfl (by kernel_rfl) (by kernel_rfl : _ = some 23) (fun _ _ _ h => h) fun a wr S => ?_
        have X := undrew S.ext
        exact wp_load (ev_of ((S.old 6 (by kernel_rfl)).trans rfl)) (P4.below X) (done (by kernel_rfl) rbu_refl (q3.below X).t)
      · refine rs_yes rfl rfl (by kernel_rfl) (by kernel_rfl : _ = some 23) (fun _ _ _ h => h) fun a wr S => ?_
        have X := undrew S.ext
        exact wp_load (ev_of ((S.old 2 (by kernel_rfl)).trans rfl)) (Pa.below X) (done (by kernel_rfl) rbu_refl (Qa.below X))
      · refine rs_yes rfl rfl (by kernel_rfl) (by kernel_rfl : _ = some 23) (fun _ _ _ h => h) fun a wr S => ?_
        have X := undrew S.ext
        obtain ⟨v4, e4, h4⟩ := S.got 4 (by kernel_rfl)
        obtain ⟨b0, A0, n0, c0, hv0, Z0⟩ := (show IsM wr _ _ _ from h4)
        exact wp_bs1 ((ev_of (e4 25 (by kernel_rfl))).trans hv0) (done' (by kernel_rfl) (rb _ _ _ (bl_alloc _ _)) (IsR1.new Z0))
      · refine rs_yes rfl rfl (by kernel_rfl) (by kernel_rfl : _ = some 23) (fun _ _ _ h => h) fun a wr S => ?_
        have X := undrew S.ext
        obtain ⟨v5, e5, h5⟩ := S.got 5 (by kernel_rfl)
        exact st_call cf_big_Add (args1 (ev_of (e5 26 (by kernel_rfl)))) (by kernel_rfl) rb (cAdd1 h5 (by omega) X.size) (fun _ _ _ h => h)
      · refine rs_yes rfl rfl (by kernel_rfl) (by kernel_rfl : _ = some 23) (fun _ _ _ h => h) fun a wr S => ?_
        have X := undrew S.ext
        obtain ⟨v3, e3, h3⟩ := S.got 3 (by kernel_rfl)
        obtain ⟨v6, e6, h6⟩ := S.got 6 (by kernel_rfl)
        exact st_call cf_law02_same (args2 (ev_of (e3 24 (by kernel_rfl))) (ev_of (e6 27 (by kernel_rfl)))) (by kernel_rfl) rb (cSame h3 h6.t (by omega) (by omega) (decide_eq_true (HI.2))) (fun _ _ _ h => h)
      · refine rs_yes rfl rfl (by kernel_rfl) (by kernel_rfl : _ = some 23) (fun _ _ _ h => h) fun a wr S => ?_
        have X := undrew S.ext
        obtain ⟨v7, e7, h7⟩ := S.got 7 (by kernel_rfl)
        exact wp_not ((ev_of (e7 28 (by kernel_rfl))).trans h7) (done (by kernel_rfl) rbu_refl rfl)
      · refine rs_plain rfl rfl fun a wr S => ?_
        have X := undrew S.ext
        obtain ⟨v2, e2, h2⟩ := S.got 2 (by kernel_rfl)
        obtain ⟨v8, e8, h8⟩ := S.got 8 (by kernel_rfl)
        exact wp_pickF ((ev_of (e2 23 (by kernel_rfl))).trans h2) ((ev_of (e8 29 (by kernel_rfl))).trans h8) (done (by kernel_rfl) rbu_refl rfl)
      · refine rs_plain rfl rfl fun a wr S => ?_
        have X := undrew S.ext
        obtain ⟨v9, e9, h9⟩ := S.got 9 (by kernel_rfl)
        exact wp_mv ((ev_of (e9 30 (by kernel_rfl))).trans h9) (done (by kernel_rfl) rbu_refl rfl)
      · refine rs_yes rfl rfl (by kernel_rfl) (by kernel_rfl : _ = some 31) (fun _ _ _ h => h) fun a wr S => ?_
        have X := undrew S.ext
        exact wp_mv (ev_of ((S.old 5 (by kernel_rfl)).trans rfl)) (done (by kernel_rfl) rbu_refl rfl)
      · refine rs_yes rfl rfl (by kernel_rfl) (by kernel_rfl : _ = some 31) (fun _ _ _ h => h) fun a wr S => ?_
        have X := undrew S.ext
        exact wp_load (ev_of ((S.old 3 (by kernel_rfl)).trans rfl)) (Pb.below X) (done (by kernel_rfl) rbu_refl (Qb.below X))
      · refine rs_yes rfl rfl (by kernel_rfl) (by kernel_rfl : _ = some 31) (fun _ _ _ h => h) fun a wr S => ?_
        have X := undrew S.ext
        obtain ⟨v12, e12, h12⟩ := S.got 12 (by kernel_rfl)
        exact st_call cf_big_Text (args1 (ev_of (e12 33 (by kernel_rfl)))) (by kernel_rfl) rb (cText h12 (by omega)) (fun _ _ _ h => h)
      · refine rs_yes rfl rfl (by kernel_rfl) (by kernel_rfl : _ = some 31) (fun _ _ _ h => h) fun a wr S => ?_
        have X := undrew S.ext
        obtain ⟨v11, e11, h11⟩ := S.got 11 (by kernel_rfl)
        obtain ⟨v13, e13, h13⟩ := S.got 13 (by kernel_rfl)
        obtain ⟨sy, hsy, bsy⟩ := (show IsS _ _ from h13)
        exact wp_eqS ((ev_of (e11 32 (by kernel_rfl))).trans h11) ((ev_of (e13 34 (by kernel_rfl))).trans hsy) (done (by kernel_rfl) rbu_refl (congrArg Value.bool (eqT HT2.out bsy HEQ.out)))
      · refine rs_yes rfl rfl (by kernel_rfl) (by kernel_rfl : _ = some 31) (fun _ _ _ h => h) fun a wr S => ?_
        have X := undrew S.ext
        exact wp_load (ev_of ((S.old 2 (by kernel_rfl)).trans rfl)) (Pa.below X) (done (by kernel_rfl) rbu_refl (Qa.below X))
      · refine rs_yes rfl rfl (by kernel_rfl) (by kernel_rfl : _ = some 31) (fun _ _ _ h => h) fun a wr S => ?_
        have X := undrew S.ext
        exact wp_load (ev_of ((S.old 3 (by kernel_rfl)).trans rfl)) (Pb.below X) (done (by kernel_rfl) rbu_refl (Qb.below X))
      · refine rs_yes rfl rfl (by kernel_rfl) (by kernel_rfl : _ = some 31) (fun _ _ _ h => h) fun a wr S => ?_
        have X := undrew S.ext
        obtain ⟨v15, e15, h15⟩ := S.got 15 (by kernel_rfl)
        obtain ⟨v16, e16, h16⟩ := S.got 16 (by kernel_rfl)
        exact st_call cf_big_Cmp (args2 (ev_of (e15 36 (by kernel_rfl))) (ev_of (e16 37 (by kernel_rfl)))) (by kernel_rfl) rb (cCmp h15 h16 (by omega) (by omega) HC.out) (fun _ _ _ h => h)
      · refine rs_yes rfl rfl (by kernel_rfl) (by kernel_rfl : _ = some 31) (fun _ _ _ h => h) fun a wr S => ?_
        have X := undrew S.ext
        obtain ⟨v17, e17, h17⟩ := S.got 17 (by kernel_rfl)
        exact wp_eqI ((ev_of (e17 38 (by kernel_rfl))).trans h17) rfl (Or.inl rfl) (done (by kernel_rfl) rbu_refl (congrArg Value.bool (by decide)))
      · refine rs_yes rfl rfl (by kernel_rfl) (by kernel_rfl : _ = some 31) (fun _ _ _ h => h) fun a wr S => ?_
        have X := undrew S.ext
        obtain ⟨v14, e14, h14⟩ := S.got 14 (by kernel_rfl)
        obtain ⟨v18, e18, h18⟩ := S.got 18 (by kernel_rfl)
        exact wp_neB ((ev_of (e14 35 (by kernel_rfl))).trans h14) ((ev_of (e18 39 (by kernel_rfl))).trans h18) (done (by kernel_rfl) rbu_refl (congrArg Value.bool (by decide)))
      · refine rs_plain rfl rfl fun a wr S => ?_
        have X := undrew S.ext
        obtain ⟨v10, e10, h10⟩ := S.got 10 (by kernel_rfl)
        obtain ⟨v19, e19, h19⟩ := S.got 19 (by kernel_rfl)
        exact wp_pickF ((ev_of (e10 31 (by kernel_rfl))).trans h10) ((ev_of (e19 40 (by kernel_rfl))).trans h19) (done (by kernel_rfl) rbu_refl rfl)
      · refine rs_plain rfl rfl fun a wr S => ?_
        have X := undrew S.ext
        obtain ⟨v20, e20, h20⟩ := S.got 20 (by kernel_rfl)
        exact wp_mv ((ev_of (e20 41 (by kernel_rfl))).trans h20) (done (by kernel_rfl) rbu_refl rfl)
      · refine rs_yes rfl rfl (by kernel_rfl) (by kernel_rfl : _ = some 42) (fun _ _ _ h => h) fun a wr S => ?_
        have X := undrew S.ext
        exact wp_mv (ev_of ((S.old 5 (by kernel_rfl)).trans rfl)) (done (by kernel_rfl) rbu_refl rfl)
      · refine rs_yes rfl rfl (by kernel_rfl) (by kernel_rfl : _ = some 42) (fun _ _ _ h => h) fun a wr S => ?_
        have X := undrew S.ext
        obtain ⟨v22, e22, h22⟩ := S.got 22 (by kernel_rfl)
        exact wp_idxT ((ev_of (e22 43 (by kernel_rfl))).trans h22) (HT2.out.trans HX.out) (done (by kernel_rfl) rbu_refl rfl)
      · refine rs_yes rfl rfl (by kernel_rfl) (by kernel_rfl : _ = some 42) (fun _ _ _ h => h) fun a wr S => ?_
        have X := undrew S.ext
        obtain ⟨v23, e23, h23⟩ := S.got 23 (by kernel_rfl)
        exact wp_eqU8 ((ev_of (e23 44 (by kernel_rfl))).trans h23) rfl (done (by kernel_rfl) rbu_refl (congrArg Value.bool HX45.out))
      · refine rs_yes rfl rfl (by kernel_rfl) (by kernel_rfl : _ = some 42) (fun _ _ _ h => h) fun a wr S => ?_
        have X := undrew S.ext
        exact wp_load (ev_of ((S.old 2 (by kernel_rfl)).trans rfl)) (Pa.below X) (done (by kernel_rfl) rbu_refl (Qa.below X))
      · refine rs_yes rfl rfl (by kernel_rfl) (by kernel_rfl : _ = some 42) (fun _ _ _ h => h) fun a wr S => ?_
        have X := undrew S.ext
        obtain ⟨v25, e25, h25⟩ := S.got 25 (by kernel_rfl)
        exact st_call cf_big_Sign (args1 (ev_of (e25 46 (by kernel_rfl)))) (by kernel_rfl) rb (cSign h25 (by omega) HS.out) (fun _ _ _ h => h)
      · refine rs_yes rfl rfl (by kernel_rfl) (by kernel_rfl : _ = some 42) (fun _ _ _ h => h) fun a wr S => ?_
        have X := undrew S.ext
        obtain ⟨v26, e26, h26⟩ := S.got 26 (by kernel_rfl)
        exact wp_ltI ((ev_of (e26 47 (by kernel_rfl))).trans h26) rfl (done (by kernel_rfl) rbu_refl (congrArg Value.bool (by decide)))
      · refine rs_yes rfl rfl (by kernel_rfl) (by kernel_rfl : _ = some 42) (fun _ _ _ h => h) fun a wr S => ?_
        have X := undrew S.ext
        obtain ⟨v24, e24, h24⟩ := S.got 24 (by kernel_rfl)
        obtain ⟨v27, e27, h27⟩ := S.got 27 (by kernel_rfl)
        exact wp_neB ((ev_of (e24 45 (by kernel_rfl))).trans h24) ((ev_of (e27 48 (by kernel_rfl))).trans h27) (done (by kernel_rfl) rbu_refl (congrArg Value.bool (by decide)))
      · refine rs_plain rfl rfl fun a wr S => ?_
        have X := undrew S.ext
        obtain ⟨v21, e21, h21⟩ := S.got 21 (by kernel_rfl)
        obtain ⟨v28, e28, h28⟩ := S.got 28 (by kernel_rfl)
        exact wp_pickF ((ev_of (e21 42 (by kernel_rfl))).trans h21) ((ev_of (e28 49 (by kernel_rfl))).trans h28) (done (by kernel_rfl) rbu_refl rfl)
    · intro f5_ w5 hR hv
      replace hR := undrew hR
      have f0 : f5_ 0 = .bool true := (hvc (hv 0 (by omega))).elim fun _ h => h
      have f1 : f5_ 1 = .bool false := (hvc (hv 1 (by omega))).elim fun _ h => h
      have f2 : f5_ 2 = .bool false := (hvc (hv 2 (by omega))).elim fun _ h => h
      have f7 : f5_ 7 = .bool true := (hvc (hv 7 (by omega))).elim fun _ h => h
      have f8 : f5_ 8 = .bool false := (hvc (hv 8 (by omega))).elim fun _ h => h
      have f9 : f5_ 9 = .bool false := (hvc (hv 9 (by omega))).elim fun _ h => h
      have f10 : f5_ 10 = .bool false := (hvc (hv 10 (by omega))).elim fun _ h => h
      have f11 : f5_ 11 = .string t2 := (hvc (hv 11 (by omega))).elim fun _ h => h
      have f14 : f5_ 14 = .bool true := (hvc (hv 14 (by omega))).elim fun _ h => h
      have f17 : f5_ 17 = .int .i64 0 := (hvc (hv 17 (by omega))).elim fun _ h => h
      have f18 : f5_ 18 = .bool true := (hvc (hv 18 (by omega))).elim fun _ h => h
      have f19 : f5_ 19 = .bool false := (hvc (hv 19 (by omega))).elim fun _ h => h
      have f20 : f5_ 20 = .bool false := (hvc (hv 20 (by omega))).elim fun _ h => h
      have f21 : f5_ 21 = .bool false := (hvc (hv 21 (by omega))).elim fun _ h => h
      have f22 : f5_ 22 = .string t2 := (hvc (hv 22 (by omega))).elim fun _ h => h
      have f23 : f5_ 23 = .int .u8 (xb : Nat) := (hvc (hv 23 (by omega))).elim fun _ h => h
      have f24 : f5_ 24 = .bool false := (hvc (hv 24 (by omega))).elim fun _ h => h
      have f26 : f5_ 26 = .int .i64 1 := (hvc (hv 26 (by omega))).elim fun _ h => h
      have f27 : f5_ 27 = .bool false := (hvc (hv 27 (by omega))).elim fun _ h => h
      have f28 : f5_ 28 = .bool false := (hvc (hv 28 (by omega))).elim fun _ h => h
      have f29 : f5_ 29 = .bool false := (hvc (hv 29 (by omega))).elim fun _ h => h
      simp only [putFn, Act.put, List.setIfInBounds_toArray, List.set_cons_zero, List.set_cons_succ, f0, f1, f2, f7, f8, f9, f10, f11, f14, f17, f18, f19, f20, f21, f22, f23, f24, f26, f27, f28, f29]
      replace Pa := Pa.below hR
      replace Pb := Pb.below hR
      replace Qa := Qa.below hR
      replace Qb := Qb.below hR
      replace q3 := q3.below hR
      replace P4 := P4.below hR
      replace BB := bl_trans BB hR
      clear hR
      clear hv
      go_wp2_with fail
      refine wp_region_list (Ext := RB) (Rel := RBu) [fun v _ w => IsM w v (za) 15, fun v _ _ => v = .int .i64 1, fun v _ _ => v = .bool false, fun v _ _ => v = .bool false, fun v _ w => IsM w v (za) 15, fun v _ w => IsZ (w5).heap.size w v (10) 2, fun v _ w => IsR2 w v (za) 15 (10) 2, fun v _ w => IsZ (w5).heap.size w v (za * 10) 17, fun v _ _ => IsS v (txtZ (za * 10)), fun v _ _ => v = .string t2, fun v _ _ => v = .string (t2 ++ { data := #[48] }), fun v _ _ => v = .bool true, fun v _ _ => v = .bool true, fun v _ _ => v = .bool true] (n := 14) (by kernel_rfl) rfl (by kernel_rfl) (by kernel_rfl) (by kernel_rfl) (by kernel_rfl) (by kernel_rfl) rb_refl rb_trans ⟨sM, ⟨sC, ⟨sC, ⟨sC, ⟨sM, ⟨sZ, ⟨sR2, ⟨sZ, ⟨sS, ⟨sC, ⟨sC, ⟨sC, ⟨sC, ⟨sC, trivial⟩⟩⟩⟩⟩⟩⟩⟩⟩⟩⟩⟩⟩⟩ ?_ ?_
      · refine ⟨⟨⟨⟨⟨⟨⟨⟨⟨⟨⟨⟨⟨⟨trivial, ?_⟩, ?_⟩, ?_⟩, ?_⟩, ?_⟩, ?_⟩, ?_⟩, ?_⟩, ?_⟩, ?_⟩, ?_⟩, ?_⟩, ?_⟩, ?_⟩
        · refine rs_plain rfl rfl fun a wr S => ?_
          have X := undrew S.ext
          exact wp_load (ev_of ((S.old 2 (by kernel_rfl)).trans rfl)) (Pa.below X) (done (by kernel_rfl) rbu_refl (Qa.below X))
        · refine rs_plain rfl rfl fun a wr S => ?_
          have X := undrew S.ext
          obtain ⟨v0, e0, h0⟩ := S.got 0 (by kernel_rfl)
          exact st_call cf_big_Sign (args1 (ev_of (e0 51 (by kernel_rfl)))) (by kernel_rfl) rb (cSign h0 (by omega) HS.out) (fun _ _ _ h => h)
        · refine rs_plain rfl rfl fun a wr S => ?_
          have X := undrew S.ext
          obtain ⟨v1, e1, h1⟩ := S.got 1 (by kernel_rfl)
          exact wp_eqI ((ev_of (e1 52 (by kernel_rfl))).trans h1) rfl (Or.inl rfl) (done (by kernel_rfl) rbu_refl (congrArg Value.bool (by decide)))
        · refine rs_plain rfl rfl fun a wr S => ?_
          have X := undrew S.ext
          obtain ⟨v2, e2, h2⟩ := S.got 2 (by kernel_rfl)
          exact wp_mv ((ev_of (e2 53 (by kernel_rfl))).trans h2) (done (by kernel_rfl) rbu_refl rfl)
        · refine rs_yes rfl rfl (by kernel_rfl) (by kernel_rfl : _ = some 54) (fun _ _ _ h => h) fun a wr S => ?_
          have X := undrew S.ext
          exact wp_load (ev_of ((S.old 2 (by kernel_rfl)).trans rfl)) (Pa.below X) (done (by kernel_rfl) rbu_refl (Qa.below X))
        · refine rs_yes rfl rfl (by kernel_rfl) (by kernel_rfl : _ = some 54) (fun _ _ _ h => h) fun a wr S => ?_
          have X := undrew S.ext
          exact st_call cf_big_From (args1 rfl) (by kernel_rfl) rb (cFrom _ (by omega) (by omega) X.size) (fun _ _ _ h => h)
        · refine rs_yes rfl rfl (by kernel_rfl) (by kernel_rfl : _ = some 54) (fun _ _ _ h => h) fun a wr S => ?_
          have X := undrew S.ext
          obtain ⟨v4, e4, h4⟩ := S.got 4 (by kernel_rfl)
          obtain ⟨v5, e5, h5⟩ := S.got 5 (by kernel_rfl)
          obtain ⟨b0, A0, n0, c0, hv0, Z0⟩ := (show IsM wr _ _ _ from h4)
          obtain ⟨b1, A1, n1, c1, hv1, Z1⟩ := (show IsM wr _ _ _ from h5.m)
          exact wp_bs2 ((ev_of (e4 55 (by kernel_rfl))).trans hv0) ((ev_of (e5 56 (by kernel_rfl))).trans hv1) (done' (by kernel_rfl) (rb _ _ _ (bl_alloc _ _)) (IsR2.new Z0 Z1))
        · refine rs_yes rfl rfl (by kernel_rfl) (by kernel_rfl : _ = some 54) (fun _ _ _ h => h) fun a wr S => ?_
          have X := undrew S.ext
          obtain ⟨v6, e6, h6⟩ := S.got 6 (by kernel_rfl)
          exact st_call cf_big_Mul (args1 (ev_of (e6 57 (by kernel_rfl)))) (by kernel_rfl) rb (cMul2 (z := za) (u := 10) h6 (by omega) (by omega) (by omega) X.size) (fun _ _ _ h => h)
        · refine rs_yes rfl rfl (by kernel_rfl) (by kernel_rfl : _ = some 54) (fun _ _ _ h => h) fun a wr S => ?_
          have X := undrew S.ext
          obtain ⟨v7, e7, h7⟩ := S.got 7 (by kernel_rfl)
          exact st_call cf_big_Text (args1 (ev_of (e7 58 (by kernel_rfl)))) (by kernel_rfl) rb (cText h7.m (by omega)) (fun _ _ _ h => h)
        · refine rs_yes rfl rfl (by kernel_rfl) (by kernel_rfl : _ = some 54) (fun _ _ _ h => h) fun a wr S => ?_
          have X := undrew S.ext
          exact wp_mv (ev_of ((S.old 5 (by kernel_rfl)).trans rfl)) (done (by kernel_rfl) rbu_refl rfl)
        · refine rs_yes rfl rfl (by kernel_rfl) (by kernel_rfl : _ = some 54) (fun _ _ _ h => h) fun a wr S => ?_
          have X := undrew S.ext
          obtain ⟨v9, e9, h9⟩ := S.got 9 (by kernel_rfl)
          exact wp_addS ((ev_of (e9 60 (by kernel_rfl))).trans h9) rfl (by omega) (by decide) (done (by kernel_rfl) rbu_refl rfl)
        · refine rs_yes rfl rfl (by kernel_rfl) (by kernel_rfl : _ = some 54) (fun _ _ _ h => h) fun a wr S => ?_
          have X := undrew S.ext
          obtain ⟨v8, e8, h8⟩ := S.got 8 (by kernel_rfl)
          obtain ⟨v10, e10, h10⟩ := S.got 10 (by kernel_rfl)
          obtain ⟨sx, hsx, bsx⟩ := (show IsS _ _ from h8)
          exact wp_eqS ((ev_of (e8 59 (by kernel_rfl))).trans hsx) ((ev_of (e10 61 (by kernel_rfl))).trans h10) (done (by kernel_rfl) rbu_refl (congrArg Value.bool (tenT bsx HT2.out HNZ.out)))
        · refine rs_plain rfl rfl fun a wr S => ?_
          have X := undrew S.ext
          obtain ⟨v3, e3, h3⟩ := S.got 3 (by kernel_rfl)
          obtain ⟨v11, e11, h11⟩ := S.got 11 (by kernel_rfl)
          exact wp_pickF ((ev_of (e3 54 (by kernel_rfl))).trans h3) ((ev_of (e11 62 (by kernel_rfl))).trans h11) (done (by kernel_rfl) rbu_refl rfl)
        · refine rs_plain rfl rfl fun a wr S => ?_
          have X := undrew S.ext
          obtain ⟨v12, e12, h12⟩ := S.got 12 (by kernel_rfl)
          exact wp_as ((ev_of (e12 63 (by kernel_rfl))).trans h12) (done (by kernel_rfl) rbu_refl rfl)
      · intro f6_ w6 hR hv
        replace hR := undrew hR
        have f1 : f6_ 1 = .int .i64 1 := (hvc (hv 1 (by omega))).elim fun _ h => h
        have f2 : f6_ 2 = .bool false := (hvc (hv 2 (by omega))).elim fun _ h => h
        have f3 : f6_ 3 = .bool false := (hvc (hv 3 (by omega))).elim fun _ h => h
        have f9 : f6_ 9 = .string t2 := (hvc (hv 9 (by omega))).elim fun _ h => h
        have f10 : f6_ 10 = .string (t2 ++ { data := #[48] }) := (hvc (hv 10 (by omega))).elim fun _ h => h
        have f11 : f6_ 11 = .bool true := (hvc (hv 11 (by omega))).elim fun _ h => h
        have f12 : f6_ 12 = .bool true := (hvc (hv 12 (by omega))).elim fun _ h => h
        have f13 : f6_ 13 = .bool true := (hvc (hv 13 (by omega))).elim fun _ h => h
        simp only [putFn, Act.put, List.setIfInBounds_toArray, List.set_cons_zero, List.set_cons_succ, f1, f2, f3, f9, f10, f11, f12, f13]
        replace Pa := Pa.below hR
        replace Pb := Pb.below hR
        replace Qa := Qa.below hR
        replace Qb := Qb.below hR
        replace q3 := q3.below hR
        replace P4 := P4.below hR
        replace BB := bl_trans BB hR
        clear hR
        clear hv
        go_wp2_with fail
        go_ret
        exact ⟨rfl, BB⟩

set_option maxHeartbeats 4000000 in
theorem bigTexts_0n (sa : Bool) (Aa : Option Addr) (na ca : Nat) (xa : List Nat) (sb : Bool) (Ab : Option Addr) (nb cb : Nat) (xs : List Nat) (za zb : Int) (w : World) (Ha : Hid (Rd w Aa na ca xa)) (Hb : Hid (Rd w Ab nb cb xs)) (Ga : Hid (na ≤ maxLen)) (Gb : Hid (nb ≤ maxLen)) (HZa : Hid (za = zv sa (M.val (xa.take (min na 15))))) (HZb : Hid (zb = zv sb (M.val (xs.take (min nb 15))))) (HLT : Hid (za.natAbs < M.R ^ 15)) (xb : Nat) (lb : List Nat) (HX : Hid (txtZ za = xb :: lb)) (HEQ : Hid (za ≠ zb)) (qc : Int) (HC : Hid (cmpI za zb = qc)) (HQ : Hid ((qc == 0) = false)) (HX45 : Hid (((xb : Int) == 45) = true)) (HS : Hid (sgn za = -1)) (HNZ : Hid (za ≠ 0)) : Calls Try.prog 10 #[.agg #[.bool sa, .slice Aa na ca], .agg #[.bool sb, .slice Ab nb cb]] w fun e w' => e = .returned (.bool true) ∧ Below w.heap.size w w' := by
  have Pa := (Bz.new w sa Aa na ca).alloc (.cells #[.bool sb, .slice Ab nb cb] 32)
  have Pb := Bz.new2 w (.cells #[.bool sa, .slice Aa na ca] 32) sb Ab nb cb
  have BB := bl_trans (bl_alloc w (.cells #[.bool sa, .slice Aa na ca] 32)) (bl_alloc _ (.cells #[.bool sb, .slice Ab nb cb] 32))
  go_enter Try.func10, Try.ntmps10
  go_wp2_with fail
  refine (cWorks _).mono ?_
  rintro e w1 ⟨_, rfl, hb1, rfl⟩
  replace Pa := Pa.below hb1
  replace Pb := Pb.below hb1
  replace BB := bl_trans BB hb1
  clear hb1
  have Fa := Lib.hid (show ∀ W, Below w.heap.size w W → Calls Try.prog 18 #[.agg #[.bool sa, .slice Aa na ca], .int .i64 15] W (Ans W fun _ v => v = .agg #[.bool sa, .slice Aa (min na 15) ca]) from fun W h => cFew (Ha.out.below h) Ga.out 15 _ rfl (by omega))
  have Fb := Lib.hid (show ∀ W, Below w.heap.size w W → Calls Try.prog 18 #[.agg #[.bool sb, .slice Ab nb cb], .int .i64 15] W (Ans W fun _ v => v = .agg #[.bool sb, .slice Ab (min nb 15) cb]) from fun W h => cFew (Hb.out.below h) Gb.out 15 _ rfl (by omega))
  have Pa_0 := Pa.c0
  have Pa_1 := Pa.c1
  have Pb_0 := Pb.c0
  have Pb_1 := Pb.c1
  go_wp2_with fail
  go_region_with (first
    | (go_at_call 18; ((with_reducible refine (Fa.out _ (Below.drew BB)).mono ?_); rintro e wf ⟨_, rfl, hf, rfl⟩; replace BB := bl_trans (Below.drew BB) hf; replace Pa := (Pa.drew).below hf; replace Pb := (Pb.drew).below hf; have Pa_2 := Pa.c0; have Pa_3 := Pa.c1; have Pb_2 := Pb.c0; have Pb_3 := Pb.c1; clear hf))
    | (go_at_call 18; ((with_reducible refine (Fb.out _ BB).mono ?_); rintro e wg ⟨_, rfl, hf, rfl⟩; replace BB := bl_trans BB hf; replace Pa := Pa.below hf; replace Pb := Pb.below hf; have Pa_4 := Pa.c0; have Pa_5 := Pa.c1; have Pb_4 := Pb.c0; have Pb_5 := Pb.c1; have Pa_6 := Pa.f 0; have Pa_7 := Pa.f 1; have Pb_6 := Pb.f 0; have Pb_7 := Pb.f 1; clear hf)))
  all_goals
    have st := two_store (s := sa) (A := Aa) (n := min na 15) (c := ca) (t := sb) (B := Ab) (m := min nb 15) (d := cb) Pa Pb (by omega) BB (Nat.le_refl _) (by omega)
    clear Pa_0 Pa_1 Pb_0 Pb_1 Pa_2 Pa_3 Pb_2 Pb_3 Pa_4 Pa_5 Pb_4 Pb_5 Pa_6 Pa_7 Pb_6 Pb_7
    replace Pa := st.1
    replace Pb := st.2.1
    replace BB := st.2.2
    clear st
    have Qa : IsM ((((wg.setCell ⟨w.heap.size, 0, none⟩ (.bool sa)).setCell ⟨w.heap.size, 1, none⟩ (.slice Aa (min na 15) ca)).setCell ⟨w.heap.size + 1, 0, none⟩ (.bool sb)).setCell ⟨w.heap.size + 1, 1, none⟩ (.slice Ab (min nb 15) cb)) (.agg #[.bool sa, .slice Aa (min na 15) ca]) za 15 := ⟨_, _, _, _, rfl, by rw [HZa.out]; exact few_zm (Ha.out.below BB) 15⟩
    have Qb : IsM ((((wg.setCell ⟨w.heap.size, 0, none⟩ (.bool sa)).setCell ⟨w.heap.size, 1, none⟩ (.slice Aa (min na 15) ca)).setCell ⟨w.heap.size + 1, 0, none⟩ (.bool sb)).setCell ⟨w.heap.size + 1, 1, none⟩ (.slice Ab (min nb 15) cb)) (.agg #[.bool sb, .slice Ab (min nb 15) cb]) zb 15 := ⟨_, _, _, _, rfl, by rw [HZb.out]; exact few_zm (Hb.out.below BB) 15⟩
    generalize ((((wg.setCell ⟨w.heap.size, 0, none⟩ (.bool sa)).setCell ⟨w.heap.size, 1, none⟩ (.slice Aa (min na 15) ca)).setCell ⟨w.heap.size + 1, 0, none⟩ (.bool sb)).setCell ⟨w.heap.size + 1, 1, none⟩ (.slice Ab (min nb 15) cb)) = wh at Pa Pb BB Qa Qb ⊢
    clear Ha Hb Ga Gb HZa HZb Fa Fb
    have Pa_0 := Pa.c0
    have Pa_1 := Pa.c1
    go_wp2_with fail
    refine (cText Qa (by omega)).mono ?_
    rintro e w2 ⟨_, rfl, hb2, t2, rfl, ht2⟩
    clear Pa_0 Pa_1
    replace Pa := Pa.below hb2
    replace Pb := Pb.below hb2
    replace Qa := Qa.below hb2
    replace Qb := Qb.below hb2
    replace BB := bl_trans BB hb2
    clear hb2
    have HT2 := Lib.hid ht2
    clear ht2
    have HI := txtZ_is HT2.out
    have hsz : t2.size ≤ 152 := txtZ_size HT2.out HLT.out
    go_wp2_with fail
    refine (cParse (k := 15) t2 (by omega) HI.1 (by rw [HI.2]; exact HLT.out) (Nat.le_refl _)).mono ?_
    rintro e w3 ⟨_, rfl, hb3, b3, A3, n3, c3, rfl, Z3⟩
    replace Pa := Pa.below hb3
    replace Pb := Pb.below hb3
    replace Qa := Qa.below hb3
    replace Qb := Qb.below hb3
    replace BB := bl_trans BB hb3
    clear hb3
    have q3 : IsZ _ w3 (.agg #[.bool b3, .slice A3 n3 c3]) (valZ t2) 15 := ⟨_, _, _, _, rfl, Z3⟩
    clear Z3
    replace BB := bl_trans BB (bl_alloc w3 (.cells #[.bool b3, .slice A3 n3 c3] 32))
    replace Pa := Pa.below (bl_alloc _ (.cells #[.bool b3, .slice A3 n3 c3] 32))
    replace Pb := Pb.below (bl_alloc _ (.cells #[.bool b3, .slice A3 n3 c3] 32))
    replace Qa := Qa.below (bl_alloc _ (.cells #[.bool b3, .slice A3 n3 c3] 32))
    replace Qb := Qb.below (bl_alloc _ (.cells #[.bool b3, .slice A3 n3 c3] 32))
    replace q3 := q3.below (bl_alloc _ (.cells #[.bool b3, .slice A3 n3 c3] 32))
    have P4 := Bz.new w3 b3 A3 n3 c3
    go_wp2_with fail
    refine wp_region_list (Ext := RB) (Rel := RBu) [fun v _ _ => v = .bool true, fun v _ _ => v = .bool false, fun v _ _ => v = .bool false, fun v _ w => IsT w v (valZ t2) 15, fun v _ w => IsM w v (za) 15, fun v _ w => IsR1 w v (za) 15, fun v _ w => IsZ ((w3.alloc (.cells #[.bool b3, .slice A3 n3 c3] 32))).heap.size w v (za) 16, fun v _ _ => v = .bool true, fun v _ _ => v = .bool false, fun v _ _ => v = .bool false, fun v _ _ => v = .bool false, fun v _ _ => v = .string t2, fun v _ w => IsM w v (zb) 15, fun v _ _ => IsS v (txtZ zb), fun v _ _ => v = .bool false, fun v _ w => IsM w v (za) 15, fun v _ w => IsM w v (zb) 15, fun v _ _ => v = .int .i64 qc, fun v _ _ => v = .bool false, fun v _ _ => v = .bool false, fun v _ _ => v = .bool false, fun v _ _ => v = .bool false, fun v _ _ => v = .string t2, fun v _ _ => v = .int .u8 (xb : Nat), fun v _ _ => v = .bool true, fun v _ w => IsM w v (za) 15, fun v _ _ => v = .int .i64 (-1), fun v _ _ => v = .bool true, fun v _ _ => v = .bool false, fun v _ _ => v = .bool false] (n := 30) (by kernel_rfl) rfl (by kernel_rfl) (by kernel_rfl) (by kernel_rfl) (by kernel_rfl) (by kernel_rfl) rb_refl rb_trans ⟨sC, ⟨sC, ⟨sC, ⟨sT, ⟨sM, ⟨sR1, ⟨sZ, ⟨sC, ⟨sC, ⟨sC, ⟨sC, ⟨sC, ⟨sM, ⟨sS, ⟨sC, ⟨sM, ⟨sM, ⟨sC, ⟨sC, ⟨sC, ⟨sC, ⟨sC, ⟨sC, ⟨sC, ⟨sC, ⟨sM, ⟨sC, ⟨sC, ⟨sC, ⟨sC, trivial⟩⟩⟩⟩⟩⟩⟩⟩⟩⟩⟩⟩⟩⟩⟩⟩⟩⟩⟩⟩⟩⟩⟩⟩⟩⟩⟩⟩⟩⟩ ?_ ?_
    · refine ⟨⟨⟨⟨⟨⟨⟨⟨⟨⟨⟨⟨⟨⟨⟨⟨⟨⟨⟨⟨⟨⟨⟨⟨⟨⟨⟨⟨⟨⟨trivial, ?_⟩, ?_⟩, ?_⟩, ?_⟩, ?_⟩, ?_⟩, ?_⟩, ?_⟩, ?_⟩, ?_⟩, ?_⟩, ?_⟩, ?_⟩, ?_⟩, ?_⟩, ?_⟩, ?_⟩, ?_⟩, ?_⟩, ?_⟩, ?_⟩, ?_⟩, ?_⟩, ?_⟩, ?_⟩, ?_⟩, ?_⟩, ?_⟩, ?_⟩, ?_⟩
      · refine rs_plain rfl rfl fun a wr S => ?_
        have X := undrew S.ext
        exact wp_mv (ev_of ((S.old 7 (by kernel_rfl)).trans rfl)) (done (by kernel_rfl) rbu_refl rfl)
      · refine rs_plain rfl rfl fun a wr S => ?_
        have X := undrew S.ext
        obtain ⟨v0, e0, h0⟩ := S.got 0 (by kernel_rfl)
        exact wp_not ((ev_of (e0 21 (by kernel_rfl))).trans h0) (done (by kernel_rfl) rbu_refl rfl)
      · refine rs_plain rfl rfl fun a wr S => ?_
        have X := undrew S.ext
        obtain ⟨v1, e1, h1⟩ := S.got 1 (by kernel_rfl)
        exact wp_mv ((ev_of (e1 22 (by kernel_rfl))).trans h1) (done (by kernel_rfl) rbu_refl rfl)
      · refine rs_yes rfl rfl (by kernel_rfl) (by kernel_rfl : _ = some 23) (fun _ _ _ h => h) fun a wr S => ?_
        have X := undrew S.ext
        exact wp_load (ev_of ((S.old 6 (by kernel_rfl)).trans rfl)) (P4.below X) (done (by kernel_rfl) rbu_refl (q3.below X).t)
      · refine rs_yes rfl rfl (by kernel_rfl) (by kernel_rfl : _ = some 23) (fun _ _ _ h => h) fun a wr S => ?_
        have X := undrew S.ext
        exact wp_load (ev_of ((S.old 2 (by kernel_rfl)).trans rfl)) (Pa.below X) (done (by kernel_rfl) rbu_refl (Qa.below X))
      · refine rs_yes rfl rfl (by kernel_rfl) (by kernel_rfl : _ = some 23) (fun _ _ _ h => h) fun a wr S => ?_
        have X := undrew S.ext
        obtain ⟨v4, e4, h4⟩ := S.got 4 (by kernel_rfl)
        obtain ⟨b0, A0, n0, c0, hv0, Z0⟩ := (show IsM wr _ _ _ from h4)
        exact wp_bs1 ((ev_of (e4 25 (by kernel_rfl))).trans hv0) (done' (by kernel_rfl) (rb _ _ _ (bl_alloc _ _)) (IsR1.new Z0))
      · refine rs_yes rfl rfl (by kernel_rfl) (by kernel_rfl : _ = some 23) (fun _ _ _ h => h) fun a wr S => ?_
        have X := undrew S.ext
        obtain ⟨v5, e5, h5⟩ := S.got 5 (by kernel_rfl)
        exact st_call cf_big_Add (args1 (ev_of (e5 26 (by kernel_rfl)))) (by kernel_rfl) rb (cAdd1 h5 (by omega) X.size) (fun _ _ _ h => h)
      · refine rs_yes rfl rfl (by kernel_rfl) (by kernel_rfl : _ = some 23) (fun _ _ _ h => h) fun a wr S => ?_
        have X := undrew S.ext
        obtain ⟨v3, e3, h3⟩ := S.got 3 (by kernel_rfl)
        obtain ⟨v6, e6, h6⟩ := S.got 6 (by kernel_rfl)
        exact st_call cf_law02_same (args2 (ev_of (e3 24 (by kernel_rfl))) (ev_of (e6 27 (by kernel_rfl)))) (by kernel_rfl) rb (cSame h3 h6.t (by omega) (by omega) (decide_eq_true (HI.2))) (fun _ _ _ h => h)
      · refine rs_yes rfl rfl (by kernel_rfl) (by kernel_rfl : _ = some 23) (fun _ _ _ h => h) fun a wr S => ?_
        have X := undrew S.ext
        obtain ⟨v7, e7, h7⟩ := S.got 7 (by kernel_rfl)
        exact wp_not ((ev_of (e7 28 (by kernel_rfl))).trans h7) (done (by kernel_rfl) rbu_refl rfl)
      · refine rs_plain rfl rfl fun a wr S => ?_
        have X := undrew S.ext
        obtain ⟨v2, e2, h2⟩ := S.got 2 (by kernel_rfl)
        obtain ⟨v8, e8, h8⟩ := S.got 8 (by kernel_rfl)
        exact wp_pickF ((ev_of (e2 23 (by kernel_rfl))).trans h2) ((ev_of (e8 29 (by kernel_rfl))).trans h8) (done (by kernel_rfl) rbu_refl rfl)
      · refine rs_plain rfl rfl fun a wr S => ?_
        have X := undrew S.ext
        obtain ⟨v9, e9, h9⟩ := S.got 9 (by kernel_rfl)
        exact wp_mv ((ev_of (e9 30 (by kernel_rfl))).trans h9) (done (by kernel_rfl) rbu_refl rfl)
      · refine rs_yes rfl rfl (by kernel_rfl) (by kernel_rfl : _ = some 31) (fun _ _ _ h => h) fun a wr S => ?_
        have X := undrew S.ext
        exact wp_mv (ev_of ((S.old 5 (by kernel_rfl)).trans rfl)) (done (by kernel_rfl) rbu_refl rfl)
      · refine rs_yes rfl rfl (by kernel_rfl) (by kernel_rfl : _ = some 31) (fun _ _ _ h => h) fun a wr S => ?_
        have X := undrew S.ext
        exact wp_load (ev_of ((S.old 3 (by kernel_rfl)).trans rfl)) (Pb.below X) (done (by kernel_rfl) rbu_refl (Qb.below X))
      · refine rs_yes rfl rfl (by kernel_rfl) (by kernel_rfl : _ = some 31) (fun _ _ _ h => h) fun a wr S => ?_
        have X := undrew S.ext
        obtain ⟨v12, e12, h12⟩ := S.got 12 (by kernel_rfl)
        exact st_call cf_big_Text (args1 (ev_of (e12 33 (by kernel_rfl)))) (by kernel_rfl) rb (cText h12 (by omega)) (fun _ _ _ h => h)
      · refine rs_yes rfl rfl (by kernel_rfl) (by kernel_rfl : _ = some 31) (fun _ _ _ h => h) fun a wr S => ?_
        have X := undrew S.ext
        obtain ⟨v11, e11, h11⟩ := S.got 11 (by kernel_rfl)
        obtain ⟨v13, e13, h13⟩ := S.got 13 (by kernel_rfl)
        obtain ⟨sy, hsy, bsy⟩ := (show IsS _ _ from h13)
        exact wp_eqS ((ev_of (e11 32 (by kernel_rfl))).trans h11) ((ev_of (e13 34 (by kernel_rfl))).trans hsy) (done (by kernel_rfl) rbu_refl (congrArg Value.bool (neT HT2.out bsy HEQ.out)))
      · refine rs_yes rfl rfl (by kernel_rfl) (by kernel_rfl : _ = some 31) (fun _ _ _ h => h) fun a wr S => ?_
        have X := undrew S.ext
        exact wp_load (ev_of ((S.old 2 (by kernel_rfl)).trans rfl)) (Pa.below X) (done (by kernel_rfl) rbu_refl (Qa.below X))
      · refine rs_yes rfl rfl (by kernel_rfl) (by kernel_rfl : _ = some 31) (fun _ _ _ h => h) fun a wr S => ?_
        have X := undrew S.ext
        exact wp_load (ev_of ((S.old 3 (by kernel_rfl)).trans rfl)) (Pb.below X) (done (by kernel_rfl) rbu_refl (Qb.below X))
      · refine rs_yes rfl rfl (by kernel_rfl) (by kernel_rfl : _ = some 31) (fun _ _ _ h => h) fun a wr S => ?_
        have X := undrew S.ext
        obtain ⟨v15, e15, h15⟩ := S.got 15 (by kernel_rfl)
        obtain ⟨v16, e16, h16⟩ := S.got 16 (by kernel_rfl)
        exact st_call cf_big_Cmp (args2 (ev_of (e15 36 (by kernel_rfl))) (ev_of (e16 37 (by kernel_rfl)))) (by kernel_rfl) rb (cCmp h15 h16 (by omega) (by omega) HC.out) (fun _ _ _ h => h)
      · refine rs_yes rfl rfl (by kernel_rfl) (by kernel_rfl : _ = some 31) (fun _ _ _ h => h) fun a wr S => ?_
        have X := undrew S.ext
        obtain ⟨v17, e17, h17⟩ := S.got 17 (by kernel_rfl)
        exact wp_eqI ((ev_of (e17 38 (by kernel_rfl))).trans h17) rfl (Or.inl rfl) (done (by kernel_rfl) rbu_refl (congrArg Value.bool HQ.out))
      · refine rs_yes rfl rfl (by kernel_rfl) (by kernel_rfl : _ = some 31) (fun _ _ _ h => h) fun a wr S => ?_
        have X := undrew S.ext
        obtain ⟨v14, e14, h14⟩ := S.got 14 (by kernel_rfl)
        obtain ⟨v18, e18, h18⟩ := S.got 18 (by kernel_rfl)
        exact wp_neB ((ev_of (e14 35 (by kernel_rfl))).trans h14) ((ev_of (e18 39 (by kernel_rfl))).trans h18) (done (by kernel_rfl) rbu_refl (congrArg Value.bool (by decide)))
      · refine rs_plain rfl rfl fun a wr S => ?_
        have X := undrew S.ext
        obtain ⟨v10, e10, h10⟩ := S.got 10 (by kernel_rfl)
        obtain ⟨v19, e19, h19⟩ := S.got 19 (by kernel_rfl)
        exact wp_pickF ((ev_of (e10 31 (by kernel_rfl))).trans h10) ((ev_of (e19 40 (by kernel_rfl))).trans h19) (done (by kernel_rfl) rbu_refl rfl)
      · refine rs_plain rfl rfl fun a wr S => ?_
        have X := undrew S.ext
        obtain ⟨v20, e20, h20⟩ := S.got 20 (by kernel_rfl)
        exact wp_mv ((ev_of (e20 41 (by kernel_rfl))).trans h20) (done (by kernel_rfl) rbu_refl rfl)
      · refine rs_yes rfl rfl (by kernel_rfl) (by kernel_rfl : _ = some 42) (fun _ _ _ h => h) fun a wr S => ?_
        have X := undrew S.ext
        exact wp_mv (ev_of ((S.old 5 (by kernel_rfl)).trans rfl)) (done (by kernel_rfl) rbu_refl rfl)
      · refine rs_yes rfl rfl (by kernel_rfl) (by kernel_rfl : _ = some 42) (fun _ _ _ h => h) fun a wr S => ?_
        have X := undrew S.ext
        obtain ⟨v22, e22, h22⟩ := S.got 22 (by kernel_rfl)
        exact wp_idxT ((ev_of (e22 43 (by kernel_rfl))).trans h22) (HT2.out.trans HX.out) (done (by kernel_rfl) rbu_refl rfl)
      · refine rs_yes rfl rfl (by kernel_rfl) (by kernel_rfl : _ = some 42) (fun _ _ _ h => h) fun a wr S => ?_
        have X := undrew S.ext
        obtain ⟨v23, e23, h23⟩ := S.got 23 (by kernel_rfl)
        exact wp_eqU8 ((ev_of (e23 44 (by kernel_rfl))).trans h23) rfl (done (by kernel_rfl) rbu_refl (congrArg Value.bool HX45.out))
      · refine rs_yes rfl rfl (by kernel_rfl) (by kernel_rfl : _ = some 42) (fun _ _ _ h => h) fun a wr S => ?_
        have X := undrew S.ext
        exact wp_load (ev_of ((S.old 2 (by kernel_rfl)).trans rfl)) (Pa.below X) (done (by kernel_rfl) rbu_refl (Qa.below X))
      · refine rs_yes rfl rfl (by kernel_rfl) (by kernel_rfl : _ = some 42) (fun _ _ _ h => h) fun a wr S => ?_
        have X := undrew S.ext
        obtain ⟨v25, e25, h25⟩ := S.got 25 (by kernel_rfl)
        exact st_call cf_big_Sign (args1 (ev_of (e25 46 (by kernel_rfl)))) (by kernel_rfl) rb (cSign h25 (by omega) HS.out) (fun _ _ _ h => h)
      · refine rs_yes rfl rfl (by kernel_rfl) (by kernel_rfl : _ = some 42) (fun _ _ _ h => h) fun a wr S => ?_
        have X := undrew S.ext
        obtain ⟨v26, e26, h26⟩ := S.got 26 (by kernel_rfl)
        exact wp_ltI ((ev_of (e26 47 (by kernel_rfl))).trans h26) rfl (done (by kernel_rfl) rbu_refl (congrArg Value.bool (by decide)))
      · refine rs_yes rfl rfl (by kernel_rfl) (by kernel_rfl : _ = some 42) (fun _ _ _ h => h) fun a wr S => ?_
        have X := undrew S.ext
        obtain ⟨v24, e24, h24⟩ := S.got 24 (by kernel_rfl)
        obtain ⟨v27, e27, h27⟩ := S.got 27 (by kernel_rfl)
        exact wp_neB ((ev_of (e24 45 (by kernel_rfl))).trans h24) ((ev_of (e27 48 (by kernel_rfl))).trans h27) (done (by kernel_rfl) rbu_refl (congrArg Value.bool (by decide)))
      · refine rs_plain rfl rfl fun a wr S => ?_
        have X := undrew S.ext
        obtain ⟨v21, e21, h21⟩ := S.got 21 (by kernel_rfl)
        obtain ⟨v28, e28, h28⟩ := S.got 28 (by kernel_rfl)
        exact wp_pickF ((ev_of (e21 42 (by kernel_rfl))).trans h21) ((ev_of (e28 49 (by kernel_rfl))).trans h28) (done (by kernel_rfl) rbu_refl rfl)
    · intro f5_ w5 hR hv
      replace hR := undrew hR
      have f0 : f5_ 0 = .bool true := (hvc (hv 0 (by omega))).elim fun _ h => h
      have f1 : f5_ 1 = .bool false := (hvc (hv 1 (by omega))).elim fun _ h => h
      have f2 : f5_ 2 = .bool false := (hvc (hv 2 (by omega))).elim fun _ h => h
      have f7 : f5_ 7 = .bool true := (hvc (hv 7 (by omega))).elim fun _ h => h
      have f8 : f5_ 8 = .bool false := (hvc (hv 8 (by omega))).elim fun _ h => h
      have f9 : f5_ 9 = .bool false := (hvc (hv 9 (by omega))).elim fun _ h => h
      have f10 : f5_ 10 = .bool false := (hvc (hv 10 (by omega))).elim fun _ h => h
      have f11 : f5_ 11 = .string t2 := (hvc (hv 11 (by omega))).elim fun _ h => h
      have f14 : f5_ 14 = .bool false := (hvc (hv 14 (by omega))).elim fun _ h => h
      have f17 : f5_ 17 = .int .i64 qc := (hvc (hv 17 (by omega))).elim fun _ h => h
      have f18 : f5_ 18 = .bool false := (hvc (hv 18 (by omega))).elim fun _ h => h
      have f19 : f5_ 19 = .bool false := (hvc (hv 19 (by omega))).elim fun _ h => h
      have f20 : f5_ 20 = .bool false := (hvc (hv 20 (by omega))).elim fun _ h => h
      have f21 : f5_ 21 = .bool false := (hvc (hv 21 (by omega))).elim fun _ h => h
      have f22 : f5_ 22 = .string t2 := (hvc (hv 22 (by omega))).elim fun _ h => h
      have f23 : f5_ 23 = .int .u8 (xb : Nat) := (hvc (hv 23 (by omega))).elim fun _ h => h
      have f24 : f5_ 24 = .bool true := (hvc (hv 24 (by omega))).elim fun _ h => h
      have f26 : f5_ 26 = .int .i64 (-1) := (hvc (hv 26 (by omega))).elim fun _ h => h
      have f27 : f5_ 27 = .bool true := (hvc (hv 27 (by omega))).elim fun _ h => h
      have f28 : f5_ 28 = .bool false := (hvc (hv 28 (by omega))).elim fun _ h => h
      have f29 : f5_ 29 = .bool false := (hvc (hv 29 (by omega))).elim fun _ h => h
      simp only [putFn, Act.put, List.setIfInBounds_toArray, List.set_cons_zero, List.set_cons_succ, f0, f1, f2, f7, f8, f9, f10, f11, f14, f17, f18, f19, f20, f21, f22, f23, f24, f26, f27, f28, f29]
      replace Pa := Pa.below hR
      replace Pb := Pb.below hR
      replace Qa := Qa.below hR
      replace Qb := Qb.below hR
      replace q3 := q3.below hR
      replace P4 := P4.below hR
      replace BB := bl_trans BB hR
      clear hR
      clear hv
      go_wp2_with fail
      refine wp_region_list (Ext := RB) (Rel := RBu) [fun v _ w => IsM w v (za) 15, fun v _ _ => v = .int .i64 (-1), fun v _ _ => v = .bool false, fun v _ _ => v = .bool false, fun v _ w => IsM w v (za) 15, fun v _ w => IsZ (w5).heap.size w v (10) 2, fun v _ w => IsR2 w v (za) 15 (10) 2, fun v _ w => IsZ (w5).heap.size w v (za * 10) 17, fun v _ _ => IsS v (txtZ (za * 10)), fun v _ _ => v = .string t2, fun v _ _ => v = .string (t2 ++ { data := #[48] }), fun v _ _ => v = .bool true, fun v _ _ => v = .bool true, fun v _ _ => v = .bool true] (n := 14) (by kernel_rfl) rfl (by kernel_rfl) (by kernel_rfl) (by kernel_rfl) (by kernel_rfl) (by kernel_rfl) rb_refl rb_trans ⟨sM, ⟨sC, ⟨sC, ⟨sC, ⟨sM, ⟨sZ, ⟨sR2, ⟨sZ, ⟨sS, ⟨sC, ⟨sC, ⟨sC, ⟨sC, ⟨sC, trivial⟩⟩⟩⟩⟩⟩⟩⟩⟩⟩⟩⟩⟩⟩ ?_ ?_
      · refine ⟨⟨⟨⟨⟨⟨⟨⟨⟨⟨⟨⟨⟨⟨trivial, ?_⟩, ?_⟩, ?_⟩, ?_⟩, ?_⟩, ?_⟩, ?_⟩, ?_⟩, ?_⟩, ?_⟩, ?_⟩, ?_⟩, ?_⟩, ?_⟩
        · refine rs_plain rfl rfl fun a wr S => ?_
          have X := undrew S.ext
          exact wp_load (ev_of ((S.old 2 (by kernel_rfl)).trans rfl)) (Pa.below X) (done (by kernel_rfl) rbu_refl (Qa.below X))
        · refine rs_plain rfl rfl fun a wr S => ?_
          have X := undrew S.ext
          obtain ⟨v0, e0, h0⟩ := S.got 0 (by kernel_rfl)
          exact st_call cf_big_Sign (args1 (ev_of (e0 51 (by kernel_rfl)))) (by kernel_rfl) rb (cSign h0 (by omega) HS.out) (fun _ _ _ h => h)
        · refine rs_plain rfl rfl fun a wr S => ?_
          have X := undrew S.ext
          obtain ⟨v1, e1, h1⟩ := S.got 1 (by kernel_rfl)
          exact wp_eqI ((ev_of (e1 52 (by kernel_rfl))).trans h1) rfl (Or.inl rfl) (done (by kernel_rfl) rbu_refl (congrArg Value.bool (by decide)))
        · refine rs_plain rfl rfl fun a wr S => ?_
          have X := undrew S.ext
          obtain ⟨v2, e2, h2⟩ := S.got 2 (by kernel_rfl)
          exact wp_mv ((ev_of (e2 53 (by kernel_rfl))).trans h2) (done (by kernel_rfl) rbu_refl rfl)
        · refine rs_yes rfl rfl (by kernel_rfl) (by kernel_rfl : _ = some 54) (fun _ _ _ h => h) fun a wr S => ?_
          have X := undrew S.ext
          exact wp_load (ev_of ((S.old 2 (by kernel_rfl)).trans rfl)) (Pa.below X) (done (by kernel_rfl) rbu_refl (Qa.below X))
        · refine rs_yes rfl rfl (by kernel_rfl) (by kernel_rfl : _ = some 54) (fun _ _ _ h => h) fun a wr S => ?_
          have X := undrew S.ext
          exact st_call cf_big_From (args1 rfl) (by kernel_rfl) rb (cFrom _ (by omega) (by omega) X.size) (fun _ _ _ h => h)
        · refine rs_yes rfl rfl (by kernel_rfl) (by kernel_rfl : _ = some 54) (fun _ _ _ h => h) fun a wr S => ?_
          have X := undrew S.ext
          obtain ⟨v4, e4, h4⟩ := S.got 4 (by kernel_rfl)
          obtain ⟨v5, e5, h5⟩ := S.got 5 (by kernel_rfl)
          obtain ⟨b0, A0, n0, c0, hv0, Z0⟩ := (show IsM wr _ _ _ from h4)
          obtain ⟨b1, A1, n1, c1, hv1, Z1⟩ := (show IsM wr _ _ _ from h5.m)
          exact wp_bs2 ((ev_of (e4 55 (by kernel_rfl))).trans hv0) ((ev_of (e5 56 (by kernel_rfl))).trans hv1) (done' (by kernel_rfl) (rb _ _ _ (bl_alloc _ _)) (IsR2.new Z0 Z1))
        · refine rs_yes rfl rfl (by kernel_rfl) (by kernel_rfl : _ = some 54) (fun _ _ _ h => h) fun a wr S => ?_
          have X := undrew S.ext
          obtain ⟨v6, e6, h6⟩ := S.got 6 (by kernel_rfl)
          exact st_call cf_big_Mul (args1 (ev_of (e6 57 (by kernel_rfl)))) (by kernel_rfl) rb (cMul2 (z := za) (u := 10) h6 (by omega) (by omega) (by omega) X.size) (fun _ _ _ h => h)
        · refine rs_yes rfl rfl (by kernel_rfl) (by kernel_rfl : _ = some 54) (fun _ _ _ h => h) fun a wr S => ?_
          have X := undrew S.ext
          obtain ⟨v7, e7, h7⟩ := S.got 7 (by kernel_rfl)
          exact st_call cf_big_Text (args1 (ev_of (e7 58 (by kernel_rfl)))) (by kernel_rfl) rb (cText h7.m (by omega)) (fun _ _ _ h => h)
        · refine rs_yes rfl rfl (by kernel_rfl) (by kernel_rfl : _ = some 54) (fun _ _ _ h => h) fun a wr S => ?_
          have X := undrew S.ext
          exact wp_mv (ev_of ((S.old 5 (by kernel_rfl)).trans rfl)) (done (by kernel_rfl) rbu_refl rfl)
        · refine rs_yes rfl rfl (by kernel_rfl) (by kernel_rfl : _ = some 54) (fun _ _ _ h => h) fun a wr S => ?_
          have X := undrew S.ext
          obtain ⟨v9, e9, h9⟩ := S.got 9 (by kernel_rfl)
          exact wp_addS ((ev_of (e9 60 (by kernel_rfl))).trans h9) rfl (by omega) (by decide) (done (by kernel_rfl) rbu_refl rfl)
        · refine rs_yes rfl rfl (by kernel_rfl) (by kernel_rfl : _ = some 54) (fun _ _ _ h => h) fun a wr S => ?_
          have X := undrew S.ext
          obtain ⟨v8, e8, h8⟩ := S.got 8 (by kernel_rfl)
          obtain ⟨v10, e10, h10⟩ := S.got 10 (by kernel_rfl)
          obtain ⟨sx, hsx, bsx⟩ := (show IsS _ _ from h8)
          exact wp_eqS ((ev_of (e8 59 (by kernel_rfl))).trans hsx) ((ev_of (e10 61 (by kernel_rfl))).trans h10) (done (by kernel_rfl) rbu_refl (congrArg Value.bool (tenT bsx HT2.out HNZ.out)))
        · refine rs_plain rfl rfl fun a wr S => ?_
          have X := undrew S.ext
          obtain ⟨v3, e3, h3⟩ := S.got 3 (by kernel_rfl)
          obtain ⟨v11, e11, h11⟩ := S.got 11 (by kernel_rfl)
          exact wp_pickF ((ev_of (e3 54 (by kernel_rfl))).trans h3) ((ev_of (e11 62 (by kernel_rfl))).trans h11) (done (by kernel_rfl) rbu_refl rfl)
        · refine rs_plain rfl rfl fun a wr S => ?_
          have X := undrew S.ext
          obtain ⟨v12, e12, h12⟩ := S.got 12 (by kernel_rfl)
          exact wp_as ((ev_of (e12 63 (by kernel_rfl))).trans h12) (done (by kernel_rfl) rbu_refl rfl)
      · intro f6_ w6 hR hv
        replace hR := undrew hR
        have f1 : f6_ 1 = .int .i64 (-1) := (hvc (hv 1 (by omega))).elim fun _ h => h
        have f2 : f6_ 2 = .bool false := (hvc (hv 2 (by omega))).elim fun _ h => h
        have f3 : f6_ 3 = .bool false := (hvc (hv 3 (by omega))).elim fun _ h => h
        have f9 : f6_ 9 = .string t2 := (hvc (hv 9 (by omega))).elim fun _ h => h
        have f10 : f6_ 10 = .string (t2 ++ { data := #[48] }) := (hvc (hv 10 (by omega))).elim fun _ h => h
        have f11 : f6_ 11 = .bool true := (hvc (hv 11 (by omega))).elim fun _ h => h
        have f12 : f6_ 12 = .bool true := (hvc (hv 12 (by omega))).elim fun _ h => h
        have f13 : f6_ 13 = .bool true := (hvc (hv 13 (by omega))).elim fun _ h => h
        simp only [putFn, Act.put, List.setIfInBounds_toArray, List.set_cons_zero, List.set_cons_succ, f1, f2, f3, f9, f10, f11, f12, f13]
        replace Pa := Pa.below hR
        replace Pb := Pb.below hR
        replace Qa := Qa.below hR
        replace Qb := Qb.below hR
        replace q3 := q3.below hR
        replace P4 := P4.below hR
        replace BB := bl_trans BB hR
        clear hR
        clear hv
        go_wp2_with fail
        go_ret
        exact ⟨rfl, BB⟩

set_option maxHeartbeats 4000000 in
theorem bigTexts_0z (sa : Bool) (Aa : Option Addr) (na ca : Nat) (xa : List Nat) (sb : Bool) (Ab : Option Addr) (nb cb : Nat) (xs : List Nat) (za zb : Int) (w : World) (Ha : Hid (Rd w Aa na ca xa)) (Hb : Hid (Rd w Ab nb cb xs)) (Ga : Hid (na ≤ maxLen)) (Gb : Hid (nb ≤ maxLen)) (HZa : Hid (za = zv sa (M.val (xa.take (min na 15))))) (HZb : Hid (zb = zv sb (M.val (xs.take (min nb 15))))) (HLT : Hid (za.natAbs < M.R ^ 15)) (xb : Nat) (lb : List Nat) (HX : Hid (txtZ za = xb :: lb)) (HEQ : Hid (za ≠ zb)) (qc : Int) (HC : Hid (cmpI za zb = qc)) (HQ : Hid ((qc == 0) = false)) (HX45 : Hid (((xb : Int) == 45) = false)) (HS : Hid (sgn za = 0)) : Calls Try.prog 10 #[.agg #[.bool sa, .slice Aa na ca], .agg #[.bool sb, .slice Ab nb cb]] w fun e w' => e = .returned (.bool true) ∧ Below w.heap.size w w' := by
  have Pa := (Bz.new w sa Aa na ca).alloc (.cells #[.bool sb, .slice Ab nb cb] 32)
  have Pb := Bz.new2 w (.cells #[.bool sa, .slice Aa na ca] 32) sb Ab nb cb
  have BB := bl_trans (bl_alloc w (.cells #[.bool sa, .slice Aa na ca] 32)) (bl_alloc _ (.cells #[.bool sb, .slice Ab nb cb] 32))
  go_enter Try.func10, Try.ntmps10
  go_wp2_with fail
  refine (cWorks _).mono ?_
  rintro e w1 ⟨_, rfl, hb1, rfl⟩
  replace Pa := Pa.below hb1
  replace Pb := Pb.below hb1
  replace BB := bl_trans BB hb1
  clear hb1
  have Fa := Lib.hid (show ∀ W, Below w.heap.size w W → Calls Try.prog 18 #[.agg #[.bool sa, .slice Aa na ca], .int .i64 15] W (Ans W fun _ v => v = .agg #[.bool sa, .slice Aa (min na 15) ca]) from fun W h => cFew (Ha.out.below h) Ga.out 15 _ rfl (by omega))
  have Fb := Lib.hid (show ∀ W, Below w.heap.size w W → Calls Try.prog 18 #[.agg #[.bool sb, .slice Ab nb cb], .int .i64 15] W (Ans W fun _ v => v = .agg #[.bool sb, .slice Ab (min nb 15) cb]) from fun W h => cFew (Hb.out.below h) Gb.out 15 _ rfl (by omega))
  have Pa_0 := Pa.c0
  have Pa_1 := Pa.c1
  have Pb_0 := Pb.c0
  have Pb_1 := Pb.c1
  go_wp2_with fail
  go_region_with (first
    | (go_at_call 18; ((with_reducible refine (Fa.out _ (Below.drew BB)).mono ?_); rintro e wf ⟨_, rfl, hf, rfl⟩; replace BB := bl_trans (Below.drew BB) hf; replace Pa := (Pa.drew).below hf; replace Pb := (Pb.drew).below hf; have Pa_2 := Pa.c0; have Pa_3 := Pa.c1; have Pb_2 := Pb.c0; have Pb_3 := Pb.c1; clear hf))
    | (go_at_call 18; ((with_reducible refine (Fb.out _ BB).mono ?_); rintro e wg ⟨_, rfl, hf, rfl⟩; replace BB := bl_trans BB hf; replace Pa := Pa.below hf; replace Pb := Pb.below hf; have Pa_4 := Pa.c0; have Pa_5 := Pa.c1; have Pb_4 := Pb.c0; have Pb_5 := Pb.c1; have Pa_6 := Pa.f 0; have Pa_7 := Pa.f 1; have Pb_6 := Pb.f 0; have Pb_7 := Pb.f 1; clear hf)))
  all_goals
    have st := two_store (s := sa) (A := Aa) (n := min na 15) (c := ca) (t := sb) (B := Ab) (m := min nb 15) (d := cb) Pa Pb (by omega) BB (Nat.le_refl _) (by omega)
    clear Pa_0 Pa_1 Pb_0 Pb_1 Pa_2 Pa_3 Pb_2 Pb_3 Pa_4 Pa_5 Pb_4 Pb_5 Pa_6 Pa_7 Pb_6 Pb_7
    replace Pa := st.1
    replace Pb := st.2.1
    replace BB := st.2.2
    clear st
    have Qa : IsM ((((wg.setCell ⟨w.heap.size, 0, none⟩ (.bool sa)).setCell ⟨w.heap.size, 1, none⟩ (.slice Aa (min na 15) ca)).setCell ⟨w.heap.size + 1, 0, none⟩ (.bool sb)).setCell ⟨w.heap.size + 1, 1, none⟩ (.slice Ab (min nb 15) cb)) (.agg #[.bool sa, .slice Aa (min na 15) ca]) za 15 := ⟨_, _, _, _, rfl, by rw [HZa.out]; exact few_zm (Ha.out.below BB) 15⟩
    have Qb : IsM ((((wg.setCell ⟨w.heap.size, 0, none⟩ (.bool sa)).setCell ⟨w.heap.size, 1, none⟩ (.slice Aa (min na 15) ca)).setCell ⟨w.heap.size + 1, 0, none⟩ (.bool sb)).setCell ⟨w.heap.size + 1, 1, none⟩ (.slice Ab (min nb 15) cb)) (.agg #[.bool sb, .slice Ab (min nb 15) cb]) zb 15 := ⟨_, _, _, _, rfl, by rw [HZb.out]; exact few_zm (Hb.out.below BB) 15⟩
    generalize ((((wg.setCell ⟨w.heap.size, 0, none⟩ (.bool sa)).setCell ⟨w.heap.size, 1, none⟩ (.slice Aa (min na 15) ca)).setCell ⟨w.heap.size + 1, 0, none⟩ (.bool sb)).setCell ⟨w.heap.size + 1, 1, none⟩ (.slice Ab (min nb 15) cb)) = wh at Pa Pb BB Qa Qb ⊢
    clear Ha Hb Ga Gb HZa HZb Fa Fb
    have Pa_0 := Pa.c0
    have Pa_1 := Pa.c1
    go_wp2_with fail
    refine (cText Qa (by omega)).mono ?_
    rintro e w2 ⟨_, rfl, hb2, t2, rfl, ht2⟩
    clear Pa_0 Pa_1
    replace Pa := Pa.below hb2
    replace Pb := Pb.below hb2
    replace Qa := Qa.below hb2
    replace Qb := Qb.below hb2
    replace BB := bl_trans BB hb2
    clear hb2
    have HT2 := Lib.hid ht2
    clear ht2
    have HI := txtZ_is HT2.out
    have hsz : t2.size ≤ 152 := txtZ_size HT2.out HLT.out
    go_wp2_with fail
    refine (cParse (k := 15) t2 (by omega) HI.1 (by rw [HI.2]; exact HLT.out) (Nat.le_refl _)).mono ?_
    rintro e w3 ⟨_, rfl, hb3, b3, A3, n3, c3, rfl, Z3⟩
    replace Pa := Pa.below hb3
    replace Pb := Pb.below hb3
    replace Qa := Qa.below hb3
    replace Qb := Qb.below hb3
    replace BB := bl_trans BB hb3
    clear hb3
    have q3 : IsZ _ w3 (.agg #[.bool b3, .slice A3 n3 c3]) (valZ t2) 15 := ⟨_, _, _, _, rfl, Z3⟩
    clear Z3
    replace BB := bl_trans BB (bl_alloc w3 (.cells #[.bool b3, .slice A3 n3 c3] 32))
    replace Pa := Pa.below (bl_alloc _ (.cells #[.bool b3, .slice A3 n3 c3] 32))
    replace Pb := Pb.below (bl_alloc _ (.cells #[.bool b3, .slice A3 n3 c3] 32))
    replace Qa := Qa.below (bl_alloc _ (.cells #[.bool b3, .slice A3 n3 c3] 32))
    replace Qb := Qb.below (bl_alloc _ (.cells #[.bool b3, .slice A3 n3 c3] 32))
    replace q3 := q3.below (bl_alloc _ (.cells #[.bool b3, .slice A3 n3 c3] 32))
    have P4 := Bz.new w3 b3 A3 n3 c3
    go_wp2_with fail
    refine wp_region_list (Ext := RB) (Rel := RBu) [fun v _ _ => v = .bool true, fun v _ _ => v = .bool false, fun v _ _ => v = .bool false, fun v _ w => IsT w v (valZ t2) 15, fun v _ w => IsM w v (za) 15, fun v _ w => IsR1 w v (za) 15, fun v _ w => IsZ ((w3.alloc (.cells #[.bool b3, .slice A3 n3 c3] 32))).heap.size w v (za) 16, fun v _ _ => v = .bool true, fun v _ _ => v = .bool false, fun v _ _ => v = .bool false, fun v _ _ => v = .bool false, fun v _ _ => v = .string t2, fun v _ w => IsM w v (zb) 15, fun v _ _ => IsS v (txtZ zb), fun v _ _ => v = .bool false, fun v _ w => IsM w v (za) 15, fun v _ w => IsM w v (zb) 15, fun v _ _ => v = .int .i64 qc, fun v _ _ => v = .bool false, fun v _ _ => v = .bool false, fun v _ _ => v = .bool false, fun v _ _ => v = .bool false, fun v _ _ => v = .string t2, fun v _ _ => v = .int .u8 (xb : Nat), fun v _ _ => v = .bool false, fun v _ w => IsM w v (za) 15, fun v _ _ => v = .int .i64 0, fun v _ _ => v = .bool false, fun v _ _ => v = .bool false, fun v _ _ => v = .bool false] (n := 30) (by kernel_rfl) rfl (by kernel_rfl) (by kernel_rfl) (by kernel_rfl) (by kernel_rfl) (by kernel_rfl) rb_refl rb_trans ⟨sC, ⟨sC, ⟨sC, ⟨sT, ⟨sM, ⟨sR1, ⟨sZ, ⟨sC, ⟨sC, ⟨sC, ⟨sC, ⟨sC, ⟨sM, ⟨sS, ⟨sC, ⟨sM, ⟨sM, ⟨sC, ⟨sC, ⟨sC, ⟨sC, ⟨sC, ⟨sC, ⟨sC, ⟨sC, ⟨sM, ⟨sC, ⟨sC, ⟨sC, ⟨sC, trivial⟩⟩⟩⟩⟩⟩⟩⟩⟩⟩⟩⟩⟩⟩⟩⟩⟩⟩⟩⟩⟩⟩⟩⟩⟩⟩⟩⟩⟩⟩ ?_ ?_
    · refine ⟨⟨⟨⟨⟨⟨⟨⟨⟨⟨⟨⟨⟨⟨⟨⟨⟨⟨⟨⟨⟨⟨⟨⟨⟨⟨⟨⟨⟨⟨trivial, ?_⟩, ?_⟩, ?_⟩, ?_⟩, ?_⟩, ?_⟩, ?_⟩, ?_⟩, ?_⟩, ?_⟩, ?_⟩, ?_⟩, ?_⟩, ?_⟩, ?_⟩, ?_⟩, ?_⟩, ?_⟩, ?_⟩, ?_⟩, ?_⟩, ?_⟩, ?_⟩, ?_⟩, ?_⟩, ?_⟩, ?_⟩, ?_⟩, ?_⟩, ?_⟩
      · refine rs_plain rfl rfl fun a wr S => ?_
        have X := undrew S.ext
        exact wp_mv (ev_of ((S.old 7 (by kernel_rfl)).trans rfl)) (done (by kernel_rfl) rbu_refl rfl)
      · refine rs_plain rfl rfl fun a wr S => ?_
        have X := undrew S.ext
        obtain ⟨v0, e0, h0⟩ := S.got 0 (by kernel_rfl)
        exact wp_not ((ev_of (e0 21 (by kernel_rfl))).trans h0) (done (by kernel_rfl) rbu_refl rfl)
      · refine rs_plain rfl rfl fun a wr S => ?_
        have X := undrew S.ext
        obtain ⟨v1, e1, h1⟩ := S.got 1 (by kernel_rfl)
        exact wp_mv ((ev_of (e1 22 (by kernel_rfl))).trans h1) (done (by kernel_rfl) rbu_refl rfl)
      · refine rs_yes rfl rfl (by kernel_rfl) (by kernel_rfl : _ = some 23) (fun _ _ _ h => h) fun a wr S => ?_
        have X := undrew S.ext
        exact wp_load (ev_of ((S.old 6 (by kernel_rfl)).trans rfl)) (P4.below X) (done (by kernel_rfl) rbu_refl (q3.below X).t)
      · refine rs_yes rfl rfl (by kernel_rfl) (by kernel_rfl : _ = some 23) (fun _ _ _ h => h) fun a wr S => ?_
        have X := undrew S.ext
        exact wp_load (ev_of ((S.old 2 (by kernel_rfl)).trans rfl)) (Pa.below X) (done (by kernel_rfl) rbu_refl (Qa.below X))
      · refine rs_yes rfl rfl (by kernel_rfl) (by kernel_rfl : _ = some 23) (fun _ _ _ h => h) fun a wr S => ?_
        have X := undrew S.ext
        obtain ⟨v4, e4, h4⟩ := S.got 4 (by kernel_rfl)
        obtain ⟨b0, A0, n0, c0, hv0, Z0⟩ := (show IsM wr _ _ _ from h4)
        exact wp_bs1 ((ev_of (e4 25 (by kernel_rfl))).trans hv0) (done' (by kernel_rfl) (rb _ _ _ (bl_alloc _ _)) (IsR1.new Z0))
      · refine rs_yes rfl rfl (by kernel_rfl) (by kernel_rfl : _ = some 23) (fun _ _ _ h => h) fun a wr S => ?_
        have X := undrew S.ext
        obtain ⟨v5, e5, h5⟩ := S.got 5 (by kernel_rfl)
        exact st_call cf_big_Add (args1 (ev_of (e5 26 (by kernel_rfl)))) (by kernel_rfl) rb (cAdd1 h5 (by omega) X.size) (fun _ _ _ h => h)
      · refine rs_yes rfl rfl (by kernel_rfl) (by kernel_rfl : _ = some 23) (fun _ _ _ h => h) fun a wr S => ?_
        have X := undrew S.ext
        obtain ⟨v3, e3, h3⟩ := S.got 3 (by kernel_rfl)
        obtain ⟨v6, e6, h6⟩ := S.got 6 (by kernel_rfl)
        exact st_call cf_law02_same (args2 (ev_of (e3 24 (by kernel_rfl))) (ev_of (e6 27 (by kernel_rfl)))) (by kernel_rfl) rb (cSame h3 h6.t (by omega) (by omega) (decide_eq_true (HI.2))) (fun _ _ _ h => h)
      · refine rs_yes rfl rfl (by kernel_rfl) (by kernel_rfl : _ = some 23) (fun _ _ _ h => h) fun a wr S => ?_
        have X := undrew S.ext
        obtain ⟨v7, e7, h7⟩ := S.got 7 (by kernel_rfl)
        exact wp_not ((ev_of (e7 28 (by kernel_rfl))).trans h7) (done (by kernel_rfl) rbu_refl rfl)
      · refine rs_plain rfl rfl fun a wr S => ?_
        have X := undrew S.ext
        obtain ⟨v2, e2, h2⟩ := S.got 2 (by kernel_rfl)
        obtain ⟨v8, e8, h8⟩ := S.got 8 (by kernel_rfl)
        exact wp_pickF ((ev_of (e2 23 (by kernel_rfl))).trans h2) ((ev_of (e8 29 (by kernel_rfl))).trans h8) (done (by kernel_rfl) rbu_refl rfl)
      · refine rs_plain rfl rfl fun a wr S => ?_
        have X := undrew S.ext
        obtain ⟨v9, e9, h9⟩ := S.got 9 (by kernel_rfl)
        exact wp_mv ((ev_of (e9 30 (by kernel_rfl))).trans h9) (done (by kernel_rfl) rbu_refl rfl)
      · refine rs_yes rfl rfl (by kernel_rfl) (by kernel_rfl : _ = some 31) (fun _ _ _ h => h) fun a wr S => ?_
        have X := undrew S.ext
        exact wp_mv (ev_of ((S.old 5 (by kernel_rfl)).trans rfl)) (done (by kernel_rfl) rbu_refl rfl)
      · refine rs_yes rfl rfl (by kernel_rfl) (by kernel_rfl : _ = some 31) (fun _ _ _ h => h) fun a wr S => ?_
        have X := undrew S.ext
        exact wp_load (ev_of ((S.old 3 (by kernel_rfl)).trans rfl)) (Pb.below X) (done (by kernel_rfl) rbu_refl (Qb.below X))
      · refine rs_yes rfl rfl (by kernel_rfl) (by kernel_rfl : _ = some 31) (fun _ _ _ h => h) fun a wr S => ?_
        have X := undrew S.ext
        obtain ⟨v12, e12, h12⟩ := S.got 12 (by kernel_rfl)
        exact st_call cf_big_Text (args1 (ev_of (e12 33 (by kernel_rfl)))) (by kernel_rfl) rb (cText h12 (by omega)) (fun _ _ _ h => h)
      · refine rs_yes rfl rfl (by kernel_rfl) (by kernel_rfl : _ = some 31) (fun _ _ _ h => h) fun a wr S => ?_
        have X := undrew S.ext
        obtain ⟨v11, e11, h11⟩ := S.got 11 (by kernel_rfl)
        obtain ⟨v13, e13, h13⟩ := S.got 13 (by kernel_rfl)
        obtain ⟨sy, hsy, bsy⟩ := (show IsS _ _ from h13)
        exact wp_eqS ((ev_of (e11 32 (by kernel_rfl))).trans h11) ((ev_of (e13 34 (by kernel_rfl))).trans hsy) (done (by kernel_rfl) rbu_refl (congrArg Value.bool (neT HT2.out bsy HEQ.out)))
      · refine rs_yes rfl rfl (by kernel_rfl) (by kernel_rfl : _ = some 31) (fun _ _ _ h => h) fun a wr S => ?_
        have X := undrew S.ext
        exact wp_load (ev_of ((S.old 2 (by kernel_rfl)).trans rfl)) (Pa.below X) (done (by kernel_rfl) rbu_refl (Qa.below X))
      · refine rs_yes rfl rfl (by kernel_rfl) (by kernel_rfl : _ = some 31) (fun _ _ _ h => h) fun a wr S => ?_
        have X := undrew S.ext
        exact wp_load (ev_of ((S.old 3 (by kernel_rfl)).trans rfl)) (Pb.below X) (done (by kernel_rfl) rbu_refl (Qb.below X))
      · refine rs_yes rfl rfl (by kernel_rfl) (by kernel_rfl : _ = some 31) (fun _ _ _ h => h) fun a wr S => ?_
        have X := undrew S.ext
        obtain ⟨v15, e15, h15⟩ := S.got 15 (by kernel_rfl)
        obtain ⟨v16, e16, h16⟩ := S.got 16 (by kernel_rfl)
        exact st_call cf_big_Cmp (args2 (ev_of (e15 36 (by kernel_rfl))) (ev_of (e16 37 (by kernel_rfl)))) (by kernel_rfl) rb (cCmp h15 h16 (by omega) (by omega) HC.out) (fun _ _ _ h => h)
      · refine rs_yes rfl rfl (by kernel_rfl) (by kernel_rfl : _ = some 31) (fun _ _ _ h => h) fun a wr S => ?_
        have X := undrew S.ext
        obtain ⟨v17, e17, h17⟩ := S.got 17 (by kernel_rfl)
        exact wp_eqI ((ev_of (e17 38 (by kernel_rfl))).trans h17) rfl (Or.inl rfl) (done (by kernel_rfl) rbu_refl (congrArg Value.bool HQ.out))
      · refine rs_yes rfl rfl (by kernel_rfl) (by kernel_rfl : _ = some 31) (fun _ _ _ h => h) fun a wr S => ?_
        have X := undrew S.ext
        obtain ⟨v14, e14, h14⟩ := S.got 14 (by kernel_rfl)
        obtain ⟨v18, e18, h18⟩ := S.got 18 (by kernel_rfl)
        exact wp_neB ((ev_of (e14 35 (by kernel_rfl))).trans h14) ((ev_of (e18 39 (by kernel_rfl))).trans h18) (done (by kernel_rfl) rbu_refl (congrArg Value.bool (by decide)))
      · refine rs_plain rfl rfl fun a wr S => ?_
        have X := undrew S.ext
        obtain ⟨v10, e10, h10⟩ := S.got 10 (by kernel_rfl)
        obtain ⟨v19, e19, h19⟩ := S.got 19 (by kernel_rfl)
        exact wp_pickF ((ev_of (e10 31 (by kernel_rfl))).trans h10) ((ev_of (e19 40 (by kernel_rfl))).trans h19) (done (by kernel_rfl) rbu_refl rfl)
      · refine rs_plain rfl rfl fun a wr S => ?_
        have X := undrew S.ext
        obtain ⟨v20, e20, h20⟩ := S.got 20 (by kernel_rfl)
        exact wp_mv ((ev_of (e20 41 (by kernel_rfl))).trans h20) (done (by kernel_rfl) rbu_refl rfl)
      · refine rs_yes rfl rfl (by kernel_rfl) (by kernel_rfl : _ = some 42) (fun _ _ _ h => h) fun a wr S => ?_
        have X := undrew S.ext
        exact wp_mv (ev_of ((S.old 5 (by kernel_rfl)).trans rfl)) (done (by kernel_rfl) rbu_refl rfl)
      · refine rs_yes rfl rfl (by kernel_rfl) (by kernel_rfl : _ = some 42) (fun _ _ _ h => h) fun a wr S => ?_
        have X := undrew S.ext
        obtain ⟨v22, e22, h22⟩ := S.got 22 (by kernel_rfl)
        exact wp_idxT ((ev_of (e22 43 (by kernel_rfl))).trans h22) (HT2.out.trans HX.out) (done (by kernel_rfl) rbu_refl rfl)
      · refine rs_yes rfl rfl (by kernel_rfl) (by kernel_rfl : _ = some 42) (fun _ _ _ h => h) fun a wr S => ?_
        have X := undrew S.ext
        obtain ⟨v23, e23, h23⟩ := S.got 23 (by kernel_rfl)
        exact wp_eqU8 ((ev_of (e23 44 (by kernel_rfl))).trans h23) rfl (done (by kernel_rfl) rbu_refl (congrArg Value.bool HX45.out))
      · refine rs_yes rfl rfl (by kernel_rfl) (by kernel_rfl : _ = some 42) (fun _ _ _ h => h) fun a wr S => ?_
        have X := undrew S.ext
        exact wp_load (ev_of ((S.old 2 (by kernel_rfl)).trans rfl)) (Pa.below X) (done (by kernel_rfl) rbu_refl (Qa.below X))
      · refine rs_yes rfl rfl (by kernel_rfl) (by kernel_rfl : _ = some 42) (fun _ _ _ h => h) fun a wr S => ?_
        have X := undrew S.ext
        obtain ⟨v25, e25, h25⟩ := S.got 25 (by kernel_rfl)
        exact st_call cf_big_Sign (args1 (ev_of (e25 46 (by kernel_rfl)))) (by kernel_rfl) rb (cSign h25 (by omega) HS.out) (fun _ _ _ h => h)
      · refine rs_yes rfl rfl (by kernel_rfl) (by kernel_rfl : _ = some 42) (fun _ _ _ h => h) fun a wr S => ?_
        have X := undrew S.ext
        obtain ⟨v26, e26, h26⟩ := S.got 26 (by kernel_rfl)
        exact wp_ltI ((ev_of (e26 47 (by kernel_rfl))).trans h26) rfl (done (by kernel_rfl) rbu_refl (congrArg Value.bool (by decide)))
      · refine rs_yes rfl rfl (by kernel_rfl) (by kernel_rfl : _ = some 42) (fun _ _ _ h => h) fun a wr S => ?_
        have X := undrew S.ext
        obtain ⟨v24, e24, h24⟩ := S.got 24 (by kernel_rfl)
        obtain ⟨v27, e27, h27⟩ := S.got 27 (by kernel_rfl)
        exact wp_neB ((ev_of (e24 45 (by kernel_rfl))).trans h24) ((ev_of (e27 48 (by kernel_rfl))).trans h27) (done (by kernel_rfl) rbu_refl (congrArg Value.bool (by decide)))
      · refine rs_plain rfl rfl fun a wr S => ?_
        have X := undrew S.ext
        obtain ⟨v21, e21, h21⟩ := S.got 21 (by kernel_rfl)
        obtain ⟨v28, e28, h28⟩ := S.got 28 (by kernel_rfl)
        exact wp_pickF ((ev_of (e21 42 (by kernel_rfl))).trans h21) ((ev_of (e28 49 (by kernel_rfl))).trans h28) (done (by kernel_rfl) rbu_refl rfl)
    · intro f5_ w5 hR hv
      replace hR := undrew hR
      have f0 : f5_ 0 = .bool true := (hvc (hv 0 (by omega))).elim fun _ h => h
      have f1 : f5_ 1 = .bool false := (hvc (hv 1 (by omega))).elim fun _ h => h
      have f2 : f5_ 2 = .bool false := (hvc (hv 2 (by omega))).elim fun _ h => h
      have f7 : f5_ 7 = .bool true := (hvc (hv 7 (by omega))).elim fun _ h => h
      have f8 : f5_ 8 = .bool false := (hvc (hv 8 (by omega))).elim fun _ h => h
      have f9 : f5_ 9 = .bool false := (hvc (hv 9 (by omega))).elim fun _ h => h
      have f10 : f5_ 10 = .bool false := (hvc (hv 10 (by omega))).elim fun _ h => h
      have f11 : f5_ 11 = .string t2 := (hvc (hv 11 (by omega))).elim fun _ h => h
      have f14 : f5_ 14 = .bool false := (hvc (hv 14 (by omega))).elim fun _ h => h
      have f17 : f5_ 17 = .int .i64 qc := (hvc (hv 17 (by omega))).elim fun _ h => h
      have f18 : f5_ 18 = .bool false := (hvc (hv 18 (by omega))).elim fun _ h => h
      have f19 : f5_ 19 = .bool false := (hvc (hv 19 (by omega))).elim fun _ h => h
      have f20 : f5_ 20 = .bool false := (hvc (hv 20 (by omega))).elim fun _ h => h
      have f21 : f5_ 21 = .bool false := (hvc (hv 21 (by omega))).elim fun _ h => h
      have f22 : f5_ 22 = .string t2 := (hvc (hv 22 (by omega))).elim fun _ h => h
      have f23 : f5_ 23 = .int .u8 (xb : Nat) := (hvc (hv 23 (by omega))).elim fun _ h => h
      have f24 : f5_ 24 = .bool false := (hvc (hv 24 (by omega))).elim fun _ h => h
      have f26 : f5_ 26 = .int .i64 0 := (hvc (hv 26 (by omega))).elim fun _ h => h
      have f27 : f5_ 27 = .bool false := (hvc (hv 27 (by omega))).elim fun _ h => h
      have f28 : f5_ 28 = .bool false := (hvc (hv 28 (by omega))).elim fun _ h => h
      have f29 : f5_ 29 = .bool false := (hvc (hv 29 (by omega))).elim fun _ h => h
      simp only [putFn, Act.put, List.setIfInBounds_toArray, List.set_cons_zero, List.set_cons_succ, f0, f1, f2, f7, f8, f9, f10, f11, f14, f17, f18, f19, f20, f21, f22, f23, f24, f26, f27, f28, f29]
      replace Pa := Pa.below hR
      replace Pb := Pb.below hR
      replace Qa := Qa.below hR
      replace Qb := Qb.below hR
      replace q3 := q3.below hR
      replace P4 := P4.below hR
      replace BB := bl_trans BB hR
      clear hR
      clear hv
      go_wp2_with fail
      refine wp_region_list (Ext := RB) (Rel := RBu) [fun v _ w => IsM w v (za) 15, fun v _ _ => v = .int .i64 0, fun v _ _ => v = .bool true, fun v _ _ => v = .bool true, fun v _ _ => v = undef, fun v _ _ => v = undef, fun v _ _ => v = undef, fun v _ _ => v = undef, fun v _ _ => v = undef, fun v _ _ => v = undef, fun v _ _ => v = undef, fun v _ _ => v = undef, fun v _ _ => v = Value.bool true, fun v _ _ => v = Value.bool true] (n := 14) (by kernel_rfl) rfl (by kernel_rfl) (by kernel_rfl) (by kernel_rfl) (by kernel_rfl) (by kernel_rfl) rb_refl rb_trans ⟨sM, ⟨sC, ⟨sC, ⟨sC, ⟨sC, ⟨sC, ⟨sC, ⟨sC, ⟨sC, ⟨sC, ⟨sC, ⟨sC, ⟨sC, ⟨sC, trivial⟩⟩⟩⟩⟩⟩⟩⟩⟩⟩⟩⟩⟩⟩ ?_ ?_
      · refine ⟨⟨⟨⟨⟨⟨⟨⟨⟨⟨⟨⟨⟨⟨trivial, ?_⟩, ?_⟩, ?_⟩, ?_⟩, ?_⟩, ?_⟩, ?_⟩, ?_⟩, ?_⟩, ?_⟩, ?_⟩, ?_⟩, ?_⟩, ?_⟩
        · refine rs_plain rfl rfl fun a wr S => ?_
          have X := undrew S.ext
          exact wp_load (ev_of ((S.old 2 (by kernel_rfl)).trans rfl)) (Pa.below X) (done (by kernel_rfl) rbu_refl (Qa.below X))
        · refine rs_plain rfl rfl fun a wr S => ?_
          have X := undrew S.ext
          obtain ⟨v0, e0, h0⟩ := S.got 0 (by kernel_rfl)
          exact st_call cf_big_Sign (args1 (ev_of (e0 51 (by kernel_rfl)))) (by kernel_rfl) rb (cSign h0 (by omega) HS.out) (fun _ _ _ h => h)
        · refine rs_plain rfl rfl fun a wr S => ?_
          have X := undrew S.ext
          obtain ⟨v1, e1, h1⟩ := S.got 1 (by kernel_rfl)
          exact wp_eqI ((ev_of (e1 52 (by kernel_rfl))).trans h1) rfl (Or.inl rfl) (done (by kernel_rfl) rbu_refl (congrArg Value.bool (by decide)))
        · refine rs_plain rfl rfl fun a wr S => ?_
          have X := undrew S.ext
          obtain ⟨v2, e2, h2⟩ := S.got 2 (by kernel_rfl)
          exact wp_mv ((ev_of (e2 53 (by kernel_rfl))).trans h2) (done (by kernel_rfl) rbu_refl rfl)
        · exact rs_no rfl rfl (by kernel_rfl) (by kernel_rfl : _ = some 54) (fun _ _ _ h => h) (by kernel_rfl) rbu_refl (fun _ _ => rfl)
        · exact rs_no rfl rfl (by kernel_rfl) (by kernel_rfl : _ = some 54) (fun _ _ _ h => h) (by kernel_rfl) rbu_refl (fun _ _ => rfl)
        · exact rs_no rfl rfl (by kernel_rfl) (by kernel_rfl : _ = some 54) (fun _ _ _ h => h) (by kernel_rfl) rbu_refl (fun _ _ => rfl)
        · exact rs_no rfl rfl (by kernel_rfl) (by kernel_rfl : _ = some 54) (fun _ _ _ h => h) (by kernel_rfl) rbu_refl (fun _ _ => rfl)
        · exact rs_no rfl rfl (by kernel_rfl) (by kernel_rfl : _ = some 54) (fun _ _ _ h => h) (by kernel_rfl) rbu_refl (fun _ _ => rfl)
        · exact rs_no rfl rfl (by kernel_rfl) (by kernel_rfl : _ = some 54) (fun _ _ _ h => h) (by kernel_rfl) rbu_refl (fun _ _ => rfl)
        · exact rs_no rfl rfl (by kernel_rfl) (by kernel_rfl : _ = some 54) (fun _ _ _ h => h) (by kernel_rfl) rbu_refl (fun _ _ => rfl)
        · exact rs_no rfl rfl (by kernel_rfl) (by kernel_rfl : _ = some 54) (fun _ _ _ h => h) (by kernel_rfl) rbu_refl (fun _ _ => rfl)
        · refine rs_plain rfl rfl fun a wr S => ?_
          have X := undrew S.ext
          obtain ⟨v3, e3, h3⟩ := S.got 3 (by kernel_rfl)
          exact wp_pickT ((ev_of (e3 54 (by kernel_rfl))).trans h3) rfl (done (by kernel_rfl) rbu_refl rfl)
        · refine rs_plain rfl rfl fun a wr S => ?_
          have X := undrew S.ext
          obtain ⟨v12, e12, h12⟩ := S.got 12 (by kernel_rfl)
          exact wp_as ((ev_of (e12 63 (by kernel_rfl))).trans h12) (done (by kernel_rfl) rbu_refl rfl)
      · intro f6_ w6 hR hv
        replace hR := undrew hR
        have f1 : f6_ 1 = .int .i64 0 := (hvc (hv 1 (by omega))).elim fun _ h => h
        have f2 : f6_ 2 = .bool true := (hvc (hv 2 (by omega))).elim fun _ h => h
        have f3 : f6_ 3 = .bool true := (hvc (hv 3 (by omega))).elim fun _ h => h
        have f4 : f6_ 4 = undef := (hvc (hv 4 (by omega))).elim fun _ h => h
        have f5 : f6_ 5 = undef := (hvc (hv 5 (by omega))).elim fun _ h => h
        have f6 : f6_ 6 = undef := (hvc (hv 6 (by omega))).elim fun _ h => h
        have f7 : f6_ 7 = undef := (hvc (hv 7 (by omega))).elim fun _ h => h
        have f8 : f6_ 8 = undef := (hvc (hv 8 (by omega))).elim fun _ h => h
        have f9 : f6_ 9 = undef := (hvc (hv 9 (by omega))).elim fun _ h => h
        have f10 : f6_ 10 = undef := (hvc (hv 10 (by omega))).elim fun _ h => h
        have f11 : f6_ 11 = undef := (hvc (hv 11 (by omega))).elim fun _ h => h
        have f12 : f6_ 12 = Value.bool true := (hvc (hv 12 (by omega))).elim fun _ h => h
        have f13 : f6_ 13 = Value.bool true := (hvc (hv 13 (by omega))).elim fun _ h => h
        simp only [putFn, Act.put, List.setIfInBounds_toArray, List.set_cons_zero, List.set_cons_succ, f1, f2, f3, f4, f5, f6, f7, f8, f9, f10, f11, f12, f13]
        replace Pa := Pa.below hR
        replace Pb := Pb.below hR
        replace Qa := Qa.below hR
        replace Qb := Qb.below hR
        replace q3 := q3.below hR
        replace P4 := P4.below hR
        replace BB := bl_trans BB hR
        clear hR
        clear hv
        go_wp2_with fail
        go_ret
        exact ⟨rfl, BB⟩

set_option maxHeartbeats 4000000 in
theorem bigTexts_0p (sa : Bool) (Aa : Option Addr) (na ca : Nat) (xa : List Nat) (sb : Bool) (Ab : Option Addr) (nb cb : Nat) (xs : List Nat) (za zb : Int) (w : World) (Ha : Hid (Rd w Aa na ca xa)) (Hb : Hid (Rd w Ab nb cb xs)) (Ga : Hid (na ≤ maxLen)) (Gb : Hid (nb ≤ maxLen)) (HZa : Hid (za = zv sa (M.val (xa.take (min na 15))))) (HZb : Hid (zb = zv sb (M.val (xs.take (min nb 15))))) (HLT : Hid (za.natAbs < M.R ^ 15)) (xb : Nat) (lb : List Nat) (HX : Hid (txtZ za = xb :: lb)) (HEQ : Hid (za ≠ zb)) (qc : Int) (HC : Hid (cmpI za zb = qc)) (HQ : Hid ((qc == 0) = false)) (HX45 : Hid (((xb : Int) == 45) = false)) (HS : Hid (sgn za = 1)) (HNZ : Hid (za ≠ 0)) : Calls Try.prog 10 #[.agg #[.bool sa, .slice Aa na ca], .agg #[.bool sb, .slice Ab nb cb]] w fun e w' => e = .returned (.bool true) ∧ Below w.heap.size w w' := by
  have Pa := (Bz.new w sa Aa na ca).alloc (.cells #[.bool sb, .slice Ab nb cb] 32)
  have Pb := Bz.new2 w (.cells #[.bool sa, .slice Aa na ca] 32) sb Ab nb cb
  have BB := bl_trans (bl_alloc w (.cells #[.bool sa, .slice Aa na ca] 32)) (bl_alloc _ (.cells #[.bool sb, .slice Ab nb cb] 32))
  go_enter Try.func10, Try.ntmps10
  go_wp2_with fail
  refine (cWorks _).mono ?_
  rintro e w1 ⟨_, rfl, hb1, rfl⟩
  replace Pa := Pa.below hb1
  replace Pb := Pb.below hb1
  replace BB := bl_trans BB hb1
  clear hb1
  have Fa := Lib.hid (show ∀ W, Below w.heap.size w W → Calls Try.prog 18 #[.agg #[.bool sa, .slice Aa na ca], .int .i64 15] W (Ans W fun _ v => v = .agg #[.bool sa, .slice Aa (min na 15) ca]) from fun W h => cFew (Ha.out.below h) Ga.out 15 _ rfl (by omega))
  have Fb := Lib.hid (show ∀ W, Below w.heap.size w W → Calls Try.prog 18 #[.agg #[.bool sb, .slice Ab nb cb], .int .i64 15] W (Ans W fun _ v => v = .agg #[.bool sb, .slice Ab (min nb 15) cb]) from fun W h => cFew (Hb.out.below h) Gb.out 15 _ rfl (by omega))
  have Pa_0 := Pa.c0
  have Pa_1 := Pa.c1
  have Pb_0 := Pb.c0
  have Pb_1 := Pb.c1
  go_wp2_with fail
  go_region_with (first
    | (go_at_call 18; ((with_reducible refine (Fa.out _ (Below.drew BB)).mono ?_); rintro e wf ⟨_, rfl, hf, rfl⟩; replace BB := bl_trans (Below.drew BB) hf; replace Pa := (Pa.drew).below hf; replace Pb := (Pb.drew).below hf; have Pa_2 := Pa.c0; have Pa_3 := Pa.c1; have Pb_2 := Pb.c0; have Pb_3 := Pb.c1; clear hf))
    | (go_at_call 18; ((with_reducible refine (Fb.out _ BB).mono ?_); rintro e wg ⟨_, rfl, hf, rfl⟩; replace BB := bl_trans BB hf; replace Pa := Pa.below hf; replace Pb := Pb.below hf; have Pa_4 := Pa.c0; have Pa_5 := Pa.c1; have Pb_4 := Pb.c0; have Pb_5 := Pb.c1; have Pa_6 := Pa.f 0; have Pa_7 := Pa.f 1; have Pb_6 := Pb.f 0; have Pb_7 := Pb.f 1; clear hf)))
  all_goals
    have st := two_store (s := sa) (A := Aa) (n := min na 15) (c := ca) (t := sb) (B := Ab) (m := min nb 15) (d := cb) Pa Pb (by omega) BB (Nat.le_refl _) (by omega)
    clear Pa_0 Pa_1 Pb_0 Pb_1 Pa_2 Pa_3 Pb_2 Pb_3 Pa_4 Pa_5 Pb_4 Pb_5 Pa_6 Pa_7 Pb_6 Pb_7
    replace Pa := st.1
    replace Pb := st.2.1
    replace BB := st.2.2
    clear st
    have Qa : IsM ((((wg.setCell ⟨w.heap.size, 0, none⟩ (.bool sa)).setCell ⟨w.heap.size, 1, none⟩ (.slice Aa (min na 15) ca)).setCell ⟨w.heap.size + 1, 0, none⟩ (.bool sb)).setCell ⟨w.heap.size + 1, 1, none⟩ (.slice Ab (min nb 15) cb)) (.agg #[.bool sa, .slice Aa (min na 15) ca]) za 15 := ⟨_, _, _, _, rfl, by rw [HZa.out]; exact few_zm (Ha.out.below BB) 15⟩
    have Qb : IsM ((((wg.setCell ⟨w.heap.size, 0, none⟩ (.bool sa)).setCell ⟨w.heap.size, 1, none⟩ (.slice Aa (min na 15) ca)).setCell ⟨w.heap.size + 1, 0, none⟩ (.bool sb)).setCell ⟨w.heap.size + 1, 1, none⟩ (.slice Ab (min nb 15) cb)) (.agg #[.bool sb, .slice Ab (min nb 15) cb]) zb 15 := ⟨_, _, _, _, rfl, by rw [HZb.out]; exact few_zm (Hb.out.below BB) 15⟩
    generalize ((((wg.setCell ⟨w.heap.size, 0, none⟩ (.bool sa)).setCell ⟨w.heap.size, 1, none⟩ (.slice Aa (min na 15) ca)).setCell ⟨w.heap.size + 1, 0, none⟩ (.bool sb)).setCell ⟨w.heap.size + 1, 1, none⟩ (.slice Ab (min nb 15) cb)) = wh at Pa Pb BB Qa Qb ⊢
    clear Ha Hb Ga Gb HZa HZb Fa Fb
    have Pa_0 := Pa.c0
    have Pa_1 := Pa.c1
    go_wp2_with fail
    refine (cText Qa (by omega)).mono ?_
    rintro e w2 ⟨_, rfl, hb2, t2, rfl, ht2⟩
    clear Pa_0 Pa_1
    replace Pa := Pa.below hb2
    replace Pb := Pb.below hb2
    replace Qa := Qa.below hb2
    replace Qb := Qb.below hb2
    replace BB := bl_trans BB hb2
    clear hb2
    have HT2 := Lib.hid ht2
    clear ht2
    have HI := txtZ_is HT2.out
    have hsz : t2.size ≤ 152 := txtZ_size HT2.out HLT.out
    go_wp2_with fail
    refine (cParse (k := 15) t2 (by omega) HI.1 (by rw [HI.2]; exact HLT.out) (Nat.le_refl _)).mono ?_
    rintro e w3 ⟨_, rfl, hb3, b3, A3, n3, c3, rfl, Z3⟩
    replace Pa := Pa.below hb3
    replace Pb := Pb.below hb3
    replace Qa := Qa.below hb3
    replace Qb := Qb.below hb3
    replace BB := bl_trans BB hb3
    clear hb3
    have q3 : IsZ _ w3 (.agg #[.bool b3, .slice A3 n3 c3]) (valZ t2) 15 := ⟨_, _, _, _, rfl, Z3⟩
    clear Z3
    replace BB := bl_trans BB (bl_alloc w3 (.cells #[.bool b3, .slice A3 n3 c3] 32))
    replace Pa := Pa.below (bl_alloc _ (.cells #[.bool b3, .slice A3 n3 c3] 32))
    replace Pb := Pb.below (bl_alloc _ (.cells #[.bool b3, .slice A3 n3 c3] 32))
    replace Qa := Qa.below (bl_alloc _ (.cells #[.bool b3, .slice A3 n3 c3] 32))
    replace Qb := Qb.below (bl_alloc _ (.cells #[.bool b3, .slice A3 n3 c3] 32))
    replace q3 := q3.below (bl_alloc _ (.cells #[.bool b3, .slice A3 n3 c3] 32))
    have P4 := Bz.new w3 b3 A3 n3 c3
    go_wp2_with fail
    refine wp_region_list (Ext := RB) (Rel := RBu) [fun v _ _ => v = .bool true, fun v _ _ => v = .bool false, fun v _ _ => v = .bool false, fun v _ w => IsT w v (valZ t2) 15, fun v _ w => IsM w v (za) 15, fun v _ w => IsR1 w v (za) 15, fun v _ w => IsZ ((w3.alloc (.cells #[.bool b3, .slice A3 n3 c3] 32))).heap.size w v (za) 16, fun v _ _ => v = .bool true, fun v _ _ => v = .bool false, fun v _ _ => v = .bool false, fun v _ _ => v = .bool false, fun v _ _ => v = .string t2, fun v _ w => IsM w v (zb) 15, fun v _ _ => IsS v (txtZ zb), fun v _ _ => v = .bool false, fun v _ w => IsM w v (za) 15, fun v _ w => IsM w v (zb) 15, fun v _ _ => v = .int .i64 qc, fun v _ _ => v = .bool false, fun v _ _ => v = .bool false, fun v _ _ => v = .bool false, fun v _ _ => v = .bool false, fun v _ _ => v = .string t2, fun v _ _ => v = .int .u8 (xb : Nat), fun v _ _ => v = .bool false, fun v _ w => IsM w v (za) 15, fun v _ _ => v = .int .i64 1, fun v _ _ => v = .bool false, fun v _ _ => v = .bool false, fun v _ _ => v = .bool false] (n := 30) (by kernel_rfl) rfl (by kernel_rfl) (by kernel_rfl) (by kernel_rfl) (by kernel_rfl) (by kernel_rfl) rb_refl rb_trans ⟨sC, ⟨sC, ⟨sC, ⟨sT, ⟨sM, ⟨sR1, ⟨sZ, ⟨sC, ⟨sC, ⟨sC, ⟨sC, ⟨sC, ⟨sM, ⟨sS, ⟨sC, ⟨sM, ⟨sM, ⟨sC, ⟨sC, ⟨sC, ⟨sC, ⟨sC, ⟨sC, ⟨sC, ⟨sC, ⟨sM, ⟨sC, ⟨sC, ⟨sC, ⟨sC, trivial⟩⟩⟩⟩⟩⟩⟩⟩⟩⟩⟩⟩⟩⟩⟩⟩⟩⟩⟩⟩⟩⟩⟩⟩⟩⟩⟩⟩⟩⟩ ?_ ?_
    · refine ⟨⟨⟨⟨⟨⟨⟨⟨⟨⟨⟨⟨⟨⟨⟨⟨⟨⟨⟨⟨⟨⟨⟨⟨⟨⟨⟨⟨⟨⟨trivial, ?_⟩, ?_⟩, ?_⟩, ?_⟩, ?_⟩, ?_⟩, ?_⟩, ?_⟩, ?_⟩, ?_⟩, ?_⟩, ?_⟩, ?_⟩, ?_⟩, ?_⟩, ?_⟩, ?_⟩, ?_⟩, ?_⟩, ?_⟩, ?_⟩, ?_⟩, ?_⟩, ?_⟩, ?_⟩, ?_⟩, ?_⟩, ?_⟩, ?_⟩, ?_⟩
      · refine rs_plain rfl rfl fun a wr S => ?_
        have X := undrew S.ext
        exact wp_mv (ev_of ((S.old 7 (by kernel_rfl)).trans rfl)) (done (by kernel_rfl) rbu_refl rfl)
      · refine rs_plain rfl rfl fun a wr S => ?_
        have X := undrew S.ext
        obtain ⟨v0, e0, h0⟩ := S.got 0 (by kernel_rfl)
        exact wp_not ((ev_of (e0 21 (by kernel_rfl))).trans h0) (done (by kernel_rfl) rbu_refl rfl)
      · refine rs_plain rfl rfl fun a wr S => ?_
        have X := undrew S.ext
        obtain ⟨v1, e1, h1⟩ := S.got 1 (by kernel_rfl)
        exact wp_mv ((ev_of (e1 22 (by kernel_rfl))).trans h1) (done (by kernel_rfl) rbu_refl rfl)
      · refine rs_yes rfl rfl (by kernel_rfl) (by kernel_rfl : _ = some 23) (fun _ _ _ h => h) fun a wr S => ?_
        have X := undrew S.ext
        exact wp_load (ev_of ((S.old 6 (by kernel_rfl)).trans rfl)) (P4.below X) (done (by kernel_rfl) rbu_refl (q3.below X).t)
      · refine rs_yes rfl rfl (by kernel_rfl) (by kernel_rfl : _ = some 23) (fun _ _ _ h => h) fun a wr S => ?_
        have X := undrew S.ext
        exact wp_load (ev_of ((S.old 2 (by kernel_rfl)).trans rfl)) (Pa.below X) (done (by kernel_rfl) rbu_refl (Qa.below X))
      · refine rs_yes rfl rfl (by kernel_rfl) (by kernel_rfl : _ = some 23) (fun _ _ _ h => h) fun a wr S => ?_
        have X := undrew S.ext
        obtain ⟨v4, e4, h4⟩ := S.got 4 (by kernel_rfl)
        obtain ⟨b0, A0, n0, c0, hv0, Z0⟩ := (show IsM wr _ _ _ from h4)
        exact wp_bs1 ((ev_of (e4 25 (by kernel_rfl))).trans hv0) (done' (by kernel_rfl) (rb _ _ _ (bl_alloc _ _)) (IsR1.new Z0))
      · refine rs_yes rfl rfl (by kernel_rfl) (by kernel_rfl : _ = some 23) (fun _ _ _ h => h) fun a wr S => ?_
        have X := undrew S.ext
        obtain ⟨v5, e5, h5⟩ := S.got 5 (by kernel_rfl)
        exact st_call cf_big_Add (args1 (ev_of (e5 26 (by kernel_rfl)))) (by kernel_rfl) rb (cAdd1 h5 (by omega) X.size) (fun _ _ _ h => h)
      · refine rs_yes rfl rfl (by kernel_rfl) (by kernel_rfl : _ = some 23) (fun _ _ _ h => h) fun a wr S => ?_
        have X := undrew S.ext
        obtain ⟨v3, e3, h3⟩ := S.got 3 (by kernel_rfl)
        obtain ⟨v6, e6, h6⟩ := S.got 6 (by kernel_rfl)
        exact st_call cf_law02_same (args2 (ev_of (e3 24 (by kernel_rfl))) (ev_of (e6 27 (by kernel_rfl)))) (by kernel_rfl) rb (cSame h3 h6.t (by omega) (by omega) (decide_eq_true (HI.2))) (fun _ _ _ h => h)
      · refine rs_yes rfl rfl (by kernel_rfl) (by kernel_rfl : _ = some 23) (fun _ _ _ h => h) fun a wr S => ?_
        have X := undrew S.ext
        obtain ⟨v7, e7, h7⟩ := S.got 7 (by kernel_rfl)
        exact wp_not ((ev_of (e7 28 (by kernel_rfl))).trans h7) (done (by kernel_rfl) rbu_refl rfl)
      · refine rs_plain rfl rfl fun a wr S => ?_
        have X := undrew S.ext
        obtain ⟨v2, e2, h2⟩ := S.got 2 (by kernel_rfl)
        obtain ⟨v8, e8, h8⟩ := S.got 8 (by kernel_rfl)
        exact wp_pickF ((ev_of (e2 23 (by kernel_rfl))).trans h2) ((ev_of (e8 29 (by kernel_rfl))).trans h8) (done (by kernel_rfl) rbu_refl rfl)
      · refine rs_plain rfl rfl fun a wr S => ?_
        have X := undrew S.ext
        obtain ⟨v9, e9, h9⟩ := S.got 9 (by kernel_rfl)
        exact wp_mv ((ev_of (e9 30 (by kernel_rfl))).trans h9) (done (by kernel_rfl) rbu_refl rfl)
      · refine rs_yes rfl rfl (by kernel_rfl) (by kernel_rfl : _ = some 31) (fun _ _ _ h => h) fun a wr S => ?_
        have X := undrew S.ext
        exact wp_mv (ev_of ((S.old 5 (by kernel_rfl)).trans rfl)) (done (by kernel_rfl) rbu_refl rfl)
      · refine rs_yes rfl rfl (by kernel_rfl) (by kernel_rfl : _ = some 31) (fun _ _ _ h => h) fun a wr S => ?_
        have X := undrew S.ext
        exact wp_load (ev_of ((S.old 3 (by kernel_rfl)).trans rfl)) (Pb.below X) (done (by kernel_rfl) rbu_refl (Qb.below X))
      · refine rs_yes rfl rfl (by kernel_rfl) (by kernel_rfl : _ = some 31) (fun _ _ _ h => h) fun a wr S => ?_
        have X := undrew S.ext
        obtain ⟨v12, e12, h12⟩ := S.got 12 (by kernel_rfl)
        exact st_call cf_big_Text (args1 (ev_of (e12 33 (by kernel_rfl)))) (by kernel_rfl) rb (cText h12 (by omega)) (fun _ _ _ h => h)
      · refine rs_yes rfl rfl (by kernel_rfl) (by kernel_rfl : _ = some 31) (fun _ _ _ h => h) fun a wr S => ?_
        have X := undrew S.ext
        obtain ⟨v11, e11, h11⟩ := S.got 11 (by kernel_rfl)
        obtain ⟨v13, e13, h13⟩ := S.got 13 (by kernel_rfl)
        obtain ⟨sy, hsy, bsy⟩ := (show IsS _ _ from h13)
        exact wp_eqS ((ev_of (e11 32 (by kernel_rfl))).trans h11) ((ev_of (e13 34 (by kernel_rfl))).trans hsy) (done (by kernel_rfl) rbu_refl (congrArg Value.bool (neT HT2.out bsy HEQ.out)))
      · refine rs_yes rfl rfl (by kernel_rfl) (by kernel_rfl : _ = some 31) (fun _ _ _ h => h) fun a wr S => ?_
        have X := undrew S.ext
        exact wp_load (ev_of ((S.old 2 (by kernel_rfl)).trans rfl)) (Pa.below X) (done (by kernel_rfl) rbu_refl (Qa.below X))
      · refine rs_yes rfl rfl (by kernel_rfl) (by kernel_rfl : _ = some 31) (fun _ _ _ h => h) fun a wr S => ?_
        have X := undrew S.ext
        exact wp_load (ev_of ((S.old 3 (by kernel_rfl)).trans rfl)) (Pb.below X) (done (by kernel_rfl) rbu_refl (Qb.below X))
      · refine rs_yes rfl rfl (by kernel_rfl) (by kernel_rfl : _ = some 31) (fun _ _ _ h => h) fun a wr S => ?_
        have X := undrew S.ext
        obtain ⟨v15, e15, h15⟩ := S.got 15 (by kernel_rfl)
        obtain ⟨v16, e16, h16⟩ := S.got 16 (by kernel_rfl)
        exact st_call cf_big_Cmp (args2 (ev_of (e15 36 (by kernel_rfl))) (ev_of (e16 37 (by kernel_rfl)))) (by kernel_rfl) rb (cCmp h15 h16 (by omega) (by omega) HC.out) (fun _ _ _ h => h)
      · refine rs_yes rfl rfl (by kernel_rfl) (by kernel_rfl : _ = some 31) (fun _ _ _ h => h) fun a wr S => ?_
        have X := undrew S.ext
        obtain ⟨v17, e17, h17⟩ := S.got 17 (by kernel_rfl)
        exact wp_eqI ((ev_of (e17 38 (by kernel_rfl))).trans h17) rfl (Or.inl rfl) (done (by kernel_rfl) rbu_refl (congrArg Value.bool HQ.out))
      · refine rs_yes rfl rfl (by kernel_rfl) (by kernel_rfl : _ = some 31) (fun _ _ _ h => h) fun a wr S => ?_
        have X := undrew S.ext
        obtain ⟨v14, e14, h14⟩ := S.got 14 (by kernel_rfl)
        obtain ⟨v18, e18, h18⟩ := S.got 18 (by kernel_rfl)
        exact wp_neB ((ev_of (e14 35 (by kernel_rfl))).trans h14) ((ev_of (e18 39 (by kernel_rfl))).trans h18) (done (by kernel_rfl) rbu_refl (congrArg Value.bool (by decide)))
      · refine rs_plain rfl rfl fun a wr S => ?_
        have X := undrew S.ext
        obtain ⟨v10, e10, h10⟩ := S.got 10 (by kernel_rfl)
        obtain ⟨v19, e19, h19⟩ := S.got 19 (by kernel_rfl)
        exact wp_pickF ((ev_of (e10 31 (by kernel_rfl))).trans h10) ((ev_of (e19 40 (by kernel_rfl))).trans h19) (done (by kernel_rfl) rbu_refl rfl)
      · refine rs_plain rfl rfl fun a wr S => ?_
        have X := undrew S.ext
        obtain ⟨v20, e20, h20⟩ := S.got 20 (by kernel_rfl)
        exact wp_mv ((ev_of (e20 41 (by kernel_rfl))).trans h20) (done (by kernel_rfl) rbu_refl rfl)
      · refine rs_yes rfl rfl (by kernel_rfl) (by kernel_rfl : _ = some 42) (fun _ _ _ h => h) fun a wr S => ?_
        have X := undrew S.ext
        exact wp_mv (ev_of ((S.old 5 (by kernel_rfl)).trans rfl)) (done (by kernel_rfl) rbu_refl rfl)
      · refine rs_yes rfl rfl (by kernel_rfl) (by kernel_rfl : _ = some 42) (fun _ _ _ h => h) fun a wr S => ?_
        have X := undrew S.ext
        obtain ⟨v22, e22, h22⟩ := S.got 22 (by kernel_rfl)
        exact wp_idxT ((ev_of (e22 43 (by kernel_rfl))).trans h22) (HT2.out.trans HX.out) (done (by kernel_rfl) rbu_refl rfl)
      · refine rs_yes rfl rfl (by kernel_rfl) (by kernel_rfl : _ = some 42) (fun _ _ _ h => h) fun a wr S => ?_
        have X := undrew S.ext
        obtain ⟨v23, e23, h23⟩ := S.got 23 (by kernel_rfl)
        exact wp_eqU8 ((ev_of (e23 44 (by kernel_rfl))).trans h23) rfl (done (by kernel_rfl) rbu_refl (congrArg Value.bool HX45.out))
      · refine rs_yes rfl rfl (by kernel_rfl) (by kernel_rfl : _ = some 42) (fun _ _ _ h => h) fun a wr S => ?_
        have X := undrew S.ext
        exact wp_load (ev_of ((S.old 2 (by kernel_rfl)).trans rfl)) (Pa.below X) (done (by kernel_rfl) rbu_refl (Qa.below X))
      · refine rs_yes rfl rfl (by kernel_rfl) (by kernel_rfl : _ = some 42) (fun _ _ _ h => h) fun a wr S => ?_
        have X := undrew S.ext
        obtain ⟨v25, e25, h25⟩ := S.got 25 (by kernel_rfl)
        exact st_call cf_big_Sign (args1 (ev_of (e25 46 (by kernel_rfl)))) (by kernel_rfl) rb (cSign h25 (by omega) HS.out) (fun _ _ _ h => h)
      · refine rs_yes rfl rfl (by kernel_rfl) (by kernel_rfl : _ = some 42) (fun _ _ _ h => h) fun a wr S => ?_
        have X := undrew S.ext
        obtain ⟨v26, e26, h26⟩ := S.got 26 (by kernel_rfl)
        exact wp_ltI ((ev_of (e26 47 (by kernel_rfl))).trans h26) rfl (done (by kernel_rfl) rbu_refl (congrArg Value.bool (by decide)))
      · refine rs_yes rfl rfl (by kernel_rfl) (by kernel_rfl : _ = some 42) (fun _ _ _ h => h) fun a wr S => ?_
        have X := undrew S.ext
        obtain ⟨v24, e24, h24⟩ := S.got 24 (by kernel_rfl)
        obtain ⟨v27, e27, h27⟩ := S.got 27 (by kernel_rfl)
        exact wp_neB ((ev_of (e24 45 (by kernel_rfl))).trans h24) ((ev_of (e27 48 (by kernel_rfl))).trans h27) (done (by kernel_rfl) rbu_refl (congrArg Value.bool (by decide)))
      · refine rs_plain rfl rfl fun a wr S => ?_
        have X := undrew S.ext
        obtain ⟨v21, e21, h21⟩ := S.got 21 (by kernel_rfl)
        obtain ⟨v28, e28, h28⟩ := S.got 28 (by kernel_rfl)
        exact wp_pickF ((ev_of (e21 42 (by kernel_rfl))).trans h21) ((ev_of (e28 49 (by kernel_rfl))).trans h28) (done (by kernel_rfl) rbu_refl rfl)
    · intro f5_ w5 hR hv
      replace hR := undrew hR
      have f0 : f5_ 0 = .bool true := (hvc (hv 0 (by omega))).elim fun _ h => h
      have f1 : f5_ 1 = .bool false := (hvc (hv 1 (by omega))).elim fun _ h => h
      have f2 : f5_ 2 = .bool false := (hvc (hv 2 (by omega))).elim fun _ h => h
      have f7 : f5_ 7 = .bool true := (hvc (hv 7 (by omega))).elim fun _ h => h
      have f8 : f5_ 8 = .bool false := (hvc (hv 8 (by omega))).elim fun _ h => h
      have f9 : f5_ 9 = .bool false := (hvc (hv 9 (by omega))).elim fun _ h => h
      have f10 : f5_ 10 = .bool false := (hvc (hv 10 (by omega))).elim fun _ h => h
      have f11 : f5_ 11 = .string t2 := (hvc (hv 11 (by omega))).elim fun _ h => h
      have f14 : f5_ 14 = .bool false := (hvc (hv 14 (by omega))).elim fun _ h => h
      have f17 : f5_ 17 = .int .i64 qc := (hvc (hv 17 (by omega))).elim fun _ h => h
      have f18 : f5_ 18 = .bool false := (hvc (hv 18 (by omega))).elim fun _ h => h
      have f19 : f5_ 19 = .bool false := (hvc (hv 19 (by omega))).elim fun _ h => h
      have f20 : f5_ 20 = .bool false := (hvc (hv 20 (by omega))).elim fun _ h => h
      have f21 : f5_ 21 = .bool false := (hvc (hv 21 (by omega))).elim fun _ h => h
      have f22 : f5_ 22 = .string t2 := (hvc (hv 22 (by omega))).elim fun _ h => h
      have f23 : f5_ 23 = .int .u8 (xb : Nat) := (hvc (hv 23 (by omega))).elim fun _ h => h
      have f24 : f5_ 24 = .bool false := (hvc (hv 24 (by omega))).elim fun _ h => h
      have f26 : f5_ 26 = .int .i64 1 := (hvc (hv 26 (by omega))).elim fun _ h => h
      have f27 : f5_ 27 = .bool false := (hvc (hv 27 (by omega))).elim fun _ h => h
      have f28 : f5_ 28 = .bool false := (hvc (hv 28 (by omega))).elim fun _ h => h
      have f29 : f5_ 29 = .bool false := (hvc (hv 29 (by omega))).elim fun _ h => h
      simp only [putFn, Act.put, List.setIfInBounds_toArray, List.set_cons_zero, List.set_cons_succ, f0, f1, f2, f7, f8, f9, f10, f11, f14, f17, f18, f19, f20, f21, f22, f23, f24, f26, f27, f28, f29]
      replace Pa := Pa.below hR
      replace Pb := Pb.below hR
      replace Qa := Qa.below hR
      replace Qb := Qb.below hR
      replace q3 := q3.below hR
      replace P4 := P4.below hR
      replace BB := bl_trans BB hR
      clear hR
      clear hv
      go_wp2_with fail
      refine wp_region_list (Ext := RB) (Rel := RBu) [fun v _ w => IsM w v (za) 15, fun v _ _ => v = .int .i64 1, fun v _ _ => v = .bool false, fun v _ _ => v = .bool false, fun v _ w => IsM w v (za) 15, fun v _ w => IsZ (w5).heap.size w v (10) 2, fun v _ w => IsR2 w v (za) 15 (10) 2, fun v _ w => IsZ (w5).heap.size w v (za * 10) 17, fun v _ _ => IsS v (txtZ (za * 10)), fun v _ _ => v = .string t2, fun v _ _ => v = .string (t2 ++ { data := #[48] }), fun v _ _ => v = .bool true, fun v _ _ => v = .bool true, fun v _ _ => v = .bool true] (n := 14) (by kernel_rfl) rfl (by kernel_rfl) (by kernel_rfl) (by kernel_rfl) (by kernel_rfl) (by kernel_rfl) rb_refl rb_trans ⟨sM, ⟨sC, ⟨sC, ⟨sC, ⟨sM, ⟨sZ, ⟨sR2, ⟨sZ, ⟨sS, ⟨sC, ⟨sC, ⟨sC, ⟨sC, ⟨sC, trivial⟩⟩⟩⟩⟩⟩⟩⟩⟩⟩⟩⟩⟩⟩ ?_ ?_
      · refine ⟨⟨⟨⟨⟨⟨⟨⟨⟨⟨⟨⟨⟨⟨trivial, ?_⟩, ?_⟩, ?_⟩, ?_⟩, ?_⟩, ?_⟩, ?_⟩, ?_⟩, ?_⟩, ?_⟩, ?_⟩, ?_⟩, ?_⟩, ?_⟩
        · refine rs_plain rfl rfl fun a wr S => ?_
          have X := undrew S.ext
          exact wp_load (ev_of ((S.old 2 (by kernel_rfl)).trans rfl)) (Pa.below X) (done (by kernel_rfl) rbu_refl (Qa.below X))
        · refine rs_plain rfl rfl fun a wr S => ?_
          have X := undrew S.ext
          obtain ⟨v0, e0, h0⟩ := S.got 0 (by kernel_rfl)
          exact st_call cf_big_Sign (args1 (ev_of (e0 51 (by kernel_rfl)))) (by kernel_rfl) rb (cSign h0 (by omega) HS.out) (fun _ _ _ h => h)
        · refine rs_plain rfl rfl fun a wr S => ?_
          have X := undrew S.ext
          obtain ⟨v1, e1, h1⟩ := S.got 1 (by kernel_rfl)
          exact wp_eqI ((ev_of (e1 52 (by kernel_rfl))).trans h1) rfl (Or.inl rfl) (done (by kernel_rfl) rbu_refl (congrArg Value.bool (by decide)))
        · refine rs_plain rfl rfl fun a wr S => ?_
          have X := undrew S.ext
          obtain ⟨v2, e2, h2⟩ := S.got 2 (by kernel_rfl)
          exact wp_mv ((ev_of (e2 53 (by kernel_rfl))).trans h2) (done (by kernel_rfl) rbu_refl rfl)
        · refine rs_yes rfl rfl (by kernel_rfl) (by kernel_rfl : _ = some 54) (fun _ _ _ h => h) fun a wr S => ?_
          have X := undrew S.ext
          exact wp_load (ev_of ((S.old 2 (by kernel_rfl)).trans rfl)) (Pa.below X) (done (by kernel_rfl) rbu_refl (Qa.below X))
        · refine rs_yes rfl rfl (by kernel_rfl) (by kernel_rfl : _ = some 54) (fun _ _ _ h => h) fun a wr S => ?_
          have X := undrew S.ext
          exact st_call cf_big_From (args1 rfl) (by kernel_rfl) rb (cFrom _ (by omega) (by omega) X.size) (fun _ _ _ h => h)
        · refine rs_yes rfl rfl (by kernel_rfl) (by kernel_rfl : _ = some 54) (fun _ _ _ h => h) fun a wr S => ?_
          have X := undrew S.ext
          obtain ⟨v4, e4, h4⟩ := S.got 4 (by kernel_rfl)
          obtain ⟨v5, e5, h5⟩ := S.got 5 (by kernel_rfl)
          obtain ⟨b0, A0, n0, c0, hv0, Z0⟩ := (show IsM wr _ _ _ from h4)
          obtain ⟨b1, A1, n1, c1, hv1, Z1⟩ := (show IsM wr _ _ _ from h5.m)
          exact wp_bs2 ((ev_of (e4 55 (by kernel_rfl))).trans hv0) ((ev_of (e5 56 (by kernel_rfl))).trans hv1) (done' (by kernel_rfl) (rb _ _ _ (bl_alloc _ _)) (IsR2.new Z0 Z1))
        · refine rs_yes rfl rfl (by kernel_rfl) (by kernel_rfl : _ = some 54) (fun _ _ _ h => h) fun a wr S => ?_
          have X := undrew S.ext
          obtain ⟨v6, e6, h6⟩ := S.got 6 (by kernel_rfl)
          exact st_call cf_big_Mul (args1 (ev_of (e6 57 (by kernel_rfl)))) (by kernel_rfl) rb (cMul2 (z := za) (u := 10) h6 (by omega) (by omega) (by omega) X.size) (fun _ _ _ h => h)
        · refine rs_yes rfl rfl (by kernel_rfl) (by kernel_rfl : _ = some 54) (fun _ _ _ h => h) fun a wr S => ?_
          have X := undrew S.ext
          obtain ⟨v7, e7, h7⟩ := S.got 7 (by kernel_rfl)
          exact st_call cf_big_Text (args1 (ev_of (e7 58 (by kernel_rfl)))) (by kernel_rfl) rb (cText h7.m (by omega)) (fun _ _ _ h => h)
        · refine rs_yes rfl rfl (by kernel_rfl) (by kernel_rfl : _ = some 54) (fun _ _ _ h => h) fun a wr S => ?_
          have X := undrew S.ext
          exact wp_mv (ev_of ((S.old 5 (by kernel_rfl)).trans rfl)) (done (by kernel_rfl) rbu_refl rfl)
        · refine rs_yes rfl rfl (by kernel_rfl) (by kernel_rfl : _ = some 54) (fun _ _ _ h => h) fun a wr S => ?_
          have X := undrew S.ext
          obtain ⟨v9, e9, h9⟩ := S.got 9 (by kernel_rfl)
          exact wp_addS ((ev_of (e9 60 (by kernel_rfl))).trans h9) rfl (by omega) (by decide) (done (by kernel_rfl) rbu_refl rfl)
        · refine rs_yes rfl rfl (by kernel_rfl) (by kernel_rfl : _ = some 54) (fun _ _ _ h => h) fun a wr S => ?_
          have X := undrew S.ext
          obtain ⟨v8, e8, h8⟩ := S.got 8 (by kernel_rfl)
          obtain ⟨v10, e10, h10⟩ := S.got 10 (by kernel_rfl)
          obtain ⟨sx, hsx, bsx⟩ := (show IsS _ _ from h8)
          exact wp_eqS ((ev_of (e8 59 (by kernel_rfl))).trans hsx) ((ev_of (e10 61 (by kernel_rfl))).trans h10) (done (by kernel_rfl) rbu_refl (congrArg Value.bool (tenT bsx HT2.out HNZ.out)))
        · refine rs_plain rfl rfl fun a wr S => ?_
          have X := undrew S.ext
          obtain ⟨v3, e3, h3⟩ := S.got 3 (by kernel_rfl)
          obtain ⟨v11, e11, h11⟩ := S.got 11 (by kernel_rfl)
          exact wp_pickF ((ev_of (e3 54 (by kernel_rfl))).trans h3) ((ev_of (e11 62 (by kernel_rfl))).trans h11) (done (by kernel_rfl) rbu_refl rfl)
        · refine rs_plain rfl rfl fun a wr S => ?_
          have X := undrew S.ext
          obtain ⟨v12, e12, h12⟩ := S.got 12 (by kernel_rfl)
          exact wp_as ((ev_of (e12 63 (by kernel_rfl))).trans h12) (done (by kernel_rfl) rbu_refl rfl)
      · intro f6_ w6 hR hv
        replace hR := undrew hR
        have f1 : f6_ 1 = .int .i64 1 := (hvc (hv 1 (by omega))).elim fun _ h => h
        have f2 : f6_ 2 = .bool false := (hvc (hv 2 (by omega))).elim fun _ h => h
        have f3 : f6_ 3 = .bool false := (hvc (hv 3 (by omega))).elim fun _ h => h
        have f9 : f6_ 9 = .string t2 := (hvc (hv 9 (by omega))).elim fun _ h => h
        have f10 : f6_ 10 = .string (t2 ++ { data := #[48] }) := (hvc (hv 10 (by omega))).elim fun _ h => h
        have f11 : f6_ 11 = .bool true := (hvc (hv 11 (by omega))).elim fun _ h => h
        have f12 : f6_ 12 = .bool true := (hvc (hv 12 (by omega))).elim fun _ h => h
        have f13 : f6_ 13 = .bool true := (hvc (hv 13 (by omega))).elim fun _ h => h
        simp only [putFn, Act.put, List.setIfInBounds_toArray, List.set_cons_zero, List.set_cons_succ, f1, f2, f3, f9, f10, f11, f12, f13]
        replace Pa := Pa.below hR
        replace Pb := Pb.below hR
        replace Qa := Qa.below hR
        replace Qb := Qb.below hR
        replace q3 := q3.below hR
        replace P4 := P4.below hR
        replace BB := bl_trans BB hR
        clear hR
        clear hv
        go_wp2_with fail
        go_ret
        exact ⟨rfl, BB⟩

theorem bigTexts_walk (sa : Bool) (Aa : Option Addr) (na ca : Nat) (xa : List Nat) (sb : Bool) (Ab : Option Addr) (nb cb : Nat) (xs : List Nat) (w : World) (ha : Rd w Aa na ca xa) (ma : na ≤ maxLen) (hb : Rd w Ab nb cb xs) (mb : nb ≤ maxLen) : Calls Try.prog 10 #[.agg #[.bool sa, .slice Aa na ca], .agg #[.bool sb, .slice Ab nb cb]] w fun e w' => e = .returned (.bool true) ∧ Below w.heap.size w w' := by
  obtain ⟨za, hza⟩ : ∃ z, z = zv sa (M.val (xa.take (min na 15))) := ⟨_, rfl⟩
  obtain ⟨zb, hzb⟩ : ∃ z, z = zv sb (M.val (xs.take (min nb 15))) := ⟨_, rfl⟩
  have Ha := Lib.hid ha
  have Hb := Lib.hid hb
  have Ga := Lib.hid ma
  have Gb := Lib.hid mb
  have HZa := Lib.hid hza
  have HZb := Lib.hid hzb
  have HLT := Lib.hid (show za.natAbs < M.R ^ 15 by rw [hza]; exact (few_zm (s := sa) ha 15).lt)
  obtain ⟨xb, lb, hx, hx45⟩ := txtZ_first za
  have HX := Lib.hid hx
  have hq : ∃ q, cmpI za zb = q ∧ (za ≠ zb → (q == 0) = false) := by
    refine ⟨_, rfl, fun h => ?_⟩
    rcases Int.lt_or_gt_of_ne h with h | h
    · rw [cmpI_lt h]; decide
    · rw [cmpI_gt h]; decide
  obtain ⟨qc, hc, hqc⟩ := hq
  have no : ¬ za < 0 → ((xb : Int) == 45) = false := by
    intro h
    have : xb ≠ 45 := fun e => h (hx45.1 e)
    simp
    omega
  have yes : za < 0 → ((xb : Int) == 45) = true := by
    intro h
    have := hx45.2 h
    simp
    omega
  by_cases he : za = zb
  · rcases Int.lt_trichotomy za 0 with h | h | h
    · exact bigTexts_1n sa Aa na ca xa sb Ab nb cb xs za zb w Ha Hb Ga Gb HZa HZb HLT xb lb HX (Lib.hid he) (Lib.hid (cmpI_eq he)) (Lib.hid (yes h)) (Lib.hid (sgn_neg h)) (Lib.hid (by omega))
    · exact bigTexts_1z sa Aa na ca xa sb Ab nb cb xs za zb w Ha Hb Ga Gb HZa HZb HLT xb lb HX (Lib.hid he) (Lib.hid (cmpI_eq he)) (Lib.hid (no (by omega))) (Lib.hid (sgn_zero h))
    · exact bigTexts_1p sa Aa na ca xa sb Ab nb cb xs za zb w Ha Hb Ga Gb HZa HZb HLT xb lb HX (Lib.hid he) (Lib.hid (cmpI_eq he)) (Lib.hid (no (by omega))) (Lib.hid (sgn_pos h)) (Lib.hid (by omega))
  · rcases Int.lt_trichotomy za 0 with h | h | h
    · exact bigTexts_0n sa Aa na ca xa sb Ab nb cb xs za zb w Ha Hb Ga Gb HZa HZb HLT xb lb HX (Lib.hid he) qc (Lib.hid hc) (Lib.hid (hqc he)) (Lib.hid (yes h)) (Lib.hid (sgn_neg h)) (Lib.hid (by omega))
    · exact bigTexts_0z sa Aa na ca xa sb Ab nb cb xs za zb w Ha Hb Ga Gb HZa HZb HLT xb lb HX (Lib.hid he) qc (Lib.hid hc) (Lib.hid (hqc he)) (Lib.hid (no (by omega))) (Lib.hid (sgn_zero h))
    · exact bigTexts_0p sa Aa na ca xa sb Ab nb cb xs za zb w Ha Hb Ga Gb HZa HZb HLT xb lb HX (Lib.hid he) qc (Lib.hid hc) (Lib.hid (hqc he)) (Lib.hid (no (by omega))) (Lib.hid (sgn_pos h)) (Lib.hid (by omega))

end Go.Proofs.Ytebchniiiccghaa
