/- litmuslaw02.BigDivs answers true at every input, and changes nothing that was there: its walk. -/
import Derived.Test.YthjgonfohjgfaaaZArr
import Derived.Test.YthjgonfohjgfaaaZY
namespace Go.Proofs.Ythjgonfohjgfaaa
open Go.RowKit
set_option linter.unusedVariables false
set_option maxRecDepth 100000

section
variable {w w' : World} {v : Value} {z : Int} {k j N : Nat} {o : Int}
theorem IsM.mono (h : IsM w v z k) (hk : k ≤ j) : IsM w v z j := by
  obtain ⟨b, A, n, c, rfl, Z⟩ := h
  exact ⟨b, A, n, c, rfl, Z.mono hk⟩
theorem IsZE.te (h : IsZE N w v z k o) : IsTE w v z k o := by
  obtain ⟨b, A, n, c, rfl, Z⟩ := h
  exact ⟨b, A, n, c, rfl, IsZ.t ⟨_, _, _, _, rfl, Z⟩⟩
end

/-- Whatever numbers: both answer the same. -/
theorem divs_both (z u : Int) : ∃ (q r : Int) (o : Int),
    (∀ w v v', IsM w v z 24 → IsM w v' u 24 → Calls Try.prog 36 #[v, v'] w (Ans w fun w' x => IsTE w' x q 50 o)) ∧
    (∀ w v v', IsM w v z 24 → IsM w v' u 24 → Calls Try.prog 37 #[v, v'] w (Ans w fun w' x => IsTE w' x r 50 o)) ∧
    (∀ w v v', IsM w v z 24 → IsM w v' u 24 → Calls Try.prog 38 #[v, v'] w (Ans w fun w' x => IsTE w' x q 50 o)) ∧
    (∀ w v v', IsM w v z 24 → IsM w v' u 24 → Calls Try.prog 39 #[v, v'] w (Ans w fun w' x => IsTE w' x r 50 o)) := by
  have up : ∀ {w : World} {v : Value} {z : Int} {k : Nat} {o : Int}, k ≤ 50 → IsTE w v z k o → IsTE w v z 50 o := by
    rintro w v z k o hk ⟨b, A, n, c, rfl, T⟩
    exact ⟨b, A, n, c, rfl, T.mono hk⟩
  by_cases hu : u = 0
  · exact ⟨0, 0, 3, fun w v v' h g => (cDiv0 h g (by omega) (by omega) hu (Nat.le_refl _)).mono fun e w' ⟨x, he, hb, hx⟩ => ⟨x, he, hb, up (by omega) hx.te⟩,
      fun w v v' h g => (cMod0 h g (by omega) (by omega) hu (Nat.le_refl _)).mono fun e w' ⟨x, he, hb, hx⟩ => ⟨x, he, hb, up (by omega) hx.te⟩,
      fun w v v' h g => (cRefDiv0 h g hu).mono fun e w' ⟨x, he, hb, hx⟩ => ⟨x, he, hb, up (by omega) hx⟩,
      fun w v v' h g => (cRefMod0 h g hu).mono fun e w' ⟨x, he, hb, hx⟩ => ⟨x, he, hb, up (by omega) hx⟩⟩
  · exact ⟨dq z u, dr z u, 0, fun w v v' h g => (cDiv h g (by omega) (by omega) hu (Nat.le_refl _)).mono fun e w' ⟨x, he, hb, hx⟩ => ⟨x, he, hb, up (by omega) hx.te⟩,
      fun w v v' h g => (cMod h g (by omega) (by omega) hu (Nat.le_refl _)).mono fun e w' ⟨x, he, hb, hx⟩ => ⟨x, he, hb, up (by omega) hx.te⟩,
      fun w v v' h g => (cRefDiv h g hu).mono fun e w' ⟨x, he, hb, hx⟩ => ⟨x, he, hb, up (by omega) hx⟩,
      fun w v v' h g => (cRefMod h g hu).mono fun e w' ⟨x, he, hb, hx⟩ => ⟨x, he, hb, up (by omega) hx⟩⟩

theorem index_a32 (w : World) (a b c d e f g h i j k l : Value) : (Instr.index 49 (.agg #[a, b, c, d, e, f, g, h, i, j, k, l]) (.int .i64 0)).run Try.prog w = .ok (.agg #[a, b, c, d]) w ∧ (Instr.index 49 (.agg #[a, b, c, d, e, f, g, h, i, j, k, l]) (.int .i64 1)).run Try.prog w = .ok (.agg #[e, f, g, h]) w ∧ (Instr.index 49 (.agg #[a, b, c, d, e, f, g, h, i, j, k, l]) (.int .i64 2)).run Try.prog w = .ok (.agg #[i, j, k, l]) w := by
  refine ⟨?_, ?_, ?_⟩ <;> simp [Instr.index, run_underlying Try.underlying49, asIntOf, go_sem]

set_option maxHeartbeats 8000000 in
theorem bigDivs_in (sa : Bool) (Aa : Option Addr) (na ca : Nat) (xa : List Nat) (sb : Bool) (Ab : Option Addr) (nb cb : Nat) (xs : List Nat) (zn za zb : Int) (w : World) (Ha : Hid (Rd w Aa na ca xa)) (Hb : Hid (Rd w Ab nb cb xs)) (Ga : Hid (na ≤ maxLen)) (Gb : Hid (nb ≤ maxLen)) (HZa : Hid (za = zv sa (M.val (xa.take (min na 12))))) (HZb : Hid (zb = zv sb (M.val (xs.take (min nb 12))))) (hn0 : -128 ≤ zn) (hn1 : zn ≤ 127) :
    Calls Try.prog 5 #[.agg #[.bool sa, .slice Aa na ca], .agg #[.bool sb, .slice Ab nb cb], .int .i8 zn] w fun e w' => e = .returned (.bool true) ∧ Below w.heap.size w w' := by
  have Pa := (Bz.new w sa Aa na ca).alloc (.cells #[.bool sb, .slice Ab nb cb] 32)
  have Pb := Bz.new2 w (.cells #[.bool sa, .slice Aa na ca] 32) sb Ab nb cb
  have BB := bl_trans (bl_alloc w (.cells #[.bool sa, .slice Aa na ca] 32)) (bl_alloc _ (.cells #[.bool sb, .slice Ab nb cb] 32))
  go_enter Try.func5, Try.ntmps5
  have Fa := Lib.hid (show ∀ W, Below w.heap.size w W → Calls Try.prog 13 #[.agg #[.bool sa, .slice Aa na ca], .int .i64 12] W (Ans W fun _ v => v = .agg #[.bool sa, .slice Aa (min na 12) ca]) from fun W h => cFew (Ha.out.below h) Ga.out 12 _ rfl (by omega))
  have Fb := Lib.hid (show ∀ W, Below w.heap.size w W → Calls Try.prog 13 #[.agg #[.bool sb, .slice Ab nb cb], .int .i64 12] W (Ans W fun _ v => v = .agg #[.bool sb, .slice Ab (min nb 12) cb]) from fun W h => cFew (Hb.out.below h) Gb.out 12 _ rfl (by omega))
  have Pa_0 := Pa.c0
  have Pa_1 := Pa.c1
  have Pb_0 := Pb.c0
  have Pb_1 := Pb.c1
  go_wp2_with fail
  go_region_with (first
    | (go_at_call 13; ((with_reducible refine (Fa.out _ (Below.drew BB)).mono ?_); rintro e wf ⟨_, rfl, hf, rfl⟩; replace BB := bl_trans (Below.drew BB) hf; replace Pa := (Pa.drew).below hf; replace Pb := (Pb.drew).below hf; have Pa_2 := Pa.c0; have Pa_3 := Pa.c1; have Pb_2 := Pb.c0; have Pb_3 := Pb.c1; clear hf))
    | (go_at_call 13; ((with_reducible refine (Fb.out _ BB).mono ?_); rintro e wg ⟨_, rfl, hf, rfl⟩; replace BB := bl_trans BB hf; replace Pa := Pa.below hf; replace Pb := Pb.below hf; have Pa_4 := Pa.c0; have Pa_5 := Pa.c1; have Pb_4 := Pb.c0; have Pb_5 := Pb.c1; have Pa_6 := Pa.f 0; have Pa_7 := Pa.f 1; have Pb_6 := Pb.f 0; have Pb_7 := Pb.f 1; clear hf)))
  all_goals
    have st := two_store (s := sa) (A := Aa) (n := min na 12) (c := ca) (t := sb) (B := Ab) (m := min nb 12) (d := cb) Pa Pb (by omega) BB (Nat.le_refl _) (by omega)
    clear Pa_0 Pa_1 Pb_0 Pb_1 Pa_2 Pa_3 Pb_2 Pb_3 Pa_4 Pa_5 Pb_4 Pb_5 Pa_6 Pa_7 Pb_6 Pb_7
    replace Pa := st.1
    replace Pb := st.2.1
    replace BB := st.2.2
    clear st
    have Qa : IsM ((((wg.setCell ⟨w.heap.size, 0, none⟩ (.bool sa)).setCell ⟨w.heap.size, 1, none⟩ (.slice Aa (min na 12) ca)).setCell ⟨w.heap.size + 1, 0, none⟩ (.bool sb)).setCell ⟨w.heap.size + 1, 1, none⟩ (.slice Ab (min nb 12) cb)) (.agg #[.bool sa, .slice Aa (min na 12) ca]) za 12 := ⟨_, _, _, _, rfl, by rw [HZa.out]; exact few_zm (Ha.out.below BB) 12⟩
    have Qb : IsM ((((wg.setCell ⟨w.heap.size, 0, none⟩ (.bool sa)).setCell ⟨w.heap.size, 1, none⟩ (.slice Aa (min na 12) ca)).setCell ⟨w.heap.size + 1, 0, none⟩ (.bool sb)).setCell ⟨w.heap.size + 1, 1, none⟩ (.slice Ab (min nb 12) cb)) (.agg #[.bool sb, .slice Ab (min nb 12) cb]) zb 12 := ⟨_, _, _, _, rfl, by rw [HZb.out]; exact few_zm (Hb.out.below BB) 12⟩
    generalize ((((wg.setCell ⟨w.heap.size, 0, none⟩ (.bool sa)).setCell ⟨w.heap.size, 1, none⟩ (.slice Aa (min na 12) ca)).setCell ⟨w.heap.size + 1, 0, none⟩ (.bool sb)).setCell ⟨w.heap.size + 1, 1, none⟩ (.slice Ab (min nb 12) cb)) = wh at Pa Pb BB Qa Qb ⊢
    clear Ha Hb Ga Gb HZa HZb Fa Fb
    go_wp2_with fail
    refine wp_region_list (Ext := RB) (Rel := RBu) [fun v _ _ => v = .agg #[.bool sa, .slice Aa (min na 12) ca], fun v _ _ => v = .agg #[.bool sb, .slice Ab (min nb 12) cb], fun v _ _ => v = .agg #[.bool sa, .slice Aa (min na 12) ca, .bool sb, .slice Ab (min nb 12) cb], fun v _ _ => v = .agg #[.bool sa, .slice Aa (min na 12) ca], fun v _ _ => v = .int .i8 zn, fun v _ _ => v = .int .i64 zn, fun v _ w => IsT w v (zn) 2, fun v _ w => IsPF w v (.bool sa) (.slice Aa (min na 12) ca) (zn) 2, fun v _ _ => v = .agg #[.bool sa, .slice Aa (min na 12) ca], fun v _ _ => v = .agg #[.bool sb, .slice Ab (min nb 12) cb], fun v _ w => IsT w v (za * zb) 24, fun v _ _ => v = .agg #[.bool sb, .slice Ab (min nb 12) cb], fun v _ w => IsPM w v (.bool sb) (.slice Ab (min nb 12) cb) (za * zb) 24, fun v _ w => IsD3 w v (.bool sa) (.slice Aa (min na 12) ca) (.bool sb) (.slice Ab (min nb 12) cb) (zn) 2 (za * zb) 24, fun v _ _ => v = Value.int IntKind.i64 0] (n := 15) (by kernel_rfl) rfl (by kernel_rfl) (by kernel_rfl) (by kernel_rfl) (by kernel_rfl) (by kernel_rfl) rb_refl rb_trans ⟨sC, ⟨sC, ⟨sC, ⟨sC, ⟨sC, ⟨sC, ⟨sT, ⟨sPF, ⟨sC, ⟨sC, ⟨sT, ⟨sC, ⟨sPM, ⟨sD3, ⟨sC, trivial⟩⟩⟩⟩⟩⟩⟩⟩⟩⟩⟩⟩⟩⟩⟩ ?_ ?_
    · refine ⟨⟨⟨⟨⟨⟨⟨⟨⟨⟨⟨⟨⟨⟨⟨trivial, ?_⟩, ?_⟩, ?_⟩, ?_⟩, ?_⟩, ?_⟩, ?_⟩, ?_⟩, ?_⟩, ?_⟩, ?_⟩, ?_⟩, ?_⟩, ?_⟩, ?_⟩
      · refine rs_plain rfl rfl fun a wr S => ?_
        have X := undrew S.ext
        exact wp_load (ev_of ((S.old 3 (by kernel_rfl)).trans rfl)) (Pa.below X) (done (by kernel_rfl) rbu_refl rfl)
      · refine rs_plain rfl rfl fun a wr S => ?_
        have X := undrew S.ext
        exact wp_load (ev_of ((S.old 4 (by kernel_rfl)).trans rfl)) (Pb.below X) (done (by kernel_rfl) rbu_refl rfl)
      · refine rs_plain rfl rfl fun a wr S => ?_
        have X := undrew S.ext
        obtain ⟨v0, e0, h0⟩ := S.got 0 (by kernel_rfl)
        obtain ⟨v1, e1, h1⟩ := S.got 1 (by kernel_rfl)
        exact wp_bA2 ((ev_of (e0 21 (by kernel_rfl))).trans h0) ((ev_of (e1 22 (by kernel_rfl))).trans h1) (done (by kernel_rfl) rbu_refl rfl)
      · refine rs_plain rfl rfl fun a wr S => ?_
        have X := undrew S.ext
        exact wp_load (ev_of ((S.old 3 (by kernel_rfl)).trans rfl)) (Pa.below X) (done (by kernel_rfl) rbu_refl rfl)
      · refine rs_plain rfl rfl fun a wr S => ?_
        have X := undrew S.ext
        exact wp_mv (ev_of ((S.old 2 (by kernel_rfl)).trans rfl)) (done (by kernel_rfl) rbu_refl rfl)
      · refine rs_plain rfl rfl fun a wr S => ?_
        have X := undrew S.ext
        obtain ⟨v4, e4, h4⟩ := S.got 4 (by kernel_rfl)
        exact wp_cv8 ((ev_of (e4 25 (by kernel_rfl))).trans h4) (by omega) (by omega) (done (by kernel_rfl) rbu_refl rfl)
      · refine rs_plain rfl rfl fun a wr S => ?_
        have X := undrew S.ext
        obtain ⟨v5, e5, h5⟩ := S.got 5 (by kernel_rfl)
        exact st_call cf_ref02_From (args1 ((ev_of (e5 26 (by kernel_rfl))).trans h5)) (by kernel_rfl) rb (cRefFrom _ (by omega) (by omega)) (fun _ _ _ h => h)
      · refine rs_plain rfl rfl fun a wr S => ?_
        have X := undrew S.ext
        obtain ⟨v3, e3, h3⟩ := S.got 3 (by kernel_rfl)
        obtain ⟨v6, e6, h6⟩ := S.got 6 (by kernel_rfl)
        obtain ⟨b0, A0, n0, c0, hv0, T0⟩ := (show IsT wr _ (zn) 2 from h6)
        exact wp_bA2 ((ev_of (e3 24 (by kernel_rfl))).trans h3) ((ev_of (e6 27 (by kernel_rfl))).trans hv0) (done (by kernel_rfl) rbu_refl ⟨_, _, _, _, rfl, _, _, _, _, rfl, T0⟩)
      · refine rs_plain rfl rfl fun a wr S => ?_
        have X := undrew S.ext
        exact wp_load (ev_of ((S.old 3 (by kernel_rfl)).trans rfl)) (Pa.below X) (done (by kernel_rfl) rbu_refl rfl)
      · refine rs_plain rfl rfl fun a wr S => ?_
        have X := undrew S.ext
        exact wp_load (ev_of ((S.old 4 (by kernel_rfl)).trans rfl)) (Pb.below X) (done (by kernel_rfl) rbu_refl rfl)
      · refine rs_plain rfl rfl fun a wr S => ?_
        have X := undrew S.ext
        obtain ⟨v8, e8, h8⟩ := S.got 8 (by kernel_rfl)
        obtain ⟨v9, e9, h9⟩ := S.got 9 (by kernel_rfl)
        exact st_call cf_ref02_Mul (args2 ((ev_of (e8 29 (by kernel_rfl))).trans h8) ((ev_of (e9 30 (by kernel_rfl))).trans h9)) (by kernel_rfl) rb (cRefMul (Qa.below X) (Qb.below X) (by omega) (by omega)) (fun _ _ _ h => h)
      · refine rs_plain rfl rfl fun a wr S => ?_
        have X := undrew S.ext
        exact wp_load (ev_of ((S.old 4 (by kernel_rfl)).trans rfl)) (Pb.below X) (done (by kernel_rfl) rbu_refl rfl)
      · refine rs_plain rfl rfl fun a wr S => ?_
        have X := undrew S.ext
        obtain ⟨v10, e10, h10⟩ := S.got 10 (by kernel_rfl)
        obtain ⟨v11, e11, h11⟩ := S.got 11 (by kernel_rfl)
        obtain ⟨b0, A0, n0, c0, hv0, T0⟩ := (show IsT wr _ (za * zb) 24 from h10)
        exact wp_bA2 ((ev_of (e10 31 (by kernel_rfl))).trans hv0) ((ev_of (e11 32 (by kernel_rfl))).trans h11) (done (by kernel_rfl) rbu_refl ⟨_, _, _, _, rfl, _, _, _, _, rfl, T0⟩)
      · refine rs_plain rfl rfl fun a wr S => ?_
        have X := undrew S.ext
        obtain ⟨v2, e2, h2⟩ := S.got 2 (by kernel_rfl)
        obtain ⟨v7, e7, h7⟩ := S.got 7 (by kernel_rfl)
        obtain ⟨v12, e12, h12⟩ := S.got 12 (by kernel_rfl)
        obtain ⟨b1, A1, n1, c1, hv1, T1⟩ := (show IsPF wr _ (.bool sa) (.slice Aa (min na 12) ca) (zn) 2 from h7)
        obtain ⟨b2, A2, n2, c2, hv2, T2⟩ := (show IsPM wr _ (.bool sb) (.slice Ab (min nb 12) cb) (za * zb) 24 from h12)
        exact wp_bA3 ((ev_of (e2 23 (by kernel_rfl))).trans h2) ((ev_of (e7 28 (by kernel_rfl))).trans hv1) ((ev_of (e12 33 (by kernel_rfl))).trans hv2) (done (by kernel_rfl) rbu_refl ⟨_, _, _, _, _, _, _, _, rfl, T1, T2⟩)
      · refine rs_plain rfl rfl fun a wr S => ?_
        have X := undrew S.ext
        exact wp_mv rfl (done (by kernel_rfl) rbu_refl rfl)
    · intro fa w2 hR hv
      replace hR := undrew hR
      have f0 : fa 0 = .agg #[.bool sa, .slice Aa (min na 12) ca] := (hvc (hv 0 (by omega))).elim fun _ h => h
      have f1 : fa 1 = .agg #[.bool sb, .slice Ab (min nb 12) cb] := (hvc (hv 1 (by omega))).elim fun _ h => h
      have f2 : fa 2 = .agg #[.bool sa, .slice Aa (min na 12) ca, .bool sb, .slice Ab (min nb 12) cb] := (hvc (hv 2 (by omega))).elim fun _ h => h
      have f3 : fa 3 = .agg #[.bool sa, .slice Aa (min na 12) ca] := (hvc (hv 3 (by omega))).elim fun _ h => h
      have f4 : fa 4 = .int .i8 zn := (hvc (hv 4 (by omega))).elim fun _ h => h
      have f5 : fa 5 = .int .i64 zn := (hvc (hv 5 (by omega))).elim fun _ h => h
      have f8 : fa 8 = .agg #[.bool sa, .slice Aa (min na 12) ca] := (hvc (hv 8 (by omega))).elim fun _ h => h
      have f9 : fa 9 = .agg #[.bool sb, .slice Ab (min nb 12) cb] := (hvc (hv 9 (by omega))).elim fun _ h => h
      have f11 : fa 11 = .agg #[.bool sb, .slice Ab (min nb 12) cb] := (hvc (hv 11 (by omega))).elim fun _ h => h
      have f14 : fa 14 = Value.int IntKind.i64 0 := (hvc (hv 14 (by omega))).elim fun _ h => h
      obtain ⟨bf, Af, nf, cf, bm, Am, nm, cm, fL, Qf, Qm⟩ := (show IsD3 w2 _ _ _ _ _ zn 2 (za * zb) 24 from (hvc (hv 13 (by omega))).elim fun _ h => h)
      simp only [putFn, Act.put, List.setIfInBounds_toArray, List.set_cons_zero, List.set_cons_succ, f0, f1, f2, f3, f4, f5, f8, f9, f11, f14, fL]
      replace Qa := Qa.below hR
      replace Qb := Qb.below hR
      replace BB := bl_trans BB hR
      clear hR hv Pa Pb
      go_wp2
      go_loopw [35] (fun p wr => ∃ k : Nat, k ≤ 3 ∧ p = .int .i64 (k : Int) ∧ IsM wr (.agg #[.bool sa, .slice Aa (min na 12) ca]) za 12 ∧ IsM wr (.agg #[.bool sb, .slice Ab (min nb 12) cb]) zb 12 ∧ IsT wr (.agg #[.bool bf, .slice Af nf cf]) zn 2 ∧ IsT wr (.agg #[.bool bm, .slice Am nm cm]) (za * zb) 24 ∧ Below w.heap.size w wr) (fun p _ => 3 - (intOf p).toNat)
      case atStart => exact ⟨0, by omega, rfl, Qa, Qb, Qf, Qm, BB⟩
      case round =>
        clear Qa Qb Qf Qm BB
        obtain ⟨k', hk', rfl, Qa, Qb, Qf, Qm, BB⟩ := hrel
        rcases (show k' = 0 ∨ k' = 1 ∨ k' = 2 ∨ k' = 3 by omega) with rfl | rfl | rfl | rfl
        · obtain ⟨zq, zr, zo, hD, hM, hRD, hRM⟩ := divs_both (za) (zb)
          have hidx := (index_a32 wr (.bool sa) (.slice Aa (min na 12) ca) (.bool sb) (.slice Ab (min nb 12) cb) (.bool sa) (.slice Aa (min na 12) ca) (.bool bf) (.slice Af nf cf) (.bool bm) (.slice Am nm cm) (.bool sb) (.slice Ab (min nb 12) cb)).1
          have X := (Qa.mono (show 12 ≤ 24 by omega)).below (bl_alloc wr (.cells #[.bool sa, .slice Aa (min na 12) ca, .bool sb, .slice Ab (min nb 12) cb] 34))
          have Y := (Qb.mono (show 12 ≤ 24 by omega)).below (bl_alloc wr (.cells #[.bool sa, .slice Aa (min na 12) ca, .bool sb, .slice Ab (min nb 12) cb] 34))
          have P8 := Ar.new wr #[.bool sa, .slice Aa (min na 12) ca, .bool sb, .slice Ab (min nb 12) cb] 34
          have H8 := bl_alloc wr (.cells #[.bool sa, .slice Aa (min na 12) ca, .bool sb, .slice Ab (min nb 12) cb] 34)
          have e0 := P8.at 0 rfl
          have e1 := P8.at 1 rfl
          have e2 := P8.at 2 rfl
          have e3 := P8.at 3 rfl
          go_wp2_with fail
          refine (hD _ _ _ X Y).mono ?_
          rintro e w1 ⟨_, rfl, hb1, b1, A1, n1, c1, rfl, q1⟩
          clear e0 e1 e2 e3
          have B1 := bl_trans hb1 (bl_alloc w1 (.cells #[.bool b1, .slice A1 n1 c1] 32))
          replace q1 := q1.below (bl_alloc w1 (.cells #[.bool b1, .slice A1 n1 c1] 32))
          replace X := X.below B1
          replace Y := Y.below B1
          replace P8 := P8.below B1
          replace H8 := bl_trans H8 B1
          have P1 := Bz.new w1 b1 A1 n1 c1
          clear hb1 B1
          have e0 := P8.at 0 rfl
          have e1 := P8.at 1 rfl
          have e2 := P8.at 2 rfl
          have e3 := P8.at 3 rfl
          go_wp2_with fail
          refine (hM _ _ _ X Y).mono ?_
          rintro e w2 ⟨_, rfl, hb2, b2, A2, n2, c2, rfl, q2⟩
          clear e0 e1 e2 e3
          have B2 := bl_trans hb2 (bl_alloc w2 (.cells #[.bool b2, .slice A2 n2 c2] 32))
          replace q2 := q2.below (bl_alloc w2 (.cells #[.bool b2, .slice A2 n2 c2] 32))
          replace X := X.below B2
          replace Y := Y.below B2
          replace P8 := P8.below B2
          replace H8 := bl_trans H8 B2
          replace q1 := q1.below B2
          replace P1 := P1.below B2
          have P2 := Bz.new w2 b2 A2 n2 c2
          clear hb2 B2
          have e0 := P8.at 0 rfl
          have e1 := P8.at 1 rfl
          have e2 := P8.at 2 rfl
          have e3 := P8.at 3 rfl
          go_wp2_with fail
          refine (hRD _ _ _ X Y).mono ?_
          rintro e w3 ⟨_, rfl, hb3, b3, A3, n3, c3, rfl, q3⟩
          clear e0 e1 e2 e3
          have B3 := bl_trans hb3 (bl_alloc w3 (.cells #[.bool b3, .slice A3 n3 c3] 32))
          replace q3 := q3.below (bl_alloc w3 (.cells #[.bool b3, .slice A3 n3 c3] 32))
          replace X := X.below B3
          replace Y := Y.below B3
          replace P8 := P8.below B3
          replace H8 := bl_trans H8 B3
          replace q1 := q1.below B3
          replace P1 := P1.below B3
          replace q2 := q2.below B3
          replace P2 := P2.below B3
          have P3 := Bz.new w3 b3 A3 n3 c3
          clear hb3 B3
          have e0 := P8.at 0 rfl
          have e1 := P8.at 1 rfl
          have e2 := P8.at 2 rfl
          have e3 := P8.at 3 rfl
          go_wp2_with fail
          refine (hRM _ _ _ X Y).mono ?_
          rintro e w4 ⟨_, rfl, hb4, b4, A4, n4, c4, rfl, q4⟩
          clear e0 e1 e2 e3
          have B4 := bl_trans hb4 (bl_alloc w4 (.cells #[.bool b4, .slice A4 n4 c4] 32))
          replace q4 := q4.below (bl_alloc w4 (.cells #[.bool b4, .slice A4 n4 c4] 32))
          replace X := X.below B4
          replace Y := Y.below B4
          replace P8 := P8.below B4
          replace H8 := bl_trans H8 B4
          replace q1 := q1.below B4
          replace P1 := P1.below B4
          replace q2 := q2.below B4
          replace P2 := P2.below B4
          replace q3 := q3.below B4
          replace P3 := P3.below B4
          have P4 := Bz.new w4 b4 A4 n4 c4
          clear hb4 B4
          clear P8 X Y hD hM hRD hRM hidx
          have t0 := P1.c0
          have t1 := P1.c1
          have t2 := P3.c0
          have t3 := P3.c1
          have hne : (zo != zo) = false := by simp
          go_wp2_with fail
          refine (cSameR q1 q3 (by omega) (by omega)).mono ?_
          rintro e w5 ⟨_, rfl, hb5, rfl⟩
          clear t0 t1 t2 t3
          replace P2 := P2.below hb5
          replace P4 := P4.below hb5
          replace q2 := q2.below hb5
          replace q4 := q4.below hb5
          replace H8 := bl_trans H8 hb5
          rw [show decide (zq = zq) = true from decide_eq_true rfl]
          have t0 := P2.c0
          have t1 := P2.c1
          have t2 := P4.c0
          have t3 := P4.c1
          clear hb5 P1 P3 q1 q3
          go_wp2_with fail
          refine (cSameR q2 q4 (by omega) (by omega)).mono ?_
          rintro e w6 ⟨_, rfl, hb6, rfl⟩
          clear t0 t1 t2 t3
          replace H8 := bl_trans H8 hb6
          rw [show decide (zr = zr) = true from decide_eq_true rfl]
          clear hb6 P2 P4 q2 q4
          go_wp2
          go_roundw
          case rel => exact ⟨_, _, _, _, _, _, _, _, _, _, _, _, _, _, _, _, _, _, _, _, _, _, _, _, _, _, _, _, _, _, _, _, _, _, _, _, _, _, _, _, _, _, _, _, _, _, _, _, _, _, _, _, _, _, _, _, _, _, _, _, _, _, _, _, _, _, ⟨1, by omega, rfl, Qa.below H8, Qb.below H8, Qf.below H8, Qm.below H8, bl_trans BB H8⟩, rfl⟩
          case measure => simp [intOf]
        · obtain ⟨zq, zr, zo, hD, hM, hRD, hRM⟩ := divs_both (za) (zn)
          have hidx := (index_a32 wr (.bool sa) (.slice Aa (min na 12) ca) (.bool sb) (.slice Ab (min nb 12) cb) (.bool sa) (.slice Aa (min na 12) ca) (.bool bf) (.slice Af nf cf) (.bool bm) (.slice Am nm cm) (.bool sb) (.slice Ab (min nb 12) cb)).2.1
          have X := (Qa.mono (show 12 ≤ 24 by omega)).below (bl_alloc wr (.cells #[.bool sa, .slice Aa (min na 12) ca, .bool bf, .slice Af nf cf] 34))
          have Y := (Qf.m.mono (show 2 ≤ 24 by omega)).below (bl_alloc wr (.cells #[.bool sa, .slice Aa (min na 12) ca, .bool bf, .slice Af nf cf] 34))
          have P8 := Ar.new wr #[.bool sa, .slice Aa (min na 12) ca, .bool bf, .slice Af nf cf] 34
          have H8 := bl_alloc wr (.cells #[.bool sa, .slice Aa (min na 12) ca, .bool bf, .slice Af nf cf] 34)
          have e0 := P8.at 0 rfl
          have e1 := P8.at 1 rfl
          have e2 := P8.at 2 rfl
          have e3 := P8.at 3 rfl
          go_wp2_with fail
          refine (hD _ _ _ X Y).mono ?_
          rintro e w1 ⟨_, rfl, hb1, b1, A1, n1, c1, rfl, q1⟩
          clear e0 e1 e2 e3
          have B1 := bl_trans hb1 (bl_alloc w1 (.cells #[.bool b1, .slice A1 n1 c1] 32))
          replace q1 := q1.below (bl_alloc w1 (.cells #[.bool b1, .slice A1 n1 c1] 32))
          replace X := X.below B1
          replace Y := Y.below B1
          replace P8 := P8.below B1
          replace H8 := bl_trans H8 B1
          have P1 := Bz.new w1 b1 A1 n1 c1
          clear hb1 B1
          have e0 := P8.at 0 rfl
          have e1 := P8.at 1 rfl
          have e2 := P8.at 2 rfl
          have e3 := P8.at 3 rfl
          go_wp2_with fail
          refine (hM _ _ _ X Y).mono ?_
          rintro e w2 ⟨_, rfl, hb2, b2, A2, n2, c2, rfl, q2⟩
          clear e0 e1 e2 e3
          have B2 := bl_trans hb2 (bl_alloc w2 (.cells #[.bool b2, .slice A2 n2 c2] 32))
          replace q2 := q2.below (bl_alloc w2 (.cells #[.bool b2, .slice A2 n2 c2] 32))
          replace X := X.below B2
          replace Y := Y.below B2
          replace P8 := P8.below B2
          replace H8 := bl_trans H8 B2
          replace q1 := q1.below B2
          replace P1 := P1.below B2
          have P2 := Bz.new w2 b2 A2 n2 c2
          clear hb2 B2
          have e0 := P8.at 0 rfl
          have e1 := P8.at 1 rfl
          have e2 := P8.at 2 rfl
          have e3 := P8.at 3 rfl
          go_wp2_with fail
          refine (hRD _ _ _ X Y).mono ?_
          rintro e w3 ⟨_, rfl, hb3, b3, A3, n3, c3, rfl, q3⟩
          clear e0 e1 e2 e3
          have B3 := bl_trans hb3 (bl_alloc w3 (.cells #[.bool b3, .slice A3 n3 c3] 32))
          replace q3 := q3.below (bl_alloc w3 (.cells #[.bool b3, .slice A3 n3 c3] 32))
          replace X := X.below B3
          replace Y := Y.below B3
          replace P8 := P8.below B3
          replace H8 := bl_trans H8 B3
          replace q1 := q1.below B3
          replace P1 := P1.below B3
          replace q2 := q2.below B3
          replace P2 := P2.below B3
          have P3 := Bz.new w3 b3 A3 n3 c3
          clear hb3 B3
          have e0 := P8.at 0 rfl
          have e1 := P8.at 1 rfl
          have e2 := P8.at 2 rfl
          have e3 := P8.at 3 rfl
          go_wp2_with fail
          refine (hRM _ _ _ X Y).mono ?_
          rintro e w4 ⟨_, rfl, hb4, b4, A4, n4, c4, rfl, q4⟩
          clear e0 e1 e2 e3
          have B4 := bl_trans hb4 (bl_alloc w4 (.cells #[.bool b4, .slice A4 n4 c4] 32))
          replace q4 := q4.below (bl_alloc w4 (.cells #[.bool b4, .slice A4 n4 c4] 32))
          replace X := X.below B4
          replace Y := Y.below B4
          replace P8 := P8.below B4
          replace H8 := bl_trans H8 B4
          replace q1 := q1.below B4
          replace P1 := P1.below B4
          replace q2 := q2.below B4
          replace P2 := P2.below B4
          replace q3 := q3.below B4
          replace P3 := P3.below B4
          have P4 := Bz.new w4 b4 A4 n4 c4
          clear hb4 B4
          clear P8 X Y hD hM hRD hRM hidx
          have t0 := P1.c0
          have t1 := P1.c1
          have t2 := P3.c0
          have t3 := P3.c1
          have hne : (zo != zo) = false := by simp
          go_wp2_with fail
          refine (cSameR q1 q3 (by omega) (by omega)).mono ?_
          rintro e w5 ⟨_, rfl, hb5, rfl⟩
          clear t0 t1 t2 t3
          replace P2 := P2.below hb5
          replace P4 := P4.below hb5
          replace q2 := q2.below hb5
          replace q4 := q4.below hb5
          replace H8 := bl_trans H8 hb5
          rw [show decide (zq = zq) = true from decide_eq_true rfl]
          have t0 := P2.c0
          have t1 := P2.c1
          have t2 := P4.c0
          have t3 := P4.c1
          clear hb5 P1 P3 q1 q3
          go_wp2_with fail
          refine (cSameR q2 q4 (by omega) (by omega)).mono ?_
          rintro e w6 ⟨_, rfl, hb6, rfl⟩
          clear t0 t1 t2 t3
          replace H8 := bl_trans H8 hb6
          rw [show decide (zr = zr) = true from decide_eq_true rfl]
          clear hb6 P2 P4 q2 q4
          go_wp2
          go_roundw
          case rel => exact ⟨_, _, _, _, _, _, _, _, _, _, _, _, _, _, _, _, _, _, _, _, _, _, _, _, _, _, _, _, _, _, _, _, _, _, _, _, _, _, _, _, _, _, _, _, _, _, _, _, _, _, _, _, _, _, _, _, _, _, _, _, _, _, _, _, _, _, ⟨2, by omega, rfl, Qa.below H8, Qb.below H8, Qf.below H8, Qm.below H8, bl_trans BB H8⟩, rfl⟩
          case measure => simp [intOf]
        · obtain ⟨zq, zr, zo, hD, hM, hRD, hRM⟩ := divs_both (za * zb) (zb)
          have hidx := (index_a32 wr (.bool sa) (.slice Aa (min na 12) ca) (.bool sb) (.slice Ab (min nb 12) cb) (.bool sa) (.slice Aa (min na 12) ca) (.bool bf) (.slice Af nf cf) (.bool bm) (.slice Am nm cm) (.bool sb) (.slice Ab (min nb 12) cb)).2.2
          have X := Qm.m.below (bl_alloc wr (.cells #[.bool bm, .slice Am nm cm, .bool sb, .slice Ab (min nb 12) cb] 34))
          have Y := (Qb.mono (show 12 ≤ 24 by omega)).below (bl_alloc wr (.cells #[.bool bm, .slice Am nm cm, .bool sb, .slice Ab (min nb 12) cb] 34))
          have P8 := Ar.new wr #[.bool bm, .slice Am nm cm, .bool sb, .slice Ab (min nb 12) cb] 34
          have H8 := bl_alloc wr (.cells #[.bool bm, .slice Am nm cm, .bool sb, .slice Ab (min nb 12) cb] 34)
          have e0 := P8.at 0 rfl
          have e1 := P8.at 1 rfl
          have e2 := P8.at 2 rfl
          have e3 := P8.at 3 rfl
          go_wp2_with fail
          refine (hD _ _ _ X Y).mono ?_
          rintro e w1 ⟨_, rfl, hb1, b1, A1, n1, c1, rfl, q1⟩
          clear e0 e1 e2 e3
          have B1 := bl_trans hb1 (bl_alloc w1 (.cells #[.bool b1, .slice A1 n1 c1] 32))
          replace q1 := q1.below (bl_alloc w1 (.cells #[.bool b1, .slice A1 n1 c1] 32))
          replace X := X.below B1
          replace Y := Y.below B1
          replace P8 := P8.below B1
          replace H8 := bl_trans H8 B1
          have P1 := Bz.new w1 b1 A1 n1 c1
          clear hb1 B1
          have e0 := P8.at 0 rfl
          have e1 := P8.at 1 rfl
          have e2 := P8.at 2 rfl
          have e3 := P8.at 3 rfl
          go_wp2_with fail
          refine (hM _ _ _ X Y).mono ?_
          rintro e w2 ⟨_, rfl, hb2, b2, A2, n2, c2, rfl, q2⟩
          clear e0 e1 e2 e3
          have B2 := bl_trans hb2 (bl_alloc w2 (.cells #[.bool b2, .slice A2 n2 c2] 32))
          replace q2 := q2.below (bl_alloc w2 (.cells #[.bool b2, .slice A2 n2 c2] 32))
          replace X := X.below B2
          replace Y := Y.below B2
          replace P8 := P8.below B2
          replace H8 := bl_trans H8 B2
          replace q1 := q1.below B2
          replace P1 := P1.below B2
          have P2 := Bz.new w2 b2 A2 n2 c2
          clear hb2 B2
          have e0 := P8.at 0 rfl
          have e1 := P8.at 1 rfl
          have e2 := P8.at 2 rfl
          have e3 := P8.at 3 rfl
          go_wp2_with fail
          refine (hRD _ _ _ X Y).mono ?_
          rintro e w3 ⟨_, rfl, hb3, b3, A3, n3, c3, rfl, q3⟩
          clear e0 e1 e2 e3
          have B3 := bl_trans hb3 (bl_alloc w3 (.cells #[.bool b3, .slice A3 n3 c3] 32))
          replace q3 := q3.below (bl_alloc w3 (.cells #[.bool b3, .slice A3 n3 c3] 32))
          replace X := X.below B3
          replace Y := Y.below B3
          replace P8 := P8.below B3
          replace H8 := bl_trans H8 B3
          replace q1 := q1.below B3
          replace P1 := P1.below B3
          replace q2 := q2.below B3
          replace P2 := P2.below B3
          have P3 := Bz.new w3 b3 A3 n3 c3
          clear hb3 B3
          have e0 := P8.at 0 rfl
          have e1 := P8.at 1 rfl
          have e2 := P8.at 2 rfl
          have e3 := P8.at 3 rfl
          go_wp2_with fail
          refine (hRM _ _ _ X Y).mono ?_
          rintro e w4 ⟨_, rfl, hb4, b4, A4, n4, c4, rfl, q4⟩
          clear e0 e1 e2 e3
          have B4 := bl_trans hb4 (bl_alloc w4 (.cells #[.bool b4, .slice A4 n4 c4] 32))
          replace q4 := q4.below (bl_alloc w4 (.cells #[.bool b4, .slice A4 n4 c4] 32))
          replace X := X.below B4
          replace Y := Y.below B4
          replace P8 := P8.below B4
          replace H8 := bl_trans H8 B4
          replace q1 := q1.below B4
          replace P1 := P1.below B4
          replace q2 := q2.below B4
          replace P2 := P2.below B4
          replace q3 := q3.below B4
          replace P3 := P3.below B4
          have P4 := Bz.new w4 b4 A4 n4 c4
          clear hb4 B4
          clear P8 X Y hD hM hRD hRM hidx
          have t0 := P1.c0
          have t1 := P1.c1
          have t2 := P3.c0
          have t3 := P3.c1
          have hne : (zo != zo) = false := by simp
          go_wp2_with fail
          refine (cSameR q1 q3 (by omega) (by omega)).mono ?_
          rintro e w5 ⟨_, rfl, hb5, rfl⟩
          clear t0 t1 t2 t3
          replace P2 := P2.below hb5
          replace P4 := P4.below hb5
          replace q2 := q2.below hb5
          replace q4 := q4.below hb5
          replace H8 := bl_trans H8 hb5
          rw [show decide (zq = zq) = true from decide_eq_true rfl]
          have t0 := P2.c0
          have t1 := P2.c1
          have t2 := P4.c0
          have t3 := P4.c1
          clear hb5 P1 P3 q1 q3
          go_wp2_with fail
          refine (cSameR q2 q4 (by omega) (by omega)).mono ?_
          rintro e w6 ⟨_, rfl, hb6, rfl⟩
          clear t0 t1 t2 t3
          replace H8 := bl_trans H8 hb6
          rw [show decide (zr = zr) = true from decide_eq_true rfl]
          clear hb6 P2 P4 q2 q4
          go_wp2
          go_roundw
          case rel => exact ⟨_, _, _, _, _, _, _, _, _, _, _, _, _, _, _, _, _, _, _, _, _, _, _, _, _, _, _, _, _, _, _, _, _, _, _, _, _, _, _, _, _, _, _, _, _, _, _, _, _, _, _, _, _, _, _, _, _, _, _, _, _, _, _, _, _, _, ⟨3, by omega, rfl, Qa.below H8, Qb.below H8, Qf.below H8, Qm.below H8, bl_trans BB H8⟩, rfl⟩
          case measure => simp [intOf]
        · go_wp2_with fail
          refine (cWorks _).mono ?_
          rintro e w7 ⟨_, rfl, hb7, rfl⟩
          replace BB := bl_trans BB hb7
          clear hb7
          go_wp2
          go_ret
          exact ⟨rfl, BB⟩

theorem bigDivs_walk (sa : Bool) (Aa : Option Addr) (na ca : Nat) (xa : List Nat) (sb : Bool) (Ab : Option Addr) (nb cb : Nat) (xs : List Nat) (zn : Int) (w : World) (ha : Rd w Aa na ca xa) (ga : na ≤ maxLen) (hb : Rd w Ab nb cb xs) (gb : nb ≤ maxLen) (hn : -128 ≤ zn ∧ zn ≤ 127) :
    Calls Try.prog 5 #[.agg #[.bool sa, .slice Aa na ca], .agg #[.bool sb, .slice Ab nb cb], .int .i8 zn] w fun e w' => e = .returned (.bool true) ∧ Below w.heap.size w w' :=
  bigDivs_in sa Aa na ca xa sb Ab nb cb xs zn _ _ w (Lib.hid ha) (Lib.hid hb) (Lib.hid ga) (Lib.hid gb) (Lib.hid rfl) (Lib.hid rfl) hn.1 hn.2

end Go.Proofs.Ythjgonfohjgfaaa
