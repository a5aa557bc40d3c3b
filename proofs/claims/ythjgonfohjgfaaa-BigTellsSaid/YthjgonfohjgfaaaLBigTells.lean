/- litmuslaw02.BigTells answers true at every input, and changes nothing that was there: its walk. -/
import Derived.Test.YthjgonfohjgfaaaZArr
import Derived.Test.YthjgonfohjgfaaaZRefJ
import Derived.Test.YthjgonfohjgfaaaZY
namespace Go.Proofs.Ythjgonfohjgfaaa
open Go.RowKit
set_option linter.unusedVariables false
set_option maxRecDepth 100000

section
variable {a : Act} {w : World} {Q : Exit → Act → World → Prop} {K : Act → World → Prop} {dst : Option Tmp} {ty : TypeId} {pos : String} {af : Array Edge} {gd : Option (Nat × Bool)} {x y : Operand} {g : Nat} {p q : Int}
theorem wp_jdx0 (hx : a.eval x = .pointer (some ⟨g, 0, none⟩)) (h : K (a.put dst (.pointer (some ⟨g, 0, none⟩))) w) : Oper.wp Try.prog ⟨dst, .indexAddr 34 x (.const (.int .i64 0)), ty, pos, af, gd⟩ a w K Q := by
  unfold Oper.wp execOp
  simp only [hx]
  go_simp
  exact h
theorem wp_jdx1 (hx : a.eval x = .pointer (some ⟨g, 0, none⟩)) (h : K (a.put dst (.pointer (some ⟨g, 2, none⟩))) w) : Oper.wp Try.prog ⟨dst, .indexAddr 34 x (.const (.int .i64 1)), ty, pos, af, gd⟩ a w K Q := by
  unfold Oper.wp execOp
  simp only [hx]
  go_simp
  exact h
theorem wp_neL (hx : a.eval x = .int .i64 p) (hy : a.eval y = .int .i64 q) (h : K (a.put dst (.bool (p != q))) w) {T' : TypeId} : Oper.wp Try.prog ⟨dst, .binOp .neq 2 x y T', ty, pos, af, gd⟩ a w K Q := by
  unfold Oper.wp execOp
  simp only [hx, hy]
  go_simp
  exact h
end

section
variable {w w' : World} {v v' : Value} {z u : Int} {k j : Nat}
theorem cSameQ (h : IsT w v z k) (g : IsT w v' u j) (hk : k ≤ 1000) (hj : j ≤ 1000) {q : Bool} (hq : decide (z = u) = q) : Calls Try.prog 15 #[v, v'] w (Ans w fun _ v => v = .bool q) := by
  rw [← hq]
  exact cSameR h g hk hj
theorem IsM.mono24 (h : IsM w v z k) (hk : k ≤ j) : IsM w v z j := by
  obtain ⟨b, A, n, c, rfl, Z⟩ := h
  exact ⟨b, A, n, c, rfl, Z.mono hk⟩
theorem IsW.mono {s : Bool} {xs : List Nat} (h : IsW w v s xs k) (hk : k ≤ j) : IsW w v s xs j := by
  obtain ⟨A, n, c, rfl, r, l⟩ := h
  exact ⟨A, n, c, rfl, r, Nat.le_trans l hk⟩
end

/-- Which pair it is: of numbers that are known. -/
theorem pick4 (w : World) {sa sb sf : Bool} {Aa Ab Af : Option Addr} {na ca nb cb nf cf : Nat} {xa xb xf : List Nat} (k : Nat) (hk : k < 4) (ha : IsW w (.agg #[.bool sa, .slice Aa na ca]) sa xa 12) (hb : IsW w (.agg #[.bool sb, .slice Ab nb cb]) sb xb 12) (hf : IsW w (.agg #[.bool sf, .slice Af nf cf]) sf xf 12) :
    ∃ sp Ap np cp xp sq Aq nq cq xq, (Instr.index 36 (.agg #[.bool sa, .slice Aa na ca, .bool sb, .slice Ab nb cb, .bool sb, .slice Ab nb cb, .bool sa, .slice Aa na ca, .bool sa, .slice Aa na ca, .bool sf, .slice Af nf cf, .bool sa, .slice Aa na ca, .bool sa, .slice Aa na ca]) (.int .i64 (k : Int))).run Try.prog w = .ok (.agg #[.bool sp, .slice Ap np cp, .bool sq, .slice Aq nq cq]) w ∧
      IsW w (.agg #[.bool sp, .slice Ap np cp]) sp xp 12 ∧ IsW w (.agg #[.bool sq, .slice Aq nq cq]) sq xq 12 := by
  rcases (show k = 0 ∨ k = 1 ∨ k = 2 ∨ k = 3 by omega) with rfl | rfl | rfl | rfl
  · exact ⟨_, _, _, _, _, _, _, _, _, _, by simp [Instr.index, run_underlying Try.underlying36, asIntOf, go_sem], ha, hb⟩
  · exact ⟨_, _, _, _, _, _, _, _, _, _, by simp [Instr.index, run_underlying Try.underlying36, asIntOf, go_sem], hb, ha⟩
  · exact ⟨_, _, _, _, _, _, _, _, _, _, by simp [Instr.index, run_underlying Try.underlying36, asIntOf, go_sem], ha, hf⟩
  · exact ⟨_, _, _, _, _, _, _, _, _, _, by simp [Instr.index, run_underlying Try.underlying36, asIntOf, go_sem], ha, ha⟩

set_option maxHeartbeats 8000000 in
theorem bigTells_in (sa : Bool) (Aa : Option Addr) (na ca : Nat) (xa : List Nat) (sb : Bool) (Ab : Option Addr) (nb cb : Nat) (xs : List Nat) (zn za zb : Int) (w : World) (Ha : Hid (Rd w Aa na ca xa)) (Hb : Hid (Rd w Ab nb cb xs)) (Ga : Hid (na ≤ maxLen)) (Gb : Hid (nb ≤ maxLen)) (HZa : Hid (za = zv sa (M.val (xa.take (min na 12))))) (HZb : Hid (zb = zv sb (M.val (xs.take (min nb 12))))) (hn0 : -9223372036854775808 ≤ zn) (hn1 : zn ≤ 9223372036854775807) :
    Calls Try.prog 4 #[.agg #[.bool sa, .slice Aa na ca], .agg #[.bool sb, .slice Ab nb cb], .int .i64 zn] w fun e w' => e = .returned (.bool true) ∧ Below w.heap.size w w' := by
  have Pa := (Bz.new w sa Aa na ca).alloc (.cells #[.bool sb, .slice Ab nb cb] 32)
  have Pb := Bz.new2 w (.cells #[.bool sa, .slice Aa na ca] 32) sb Ab nb cb
  have BB := bl_trans (bl_alloc w (.cells #[.bool sa, .slice Aa na ca] 32)) (bl_alloc _ (.cells #[.bool sb, .slice Ab nb cb] 32))
  have HA := Ha
  have HB := Hb
  go_enter Try.func4, Try.ntmps4
  have Fa := Lib.hid (show ∀ W, Below w.heap.size w W → Calls Try.prog 13 #[.agg #[.bool sa, .slice Aa na ca], .int .i64 12] W (Ans W fun _ v => v = .agg #[.bool sa, .slice Aa (min na 12) ca]) from fun W h => cFew (Ha.out.below h) Ga.out 12 _ rfl (by omega))
  have Fb := Lib.hid (show ∀ W, Below w.heap.size w W → Calls Try.prog 13 #[.agg #[.bool sb, .slice Ab nb cb], .int .i64 12] W (Ans W fun _ v => v = .agg #[.bool sb, .slice Ab (min nb 12) cb]) from fun W h => cFew (Hb.out.below h) Gb.out 12 _ rfl (by omega))
  have Pa_0 := Pa.c0
  have Pa_1 := Pa.c1
  have Pb_0 := Pb.c0
  have Pb_1 := Pb.c1
  go_wp2_with fail
  go_region_with (first
    | (go_at_call 13; ((with_reducible refine (Fa.out _ (Below.drew BB)).mono ?_); rintro e wf ⟨_, rfl, hf, rfl⟩; replace BB := bl_trans (Below.drew BB) hf; replace Pa := (Pa.drew).below hf; replace Pb := (Pb.drew).below hf; have Pa_2 := Pa.c0; have Pa_3 := Pa.c1; have Pb_2 := Pb.c0; have Pb_3 := Pb.c1; clear hf))
    | (go_at_call 13; ((with_reducible refine (Fb.out _ BB).mono ?_); rintro e wg ⟨_, rfl, hf, rfl⟩; replace BB := bl_trans BB hf; replace Pa := Pa.below hf; replace Pb := Pb.below hf; have Pa_4 := Pa.c0; have Pa_5 := Pa.c1; have Pb_4 := Pb.c0; have Pb_5 := Pb.c1; have Pa_6 := Pa.f 0; have Pa_7 := Pa.f 1; have Pb_6 := Pb.f 0; have Pb_7 := Pb.f 1; clear hf)))
  all_goals
    have st := two_store (s := sa) (A := Aa) (n := min na 12) (c := ca) (t := sb) (B := Ab) (m := min nb 12) (d := cb) Pa Pb (by omega) BB (Nat.le_refl _) (by omega)
    clear Pa_0 Pa_1 Pb_0 Pb_1 Pa_2 Pa_3 Pb_2 Pb_3 Pa_4 Pa_5 Pb_4 Pb_5 Pa_6 Pa_7 Pb_6 Pb_7
    replace Pa := st.1
    replace Pb := st.2.1
    replace BB := st.2.2
    clear st
    have Qa : IsM ((((wg.setCell ⟨w.heap.size, 0, none⟩ (.bool sa)).setCell ⟨w.heap.size, 1, none⟩ (.slice Aa (min na 12) ca)).setCell ⟨w.heap.size + 1, 0, none⟩ (.bool sb)).setCell ⟨w.heap.size + 1, 1, none⟩ (.slice Ab (min nb 12) cb)) (.agg #[.bool sa, .slice Aa (min na 12) ca]) za 12 := ⟨_, _, _, _, rfl, by rw [HZa.out]; exact few_zm (Ha.out.below BB) 12⟩
    have Qb : IsM ((((wg.setCell ⟨w.heap.size, 0, none⟩ (.bool sa)).setCell ⟨w.heap.size, 1, none⟩ (.slice Aa (min na 12) ca)).setCell ⟨w.heap.size + 1, 0, none⟩ (.bool sb)).setCell ⟨w.heap.size + 1, 1, none⟩ (.slice Ab (min nb 12) cb)) (.agg #[.bool sb, .slice Ab (min nb 12) cb]) zb 12 := ⟨_, _, _, _, rfl, by rw [HZb.out]; exact few_zm (Hb.out.below BB) 12⟩
    generalize ((((wg.setCell ⟨w.heap.size, 0, none⟩ (.bool sa)).setCell ⟨w.heap.size, 1, none⟩ (.slice Aa (min na 12) ca)).setCell ⟨w.heap.size + 1, 0, none⟩ (.bool sb)).setCell ⟨w.heap.size + 1, 1, none⟩ (.slice Ab (min nb 12) cb)) = wh at Pa Pb BB Qa Qb ⊢
    clear Ha Hb Ga Gb HZa HZb Fa Fb
    go_wp2_with fail
    refine wp_region_list (Ext := RB) (Rel := RBu) [fun v _ _ => v = .agg #[.bool sa, .slice Aa (min na 12) ca], fun v _ _ => v = .agg #[.bool sb, .slice Ab (min nb 12) cb], fun v _ _ => v = .agg #[.bool sa, .slice Aa (min na 12) ca, .bool sb, .slice Ab (min nb 12) cb], fun v _ _ => v = .agg #[.bool sb, .slice Ab (min nb 12) cb], fun v _ _ => v = .agg #[.bool sa, .slice Aa (min na 12) ca], fun v _ _ => v = .agg #[.bool sb, .slice Ab (min nb 12) cb, .bool sa, .slice Aa (min na 12) ca], fun v _ _ => v = .agg #[.bool sa, .slice Aa (min na 12) ca], fun v _ _ => v = .int .i64 zn, fun v _ w => IsT w v (zn) 2, fun v _ w => IsPF w v (.bool sa) (.slice Aa (min na 12) ca) (zn) 2, fun v _ _ => v = .agg #[.bool sa, .slice Aa (min na 12) ca], fun v _ _ => v = .agg #[.bool sa, .slice Aa (min na 12) ca], fun v _ _ => v = .agg #[.bool sa, .slice Aa (min na 12) ca, .bool sa, .slice Aa (min na 12) ca], fun v _ w => IsT4 w v (.bool sa) (.slice Aa (min na 12) ca) (.bool sb) (.slice Ab (min nb 12) cb) (zn) 2, fun v _ _ => v = Value.int IntKind.i64 0] (n := 15) (by kernel_rfl) rfl (by kernel_rfl) (by kernel_rfl) (by kernel_rfl) (by kernel_rfl) (by kernel_rfl) rb_refl rb_trans ⟨sC, ⟨sC, ⟨sC, ⟨sC, ⟨sC, ⟨sC, ⟨sC, ⟨sC, ⟨sT, ⟨sPF, ⟨sC, ⟨sC, ⟨sC, ⟨sT4, ⟨sC, trivial⟩⟩⟩⟩⟩⟩⟩⟩⟩⟩⟩⟩⟩⟩⟩ ?_ ?_
    · refine ⟨⟨⟨⟨⟨⟨⟨⟨⟨⟨⟨⟨⟨⟨⟨trivial, ?_⟩, ?_⟩, ?_⟩, ?_⟩, ?_⟩, ?_⟩, ?_⟩, ?_⟩, ?_⟩, ?_⟩, ?_⟩, ?_⟩, ?_⟩, ?_⟩, ?_⟩
      · refine rs_plain rfl rfl fun a wr S => ?_
        have X := undrew S.ext
        exact wp_load (ev_of ((S.old 3 (by kernel_rfl)).trans rfl)) (Pa.below X) (done (by kernel_rfl) rbu_refl rfl)
      · refine rs_plain rfl rfl fun a wr S => ?_
        have X := undrew S.ext
        exact wp_load (ev_of ((S.old 4 (by kernel_rfl)).trans rfl)) (Pb.below X) (done (by kernel_rfl) rbu_refl rfl)
      · refine rs_plain rfl rfl fun a wr S => ?_
        have X := undrew S.ext
        obtain ⟨v0, e0, h0⟩ := S.got 0 (by kernel_rfl)
        obtain ⟨v1, e1, h1⟩ := S.got 1 (by kernel_rfl)
        exact wp_bA2 ((ev_of (e0 19 (by kernel_rfl))).trans h0) ((ev_of (e1 20 (by kernel_rfl))).trans h1) (done (by kernel_rfl) rbu_refl rfl)
      · refine rs_plain rfl rfl fun a wr S => ?_
        have X := undrew S.ext
        exact wp_load (ev_of ((S.old 4 (by kernel_rfl)).trans rfl)) (Pb.below X) (done (by kernel_rfl) rbu_refl rfl)
      · refine rs_plain rfl rfl fun a wr S => ?_
        have X := undrew S.ext
        exact wp_load (ev_of ((S.old 3 (by kernel_rfl)).trans rfl)) (Pa.below X) (done (by kernel_rfl) rbu_refl rfl)
      · refine rs_plain rfl rfl fun a wr S => ?_
        have X := undrew S.ext
        obtain ⟨v3, e3, h3⟩ := S.got 3 (by kernel_rfl)
        obtain ⟨v4, e4, h4⟩ := S.got 4 (by kernel_rfl)
        exact wp_bA2 ((ev_of (e3 22 (by kernel_rfl))).trans h3) ((ev_of (e4 23 (by kernel_rfl))).trans h4) (done (by kernel_rfl) rbu_refl rfl)
      · refine rs_plain rfl rfl fun a wr S => ?_
        have X := undrew S.ext
        exact wp_load (ev_of ((S.old 3 (by kernel_rfl)).trans rfl)) (Pa.below X) (done (by kernel_rfl) rbu_refl rfl)
      · refine rs_plain rfl rfl fun a wr S => ?_
        have X := undrew S.ext
        exact wp_mv (ev_of ((S.old 2 (by kernel_rfl)).trans rfl)) (done (by kernel_rfl) rbu_refl rfl)
      · refine rs_plain rfl rfl fun a wr S => ?_
        have X := undrew S.ext
        obtain ⟨v7, e7, h7⟩ := S.got 7 (by kernel_rfl)
        exact st_call cf_ref02_From (args1 ((ev_of (e7 26 (by kernel_rfl))).trans h7)) (by kernel_rfl) rb (cRefFrom _ (by omega) (by omega)) (fun _ _ _ h => h)
      · refine rs_plain rfl rfl fun a wr S => ?_
        have X := undrew S.ext
        obtain ⟨v6, e6, h6⟩ := S.got 6 (by kernel_rfl)
        obtain ⟨v8, e8, h8⟩ := S.got 8 (by kernel_rfl)
        obtain ⟨b0, A0, n0, c0, hv0, T0⟩ := (show IsT wr _ (zn) 2 from h8)
        exact wp_bA2 ((ev_of (e6 25 (by kernel_rfl))).trans h6) ((ev_of (e8 27 (by kernel_rfl))).trans hv0) (done (by kernel_rfl) rbu_refl ⟨_, _, _, _, rfl, _, _, _, _, rfl, T0⟩)
      · refine rs_plain rfl rfl fun a wr S => ?_
        have X := undrew S.ext
        exact wp_load (ev_of ((S.old 3 (by kernel_rfl)).trans rfl)) (Pa.below X) (done (by kernel_rfl) rbu_refl rfl)
      · refine rs_plain rfl rfl fun a wr S => ?_
        have X := undrew S.ext
        exact wp_load (ev_of ((S.old 3 (by kernel_rfl)).trans rfl)) (Pa.below X) (done (by kernel_rfl) rbu_refl rfl)
      · refine rs_plain rfl rfl fun a wr S => ?_
        have X := undrew S.ext
        obtain ⟨v10, e10, h10⟩ := S.got 10 (by kernel_rfl)
        obtain ⟨v11, e11, h11⟩ := S.got 11 (by kernel_rfl)
        exact wp_bA2 ((ev_of (e10 29 (by kernel_rfl))).trans h10) ((ev_of (e11 30 (by kernel_rfl))).trans h11) (done (by kernel_rfl) rbu_refl rfl)
      · refine rs_plain rfl rfl fun a wr S => ?_
        have X := undrew S.ext
        obtain ⟨v2, e2, h2⟩ := S.got 2 (by kernel_rfl)
        obtain ⟨v5, e5, h5⟩ := S.got 5 (by kernel_rfl)
        obtain ⟨v9, e9, h9⟩ := S.got 9 (by kernel_rfl)
        obtain ⟨v12, e12, h12⟩ := S.got 12 (by kernel_rfl)
        obtain ⟨b2, A2, n2, c2, hv2, T2⟩ := (show IsPF wr _ (.bool sa) (.slice Aa (min na 12) ca) (zn) 2 from h9)
        exact wp_bA4 ((ev_of (e2 21 (by kernel_rfl))).trans h2) ((ev_of (e5 24 (by kernel_rfl))).trans h5) ((ev_of (e9 28 (by kernel_rfl))).trans hv2) ((ev_of (e12 31 (by kernel_rfl))).trans h12) (done (by kernel_rfl) rbu_refl ⟨_, _, _, _, rfl, T2⟩)
      · refine rs_plain rfl rfl fun a wr S => ?_
        have X := undrew S.ext
        exact wp_mv rfl (done (by kernel_rfl) rbu_refl rfl)
    · intro fa w2 hR hv
      replace hR := undrew hR
      have f0 : fa 0 = .agg #[.bool sa, .slice Aa (min na 12) ca] := (hvc (hv 0 (by omega))).elim fun _ h => h
      have f1 : fa 1 = .agg #[.bool sb, .slice Ab (min nb 12) cb] := (hvc (hv 1 (by omega))).elim fun _ h => h
      have f2 : fa 2 = .agg #[.bool sa, .slice Aa (min na 12) ca, .bool sb, .slice Ab (min nb 12) cb] := (hvc (hv 2 (by omega))).elim fun _ h => h
      have f3 : fa 3 = .agg #[.bool sb, .slice Ab (min nb 12) cb] := (hvc (hv 3 (by omega))).elim fun _ h => h
      have f4 : fa 4 = .agg #[.bool sa, .slice Aa (min na 12) ca] := (hvc (hv 4 (by omega))).elim fun _ h => h
      have f5 : fa 5 = .agg #[.bool sb, .slice Ab (min nb 12) cb, .bool sa, .slice Aa (min na 12) ca] := (hvc (hv 5 (by omega))).elim fun _ h => h
      have f6 : fa 6 = .agg #[.bool sa, .slice Aa (min na 12) ca] := (hvc (hv 6 (by omega))).elim fun _ h => h
      have f7 : fa 7 = .int .i64 zn := (hvc (hv 7 (by omega))).elim fun _ h => h
      have f10 : fa 10 = .agg #[.bool sa, .slice Aa (min na 12) ca] := (hvc (hv 10 (by omega))).elim fun _ h => h
      have f11 : fa 11 = .agg #[.bool sa, .slice Aa (min na 12) ca] := (hvc (hv 11 (by omega))).elim fun _ h => h
      have f12 : fa 12 = .agg #[.bool sa, .slice Aa (min na 12) ca, .bool sa, .slice Aa (min na 12) ca] := (hvc (hv 12 (by omega))).elim fun _ h => h
      have f14 : fa 14 = Value.int IntKind.i64 0 := (hvc (hv 14 (by omega))).elim fun _ h => h
      obtain ⟨bf, Af, nf, cf, fL, Qf⟩ := (show IsT4 w2 _ _ _ _ _ zn 2 from (hvc (hv 13 (by omega))).elim fun _ h => h)
      simp only [putFn, Act.put, List.setIfInBounds_toArray, List.set_cons_zero, List.set_cons_succ, f0, f1, f2, f3, f4, f5, f6, f7, f10, f11, f12, f14, fL]
      replace BB := bl_trans BB hR
      have Wa : IsW w2 (.agg #[.bool sa, .slice Aa (min na 12) ca]) sa (xa.take (min na 12)) 12 := ⟨_, _, _, rfl, (HA.out.below BB).take (by omega), by omega⟩
      have Wb : IsW w2 (.agg #[.bool sb, .slice Ab (min nb 12) cb]) sb (xs.take (min nb 12)) 12 := ⟨_, _, _, rfl, (HB.out.below BB).take (by omega), by omega⟩
      have hbf : bf = decide (zn < 0) := by
        obtain ⟨b', A', n', c', e, _, hb'⟩ := Qf
        cases e
        exact hb'
      have Wf := Qf.raw
      rw [← hbf] at Wf
      replace Wf := Wf.mono (show 2 ≤ 12 by omega)
      clear hR hv Pa Pb Qa Qb HA HB hbf Qf
      go_wp2
      go_loopw [33] (fun p wr => ∃ k : Nat, k ≤ 4 ∧ p = .int .i64 (k : Int) ∧ IsW wr (.agg #[.bool sa, .slice Aa (min na 12) ca]) sa (xa.take (min na 12)) 12 ∧ IsW wr (.agg #[.bool sb, .slice Ab (min nb 12) cb]) sb (xs.take (min nb 12)) 12 ∧ IsW wr (.agg #[.bool bf, .slice Af nf cf]) bf (M.lims zn.natAbs) 12 ∧ Below w.heap.size w wr) (fun p _ => 4 - (intOf p).toNat)
      case atStart => exact ⟨0, by omega, rfl, Wa, Wb, Wf, BB⟩
      case round =>
        clear Wa Wb Wf BB
        obtain ⟨k', hk', rfl, Wa, Wb, Wf, BB⟩ := hrel
        by_cases hk4 : k' < 4
        · obtain ⟨sp, Ap, np, cp, xp, sq, Aq, nq, cq, xq, hidx, Wp, Wq⟩ := pick4 wr k' hk4 Wa Wb Wf
          obtain ⟨zp, hzp⟩ : ∃ zp, zp = zv sp (M.val xp) := ⟨_, rfl⟩
          obtain ⟨zq, hzq⟩ : ∃ zq, zq = zv sq (M.val xq) := ⟨_, rfl⟩
          have H8 := bl_alloc wr (.cells #[.bool sp, .slice Ap np cp, .bool sq, .slice Aq nq cq] 34)
          have Ar8 := Ar.new wr #[.bool sp, .slice Ap np cp, .bool sq, .slice Aq nq cq] 34
          have Qp : IsM (wr.alloc (.cells #[.bool sp, .slice Ap np cp, .bool sq, .slice Aq nq cq] 34)) (.agg #[.bool sp, .slice Ap np cp]) zp 12 := by rw [hzp]; exact (Wp.below H8).m
          have Qq : IsM (wr.alloc (.cells #[.bool sp, .slice Ap np cp, .bool sq, .slice Aq nq cq] 34)) (.agg #[.bool sq, .slice Aq nq cq]) zq 12 := by rw [hzq]; exact (Wq.below H8).m
          replace Wq := Wq.below H8
          have Nq : Nm (wr.alloc (.cells #[.bool sp, .slice Ap np cp, .bool sq, .slice Aq nq cq] 34)) Aq nq cq (M.val xq) 12 := by
            obtain ⟨A', n', c', e, r, l⟩ := Wq
            cases e
            exact ⟨⟨_, r, rfl⟩, l⟩
          have HZ := Lib.hid hzq
          clear hzp hzq Wp
          go_wp2_with fail
          refine wp_region_list (Ext := (BelX ((wr.alloc (.cells #[.bool sp, .slice Ap np cp, .bool sq, .slice Aq nq cq] 34))).heap.size)) (Rel := (BelU ((wr.alloc (.cells #[.bool sp, .slice Ap np cp, .bool sq, .slice Aq nq cq] 34))).heap.size)) [fun v _ _ => v = .pointer (some ⟨wr.heap.size, 0, none⟩), fun v _ _ => v = .agg #[.bool sp, .slice Ap np cp], fun v _ _ => v = .pointer (some ⟨wr.heap.size, 2, none⟩), fun v _ _ => v = .agg #[.bool sq, .slice Aq nq cq], fun v _ w => IsP ((wr.alloc (.cells #[.bool sp, .slice Ap np cp, .bool sq, .slice Aq nq cq] 34))).heap.size v w, fun v _ w => IsP ((wr.alloc (.cells #[.bool sp, .slice Ap np cp, .bool sq, .slice Aq nq cq] 34))).heap.size v w, fun _ u w => HasC ((wr.alloc (.cells #[.bool sp, .slice Ap np cp, .bool sq, .slice Aq nq cq] 34))).heap.size u w sp Ap np cp, fun _ u w => HasC ((wr.alloc (.cells #[.bool sp, .slice Ap np cp, .bool sq, .slice Aq nq cq] 34))).heap.size u w sq Aq nq cq] (n := 8) (by kernel_rfl) rfl (by kernel_rfl) (by kernel_rfl) (by kernel_rfl) (by kernel_rfl) (by kernel_rfl) (rx_refl _) (rxu_trans _) ⟨sC, ⟨sC, ⟨sC, ⟨sC, ⟨xP, ⟨xP, ⟨xHC, ⟨xHC, trivial⟩⟩⟩⟩⟩⟩⟩⟩ ?_ ?_
          · refine ⟨⟨⟨⟨⟨⟨⟨⟨trivial, ?_⟩, ?_⟩, ?_⟩, ?_⟩, ?_⟩, ?_⟩, ?_⟩, ?_⟩
            · refine rs_plain rfl rfl fun a wr S => ?_
              have X := undrewX S.ext
              exact wp_jdx0 (ev_of ((S.old 8 (by kernel_rfl)).trans rfl)) (done (by kernel_rfl) (rxu_refl _) rfl)
            · refine rs_plain rfl rfl fun a wr S => ?_
              have X := undrewX S.ext
              obtain ⟨v0, e0, h0⟩ := S.got 0 (by kernel_rfl)
              exact wp_loadAt ((ev_of (e0 36 (by kernel_rfl))).trans h0) ((Ar8.below X).at 0 rfl) ((Ar8.below X).at 1 rfl) (done (by kernel_rfl) (rxu_refl _) rfl)
            · refine rs_plain rfl rfl fun a wr S => ?_
              have X := undrewX S.ext
              exact wp_jdx1 (ev_of ((S.old 8 (by kernel_rfl)).trans rfl)) (done (by kernel_rfl) (rxu_refl _) rfl)
            · refine rs_plain rfl rfl fun a wr S => ?_
              have X := undrewX S.ext
              obtain ⟨v2, e2, h2⟩ := S.got 2 (by kernel_rfl)
              exact wp_loadAt ((ev_of (e2 38 (by kernel_rfl))).trans h2) ((Ar8.below X).at 2 rfl) ((Ar8.below X).at 3 rfl) (done (by kernel_rfl) (rxu_refl _) rfl)
            · refine rs_plain rfl rfl fun a wr S => ?_
              have X := undrewX S.ext
              refine st_alloc X.size (fun _ _ _ h => h) fun j vj u hj hs => ?_
              have hj' : j ∈ [4, 5] := alloc_cases (by kernel_rfl) j hj
              simp only [List.mem_cons, List.not_mem_nil, or_false] at hj'
              rcases hj' with rfl | rfl <;> exact hs
            · refine rs_plain rfl rfl fun a wr S => ?_
              have X := undrewX S.ext
              refine st_alloc X.size (fun _ _ _ h => h) fun j vj u hj hs => ?_
              have hj' : j ∈ [4, 5] := alloc_cases (by kernel_rfl) j hj
              simp only [List.mem_cons, List.not_mem_nil, or_false] at hj'
              rcases hj' with rfl | rfl <;> exact hs
            · refine rs_plain rfl rfl fun a wr S => ?_
              have X := undrewX S.ext
              obtain ⟨v4, e4, h4⟩ := S.got 4 (by kernel_rfl)
              obtain ⟨v1, e1, h1⟩ := S.got 1 (by kernel_rfl)
              exact st_storeC (by kernel_rfl) (by kernel_rfl) (ev_of (e4 9 (by kernel_rfl))) h4 ((ev_of (e1 37 (by kernel_rfl))).trans h1) (fun _ _ _ h => h)
            · refine rs_plain rfl rfl fun a wr S => ?_
              have X := undrewX S.ext
              obtain ⟨v5, e5, h5⟩ := S.got 5 (by kernel_rfl)
              obtain ⟨v3, e3, h3⟩ := S.got 3 (by kernel_rfl)
              exact st_storeC (by kernel_rfl) (by kernel_rfl) (ev_of (e5 10 (by kernel_rfl))) h5 ((ev_of (e3 39 (by kernel_rfl))).trans h3) (fun _ _ _ h => h)
          · intro fb w3 hR hv
            replace hR := undrewX hR
            have f0 : fb 0 = .pointer (some ⟨wr.heap.size, 0, none⟩) := (hvc (hv 0 (by omega))).elim fun _ h => h
            have f1 : fb 1 = .agg #[.bool sp, .slice Ap np cp] := (hvc (hv 1 (by omega))).elim fun _ h => h
            have f2 : fb 2 = .pointer (some ⟨wr.heap.size, 2, none⟩) := (hvc (hv 2 (by omega))).elim fun _ h => h
            have f3 : fb 3 = .agg #[.bool sq, .slice Aq nq cq] := (hvc (hv 3 (by omega))).elim fun _ h => h
            obtain ⟨gp, f4, hgp, Pp⟩ := (show HasC _ (fb 4) w3 sp Ap np cp from hvs (hv 6 (by omega)) (by kernel_rfl))
            obtain ⟨gq, f5, hgq, Pq⟩ := (show HasC _ (fb 5) w3 sq Aq nq cq from hvs (hv 7 (by omega)) (by kernel_rfl))
            simp only [putFn, Act.put, List.setIfInBounds_toArray, List.set_cons_zero, List.set_cons_succ, f0, f1, f2, f3, f4, f5]
            replace H8 := bl_trans H8 hR
            replace Qp := Qp.below hR
            replace Qq := Qq.below hR
            replace Wq := Wq.below hR
            replace Nq := Nq.below hR
            clear hR hv hgp hgq Ar8
            go_wp2_with fail
            refine wp_region_list (Ext := RB) (Rel := RBu) [fun v _ _ => v = .agg #[.bool sp, .slice Ap np cp], fun v _ _ => v = .agg #[.bool sq, .slice Aq nq cq], fun v _ w => IsR2 w v (zp) 12 (zq) 12, fun v _ w => IsZ (w3).heap.size w v (zp + zq) 13, fun v _ _ => v = .agg #[.bool sp, .slice Ap np cp], fun v _ _ => v = .agg #[.bool sq, .slice Aq nq cq], fun v _ w => IsT w v (zp + zq) 13, fun v _ _ => v = .bool true, fun v _ _ => v = .bool false, fun v _ _ => v = .bool false, fun v _ _ => v = .agg #[.bool sp, .slice Ap np cp], fun v _ _ => v = .agg #[.bool sq, .slice Aq nq cq], fun v _ w => IsZ (w3).heap.size w v (zp - zq) 13, fun v _ _ => v = .agg #[.bool sp, .slice Ap np cp], fun v _ _ => v = .agg #[.bool sq, .slice Aq nq cq], fun v _ w => IsT w v (zp - zq) 13, fun v _ _ => v = .bool true, fun v _ _ => v = .bool false, fun v _ _ => v = .bool false, fun v _ _ => v = .bool false, fun v _ _ => v = .agg #[.bool sp, .slice Ap np cp], fun v _ _ => v = .agg #[.bool sq, .slice Aq nq cq], fun v _ w => IsR2 w v (zp) 12 (zq) 12, fun v _ w => IsZ (w3).heap.size w v (zp * zq) 24, fun v _ _ => v = .agg #[.bool sp, .slice Ap np cp], fun v _ _ => v = .agg #[.bool sq, .slice Aq nq cq], fun v _ w => IsT w v (zp * zq) 24, fun v _ _ => v = .bool true, fun v _ _ => v = .bool false, fun v _ _ => v = .bool false, fun v _ _ => v = .bool false, fun v _ _ => v = .agg #[.bool sp, .slice Ap np cp], fun v _ _ => v = .agg #[.bool sq, .slice Aq nq cq], fun v _ _ => v = .int .i64 (cmpI zp zq), fun v _ _ => v = .agg #[.bool sp, .slice Ap np cp], fun v _ _ => v = .agg #[.bool sq, .slice Aq nq cq], fun v _ _ => v = .int .i64 (cmpI zp zq), fun v _ _ => v = .bool false, fun v _ _ => v = .bool false] (n := 39) (by kernel_rfl) rfl (by kernel_rfl) (by kernel_rfl) (by kernel_rfl) (by kernel_rfl) (by kernel_rfl) rb_refl rb_trans ⟨sC, ⟨sC, ⟨sR2, ⟨sZ, ⟨sC, ⟨sC, ⟨sT, ⟨sC, ⟨sC, ⟨sC, ⟨sC, ⟨sC, ⟨sZ, ⟨sC, ⟨sC, ⟨sT, ⟨sC, ⟨sC, ⟨sC, ⟨sC, ⟨sC, ⟨sC, ⟨sR2, ⟨sZ, ⟨sC, ⟨sC, ⟨sT, ⟨sC, ⟨sC, ⟨sC, ⟨sC, ⟨sC, ⟨sC, ⟨sC, ⟨sC, ⟨sC, ⟨sC, ⟨sC, ⟨sC, trivial⟩⟩⟩⟩⟩⟩⟩⟩⟩⟩⟩⟩⟩⟩⟩⟩⟩⟩⟩⟩⟩⟩⟩⟩⟩⟩⟩⟩⟩⟩⟩⟩⟩⟩⟩⟩⟩⟩⟩ ?_ ?_
            · refine ⟨⟨⟨⟨⟨⟨⟨⟨⟨⟨⟨⟨⟨⟨⟨⟨⟨⟨⟨⟨⟨⟨⟨⟨⟨⟨⟨⟨⟨⟨⟨⟨⟨⟨⟨⟨⟨⟨⟨trivial, ?_⟩, ?_⟩, ?_⟩, ?_⟩, ?_⟩, ?_⟩, ?_⟩, ?_⟩, ?_⟩, ?_⟩, ?_⟩, ?_⟩, ?_⟩, ?_⟩, ?_⟩, ?_⟩, ?_⟩, ?_⟩, ?_⟩, ?_⟩, ?_⟩, ?_⟩, ?_⟩, ?_⟩, ?_⟩, ?_⟩, ?_⟩, ?_⟩, ?_⟩, ?_⟩, ?_⟩, ?_⟩, ?_⟩, ?_⟩, ?_⟩, ?_⟩, ?_⟩, ?_⟩, ?_⟩
              · refine rs_plain rfl rfl fun a wr S => ?_
                have X := undrew S.ext
                exact wp_load (ev_of ((S.old 9 (by kernel_rfl)).trans rfl)) (Pp.below X) (done (by kernel_rfl) rbu_refl rfl)
              · refine rs_plain rfl rfl fun a wr S => ?_
                have X := undrew S.ext
                exact wp_load (ev_of ((S.old 10 (by kernel_rfl)).trans rfl)) (Pq.below X) (done (by kernel_rfl) rbu_refl rfl)
              · refine rs_plain rfl rfl fun a wr S => ?_
                have X := undrew S.ext
                obtain ⟨v0, e0, h0⟩ := S.got 0 (by kernel_rfl)
                obtain ⟨v1, e1, h1⟩ := S.got 1 (by kernel_rfl)
                obtain ⟨b0, A0, n0, c0, hv0, Z0⟩ := (show IsM wr _ _ _ from (Qp.below X))
                obtain ⟨b1, A1, n1, c1, hv1, Z1⟩ := (show IsM wr _ _ _ from (Qq.below X))
                exact wp_bs2 (((ev_of (e0 40 (by kernel_rfl))).trans h0).trans hv0) (((ev_of (e1 41 (by kernel_rfl))).trans h1).trans hv1) (done' (by kernel_rfl) (rb _ _ _ (bl_alloc _ _)) (IsR2.new Z0 Z1))
              · refine rs_plain rfl rfl fun a wr S => ?_
                have X := undrew S.ext
                obtain ⟨v2, e2, h2⟩ := S.got 2 (by kernel_rfl)
                exact st_call cf_big_Add (args1 (ev_of (e2 42 (by kernel_rfl)))) (by kernel_rfl) rb (cAdd2 (z := zp) (u := zq) h2 (by omega) (by omega) X.size) (fun _ _ _ h => h)
              · refine rs_plain rfl rfl fun a wr S => ?_
                have X := undrew S.ext
                exact wp_load (ev_of ((S.old 9 (by kernel_rfl)).trans rfl)) (Pp.below X) (done (by kernel_rfl) rbu_refl rfl)
              · refine rs_plain rfl rfl fun a wr S => ?_
                have X := undrew S.ext
                exact wp_load (ev_of ((S.old 10 (by kernel_rfl)).trans rfl)) (Pq.below X) (done (by kernel_rfl) rbu_refl rfl)
              · refine rs_plain rfl rfl fun a wr S => ?_
                have X := undrew S.ext
                obtain ⟨v4, e4, h4⟩ := S.got 4 (by kernel_rfl)
                obtain ⟨v5, e5, h5⟩ := S.got 5 (by kernel_rfl)
                exact st_call cf_ref02_Add (args2 ((ev_of (e4 44 (by kernel_rfl))).trans h4) ((ev_of (e5 45 (by kernel_rfl))).trans h5)) (by kernel_rfl) rb (cRefAdd (Qp.below X) (Qq.below X) (by omega) (by omega)) (fun _ _ _ h => h)
              · refine rs_plain rfl rfl fun a wr S => ?_
                have X := undrew S.ext
                obtain ⟨v3, e3, h3⟩ := S.got 3 (by kernel_rfl)
                obtain ⟨v6, e6, h6⟩ := S.got 6 (by kernel_rfl)
                exact st_call cf_ref02_Same (args2 (ev_of (e3 43 (by kernel_rfl))) (ev_of (e6 46 (by kernel_rfl)))) (by kernel_rfl) rb (cSameQ h3.t h6 (by omega) (by omega) (decide_eq_true (rfl))) (fun _ _ _ h => h)
              · refine rs_plain rfl rfl fun a wr S => ?_
                have X := undrew S.ext
                obtain ⟨v7, e7, h7⟩ := S.got 7 (by kernel_rfl)
                exact wp_not ((ev_of (e7 47 (by kernel_rfl))).trans h7) (done (by kernel_rfl) rbu_refl rfl)
              · refine rs_plain rfl rfl fun a wr S => ?_
                have X := undrew S.ext
                obtain ⟨v8, e8, h8⟩ := S.got 8 (by kernel_rfl)
                exact wp_mv ((ev_of (e8 48 (by kernel_rfl))).trans h8) (done (by kernel_rfl) rbu_refl rfl)
              · refine rs_yes rfl rfl (by kernel_rfl) (by kernel_rfl : _ = some 49) (fun _ _ _ h => h) fun a wr S => ?_
                have X := undrew S.ext
                exact wp_load (ev_of ((S.old 9 (by kernel_rfl)).trans rfl)) (Pp.below X) (done (by kernel_rfl) rbu_refl rfl)
              · refine rs_yes rfl rfl (by kernel_rfl) (by kernel_rfl : _ = some 49) (fun _ _ _ h => h) fun a wr S => ?_
                have X := undrew S.ext
                exact wp_load (ev_of ((S.old 10 (by kernel_rfl)).trans rfl)) (Pq.below X) (done (by kernel_rfl) rbu_refl rfl)
              · refine rs_yes rfl rfl (by kernel_rfl) (by kernel_rfl : _ = some 49) (fun _ _ _ h => h) fun a wr S => ?_
                have X := undrew S.ext
                obtain ⟨v10, e10, h10⟩ := S.got 10 (by kernel_rfl)
                obtain ⟨v11, e11, h11⟩ := S.got 11 (by kernel_rfl)
                exact st_call cf_big_Sub (args2 ((ev_of (e10 50 (by kernel_rfl))).trans h10) ((ev_of (e11 51 (by kernel_rfl))).trans h11)) (by kernel_rfl) rb (cSub (Qp.below X) (Qq.below X) (by omega) (by omega) X.size) (fun _ _ _ h => h)
              · refine rs_yes rfl rfl (by kernel_rfl) (by kernel_rfl : _ = some 49) (fun _ _ _ h => h) fun a wr S => ?_
                have X := undrew S.ext
                exact wp_load (ev_of ((S.old 9 (by kernel_rfl)).trans rfl)) (Pp.below X) (done (by kernel_rfl) rbu_refl rfl)
              · refine rs_yes rfl rfl (by kernel_rfl) (by kernel_rfl : _ = some 49) (fun _ _ _ h => h) fun a wr S => ?_
                have X := undrew S.ext
                exact wp_load (ev_of ((S.old 10 (by kernel_rfl)).trans rfl)) (Pq.below X) (done (by kernel_rfl) rbu_refl rfl)
              · refine rs_yes rfl rfl (by kernel_rfl) (by kernel_rfl : _ = some 49) (fun _ _ _ h => h) fun a wr S => ?_
                have X := undrew S.ext
                obtain ⟨v13, e13, h13⟩ := S.got 13 (by kernel_rfl)
                obtain ⟨v14, e14, h14⟩ := S.got 14 (by kernel_rfl)
                exact st_call cf_ref02_Sub (args2 ((ev_of (e13 53 (by kernel_rfl))).trans h13) ((ev_of (e14 54 (by kernel_rfl))).trans h14)) (by kernel_rfl) rb (cRefSub (Qp.below X) (Qq.below X) (by omega) (by omega)) (fun _ _ _ h => h)
              · refine rs_yes rfl rfl (by kernel_rfl) (by kernel_rfl : _ = some 49) (fun _ _ _ h => h) fun a wr S => ?_
                have X := undrew S.ext
                obtain ⟨v12, e12, h12⟩ := S.got 12 (by kernel_rfl)
                obtain ⟨v15, e15, h15⟩ := S.got 15 (by kernel_rfl)
                exact st_call cf_ref02_Same (args2 (ev_of (e12 52 (by kernel_rfl))) (ev_of (e15 55 (by kernel_rfl)))) (by kernel_rfl) rb (cSameQ h12.t h15 (by omega) (by omega) (decide_eq_true (rfl))) (fun _ _ _ h => h)
              · refine rs_yes rfl rfl (by kernel_rfl) (by kernel_rfl : _ = some 49) (fun _ _ _ h => h) fun a wr S => ?_
                have X := undrew S.ext
                obtain ⟨v16, e16, h16⟩ := S.got 16 (by kernel_rfl)
                exact wp_not ((ev_of (e16 56 (by kernel_rfl))).trans h16) (done (by kernel_rfl) rbu_refl rfl)
              · refine rs_plain rfl rfl fun a wr S => ?_
                have X := undrew S.ext
                obtain ⟨v9, e9, h9⟩ := S.got 9 (by kernel_rfl)
                obtain ⟨v17, e17, h17⟩ := S.got 17 (by kernel_rfl)
                exact wp_pickF ((ev_of (e9 49 (by kernel_rfl))).trans h9) ((ev_of (e17 57 (by kernel_rfl))).trans h17) (done (by kernel_rfl) rbu_refl rfl)
              · refine rs_plain rfl rfl fun a wr S => ?_
                have X := undrew S.ext
                obtain ⟨v18, e18, h18⟩ := S.got 18 (by kernel_rfl)
                exact wp_mv ((ev_of (e18 58 (by kernel_rfl))).trans h18) (done (by kernel_rfl) rbu_refl rfl)
              · refine rs_yes rfl rfl (by kernel_rfl) (by kernel_rfl : _ = some 59) (fun _ _ _ h => h) fun a wr S => ?_
                have X := undrew S.ext
                exact wp_load (ev_of ((S.old 9 (by kernel_rfl)).trans rfl)) (Pp.below X) (done (by kernel_rfl) rbu_refl rfl)
              · refine rs_yes rfl rfl (by kernel_rfl) (by kernel_rfl : _ = some 59) (fun _ _ _ h => h) fun a wr S => ?_
                have X := undrew S.ext
                exact wp_load (ev_of ((S.old 10 (by kernel_rfl)).trans rfl)) (Pq.below X) (done (by kernel_rfl) rbu_refl rfl)
              · refine rs_yes rfl rfl (by kernel_rfl) (by kernel_rfl : _ = some 59) (fun _ _ _ h => h) fun a wr S => ?_
                have X := undrew S.ext
                obtain ⟨v20, e20, h20⟩ := S.got 20 (by kernel_rfl)
                obtain ⟨v21, e21, h21⟩ := S.got 21 (by kernel_rfl)
                obtain ⟨b0, A0, n0, c0, hv0, Z0⟩ := (show IsM wr _ _ _ from (Qp.below X))
                obtain ⟨b1, A1, n1, c1, hv1, Z1⟩ := (show IsM wr _ _ _ from (Qq.below X))
                exact wp_bs2 (((ev_of (e20 60 (by kernel_rfl))).trans h20).trans hv0) (((ev_of (e21 61 (by kernel_rfl))).trans h21).trans hv1) (done' (by kernel_rfl) (rb _ _ _ (bl_alloc _ _)) (IsR2.new Z0 Z1))
              · refine rs_yes rfl rfl (by kernel_rfl) (by kernel_rfl : _ = some 59) (fun _ _ _ h => h) fun a wr S => ?_
                have X := undrew S.ext
                obtain ⟨v22, e22, h22⟩ := S.got 22 (by kernel_rfl)
                exact st_call cf_big_Mul (args1 (ev_of (e22 62 (by kernel_rfl)))) (by kernel_rfl) rb (cMul2 (z := zp) (u := zq) h22 (by omega) (by omega) (by omega) X.size) (fun _ _ _ h => h)
              · refine rs_yes rfl rfl (by kernel_rfl) (by kernel_rfl : _ = some 59) (fun _ _ _ h => h) fun a wr S => ?_
                have X := undrew S.ext
                exact wp_load (ev_of ((S.old 9 (by kernel_rfl)).trans rfl)) (Pp.below X) (done (by kernel_rfl) rbu_refl rfl)
              · refine rs_yes rfl rfl (by kernel_rfl) (by kernel_rfl : _ = some 59) (fun _ _ _ h => h) fun a wr S => ?_
                have X := undrew S.ext
                exact wp_load (ev_of ((S.old 10 (by kernel_rfl)).trans rfl)) (Pq.below X) (done (by kernel_rfl) rbu_refl rfl)
              · refine rs_yes rfl rfl (by kernel_rfl) (by kernel_rfl : _ = some 59) (fun _ _ _ h => h) fun a wr S => ?_
                have X := undrew S.ext
                obtain ⟨v24, e24, h24⟩ := S.got 24 (by kernel_rfl)
                obtain ⟨v25, e25, h25⟩ := S.got 25 (by kernel_rfl)
                exact st_call cf_ref02_Mul (args2 ((ev_of (e24 64 (by kernel_rfl))).trans h24) ((ev_of (e25 65 (by kernel_rfl))).trans h25)) (by kernel_rfl) rb (cRefMul (Qp.below X) (Qq.below X) (by omega) (by omega)) (fun _ _ _ h => h)
              · refine rs_yes rfl rfl (by kernel_rfl) (by kernel_rfl : _ = some 59) (fun _ _ _ h => h) fun a wr S => ?_
                have X := undrew S.ext
                obtain ⟨v23, e23, h23⟩ := S.got 23 (by kernel_rfl)
                obtain ⟨v26, e26, h26⟩ := S.got 26 (by kernel_rfl)
                exact st_call cf_ref02_Same (args2 (ev_of (e23 63 (by kernel_rfl))) (ev_of (e26 66 (by kernel_rfl)))) (by kernel_rfl) rb (cSameQ h23.t h26 (by omega) (by omega) (decide_eq_true (rfl))) (fun _ _ _ h => h)
              · refine rs_yes rfl rfl (by kernel_rfl) (by kernel_rfl : _ = some 59) (fun _ _ _ h => h) fun a wr S => ?_
                have X := undrew S.ext
                obtain ⟨v27, e27, h27⟩ := S.got 27 (by kernel_rfl)
                exact wp_not ((ev_of (e27 67 (by kernel_rfl))).trans h27) (done (by kernel_rfl) rbu_refl rfl)
              · refine rs_plain rfl rfl fun a wr S => ?_
                have X := undrew S.ext
                obtain ⟨v19, e19, h19⟩ := S.got 19 (by kernel_rfl)
                obtain ⟨v28, e28, h28⟩ := S.got 28 (by kernel_rfl)
                exact wp_pickF ((ev_of (e19 59 (by kernel_rfl))).trans h19) ((ev_of (e28 68 (by kernel_rfl))).trans h28) (done (by kernel_rfl) rbu_refl rfl)
              · refine rs_plain rfl rfl fun a wr S => ?_
                have X := undrew S.ext
                obtain ⟨v29, e29, h29⟩ := S.got 29 (by kernel_rfl)
                exact wp_mv ((ev_of (e29 69 (by kernel_rfl))).trans h29) (done (by kernel_rfl) rbu_refl rfl)
              · refine rs_yes rfl rfl (by kernel_rfl) (by kernel_rfl : _ = some 70) (fun _ _ _ h => h) fun a wr S => ?_
                have X := undrew S.ext
                exact wp_load (ev_of ((S.old 9 (by kernel_rfl)).trans rfl)) (Pp.below X) (done (by kernel_rfl) rbu_refl rfl)
              · refine rs_yes rfl rfl (by kernel_rfl) (by kernel_rfl : _ = some 70) (fun _ _ _ h => h) fun a wr S => ?_
                have X := undrew S.ext
                exact wp_load (ev_of ((S.old 10 (by kernel_rfl)).trans rfl)) (Pq.below X) (done (by kernel_rfl) rbu_refl rfl)
              · refine rs_yes rfl rfl (by kernel_rfl) (by kernel_rfl : _ = some 70) (fun _ _ _ h => h) fun a wr S => ?_
                have X := undrew S.ext
                obtain ⟨v31, e31, h31⟩ := S.got 31 (by kernel_rfl)
                obtain ⟨v32, e32, h32⟩ := S.got 32 (by kernel_rfl)
                exact st_call cf_big_Cmp (args2 ((ev_of (e31 71 (by kernel_rfl))).trans h31) ((ev_of (e32 72 (by kernel_rfl))).trans h32)) (by kernel_rfl) rb (cCmp (Qp.below X) (Qq.below X) (by omega) (by omega) rfl) (fun _ _ _ h => h)
              · refine rs_yes rfl rfl (by kernel_rfl) (by kernel_rfl : _ = some 70) (fun _ _ _ h => h) fun a wr S => ?_
                have X := undrew S.ext
                exact wp_load (ev_of ((S.old 9 (by kernel_rfl)).trans rfl)) (Pp.below X) (done (by kernel_rfl) rbu_refl rfl)
              · refine rs_yes rfl rfl (by kernel_rfl) (by kernel_rfl : _ = some 70) (fun _ _ _ h => h) fun a wr S => ?_
                have X := undrew S.ext
                exact wp_load (ev_of ((S.old 10 (by kernel_rfl)).trans rfl)) (Pq.below X) (done (by kernel_rfl) rbu_refl rfl)
              · refine rs_yes rfl rfl (by kernel_rfl) (by kernel_rfl : _ = some 70) (fun _ _ _ h => h) fun a wr S => ?_
                have X := undrew S.ext
                obtain ⟨v34, e34, h34⟩ := S.got 34 (by kernel_rfl)
                obtain ⟨v35, e35, h35⟩ := S.got 35 (by kernel_rfl)
                exact st_call cf_ref02_Cmp (args2 ((ev_of (e34 74 (by kernel_rfl))).trans h34) ((ev_of (e35 75 (by kernel_rfl))).trans h35)) (by kernel_rfl) rb (cRefCmp (Qp.below X) (Qq.below X) (by omega) (by omega) rfl) (fun _ _ _ h => h)
              · refine rs_yes rfl rfl (by kernel_rfl) (by kernel_rfl : _ = some 70) (fun _ _ _ h => h) fun a wr S => ?_
                have X := undrew S.ext
                obtain ⟨v33, e33, h33⟩ := S.got 33 (by kernel_rfl)
                obtain ⟨v36, e36, h36⟩ := S.got 36 (by kernel_rfl)
                exact wp_neI ((ev_of (e33 73 (by kernel_rfl))).trans h33) ((ev_of (e36 76 (by kernel_rfl))).trans h36) (Or.inl rfl) (done (by kernel_rfl) rbu_refl (congrArg Value.bool (bne_self_eq_false _)))
              · refine rs_plain rfl rfl fun a wr S => ?_
                have X := undrew S.ext
                obtain ⟨v30, e30, h30⟩ := S.got 30 (by kernel_rfl)
                obtain ⟨v37, e37, h37⟩ := S.got 37 (by kernel_rfl)
                exact wp_pickF ((ev_of (e30 70 (by kernel_rfl))).trans h30) ((ev_of (e37 77 (by kernel_rfl))).trans h37) (done (by kernel_rfl) rbu_refl rfl)
            · intro fc w4 hR hv
              replace hR := undrew hR
              have f0 : fc 0 = .agg #[.bool sp, .slice Ap np cp] := (hvc (hv 0 (by omega))).elim fun _ h => h
              have f1 : fc 1 = .agg #[.bool sq, .slice Aq nq cq] := (hvc (hv 1 (by omega))).elim fun _ h => h
              have f4 : fc 4 = .agg #[.bool sp, .slice Ap np cp] := (hvc (hv 4 (by omega))).elim fun _ h => h
              have f5 : fc 5 = .agg #[.bool sq, .slice Aq nq cq] := (hvc (hv 5 (by omega))).elim fun _ h => h
              have f7 : fc 7 = .bool true := (hvc (hv 7 (by omega))).elim fun _ h => h
              have f8 : fc 8 = .bool false := (hvc (hv 8 (by omega))).elim fun _ h => h
              have f9 : fc 9 = .bool false := (hvc (hv 9 (by omega))).elim fun _ h => h
              have f10 : fc 10 = .agg #[.bool sp, .slice Ap np cp] := (hvc (hv 10 (by omega))).elim fun _ h => h
              have f11 : fc 11 = .agg #[.bool sq, .slice Aq nq cq] := (hvc (hv 11 (by omega))).elim fun _ h => h
              have f13 : fc 13 = .agg #[.bool sp, .slice Ap np cp] := (hvc (hv 13 (by omega))).elim fun _ h => h
              have f14 : fc 14 = .agg #[.bool sq, .slice Aq nq cq] := (hvc (hv 14 (by omega))).elim fun _ h => h
              have f16 : fc 16 = .bool true := (hvc (hv 16 (by omega))).elim fun _ h => h
              have f17 : fc 17 = .bool false := (hvc (hv 17 (by omega))).elim fun _ h => h
              have f18 : fc 18 = .bool false := (hvc (hv 18 (by omega))).elim fun _ h => h
              have f19 : fc 19 = .bool false := (hvc (hv 19 (by omega))).elim fun _ h => h
              have f20 : fc 20 = .agg #[.bool sp, .slice Ap np cp] := (hvc (hv 20 (by omega))).elim fun _ h => h
              have f21 : fc 21 = .agg #[.bool sq, .slice Aq nq cq] := (hvc (hv 21 (by omega))).elim fun _ h => h
              have f24 : fc 24 = .agg #[.bool sp, .slice Ap np cp] := (hvc (hv 24 (by omega))).elim fun _ h => h
              have f25 : fc 25 = .agg #[.bool sq, .slice Aq nq cq] := (hvc (hv 25 (by omega))).elim fun _ h => h
              have f27 : fc 27 = .bool true := (hvc (hv 27 (by omega))).elim fun _ h => h
              have f28 : fc 28 = .bool false := (hvc (hv 28 (by omega))).elim fun _ h => h
              have f29 : fc 29 = .bool false := (hvc (hv 29 (by omega))).elim fun _ h => h
              have f30 : fc 30 = .bool false := (hvc (hv 30 (by omega))).elim fun _ h => h
              have f31 : fc 31 = .agg #[.bool sp, .slice Ap np cp] := (hvc (hv 31 (by omega))).elim fun _ h => h
              have f32 : fc 32 = .agg #[.bool sq, .slice Aq nq cq] := (hvc (hv 32 (by omega))).elim fun _ h => h
              have f33 : fc 33 = .int .i64 (cmpI zp zq) := (hvc (hv 33 (by omega))).elim fun _ h => h
              have f34 : fc 34 = .agg #[.bool sp, .slice Ap np cp] := (hvc (hv 34 (by omega))).elim fun _ h => h
              have f35 : fc 35 = .agg #[.bool sq, .slice Aq nq cq] := (hvc (hv 35 (by omega))).elim fun _ h => h
              have f36 : fc 36 = .int .i64 (cmpI zp zq) := (hvc (hv 36 (by omega))).elim fun _ h => h
              have f37 : fc 37 = .bool false := (hvc (hv 37 (by omega))).elim fun _ h => h
              have f38 : fc 38 = .bool false := (hvc (hv 38 (by omega))).elim fun _ h => h
              simp only [putFn, Act.put, List.setIfInBounds_toArray, List.set_cons_zero, List.set_cons_succ, f0, f1, f4, f5, f7, f8, f9, f10, f11, f13, f14, f16, f17, f18, f19, f20, f21, f24, f25, f27, f28, f29, f30, f31, f32, f33, f34, f35, f36, f37, f38]
              replace H8 := bl_trans H8 hR
              replace Qq := Qq.below hR
              replace Wq := Wq.below hR
              replace Nq := Nq.below hR
              replace Pq := Pq.below hR
              clear hR hv Pp Qp
              have e0 := Pq.c0
              have e1 := Pq.c1
              go_wp2_with fail
              refine (cSmall Qq (by omega)).mono ?_
              rintro e w5 ⟨_, rfl, hb5, rfl⟩
              clear e0 e1
              replace H8 := bl_trans H8 hb5
              replace Qq := Qq.below hb5
              replace Wq := Wq.below hb5
              replace Nq := Nq.below hb5
              replace Pq := Pq.below hb5
              have e0 := Pq.c0
              have e1 := Pq.c1
              clear hb5
              go_wp2_with fail
              refine (cRefSmall (Qq.mono24 (show 12 ≤ 24 by omega))).mono ?_
              rintro e w6 ⟨_, rfl, hb6, rfl⟩
              clear e0 e1
              replace H8 := bl_trans H8 hb6
              replace Qq := Qq.below hb6
              replace Wq := Wq.below hb6
              replace Nq := Nq.below hb6
              replace Pq := Pq.below hb6
              clear hb6
              go_wp2_with fail
              refine wp_region_list (Ext := RB) (Rel := RBu) [fun v _ _ => v = .int .i64 (smI zq), fun v _ _ => v = .int .i64 (smI zq), fun v _ _ => v = .bool false, fun v _ _ => v = .bool false, fun v _ _ => v = .bool (smB zq), fun v _ _ => v = .bool (smB zq), fun v _ _ => v = .bool false, fun v _ _ => v = .bool false, fun v _ _ => v = .bool false, fun v _ _ => v = .agg #[.bool sq, .slice Aq nq cq], fun v _ _ => v = .bool (rtb sq xq), fun v _ _ => v = .agg #[.bool sq, .slice Aq nq cq], fun v _ _ => v = .bool (rtb sq xq), fun v _ _ => v = .bool false, fun v _ _ => v = .bool false, fun v _ _ => v = .bool false, fun v _ _ => v = .agg #[.bool sq, .slice Aq nq cq], fun v _ _ => v = .int .i64 (sgn zq), fun v _ _ => v = .agg #[.bool sq, .slice Aq nq cq], fun v _ _ => v = .int .i64 (sgn zq), fun v _ _ => v = .bool false, fun v _ _ => v = .bool false, fun v _ _ => v = .bool false, fun v _ _ => v = .agg #[.bool sq, .slice Aq nq cq], fun v _ w => IsZ (w6).heap.size w v (-zq) 12, fun v _ _ => v = .agg #[.bool sq, .slice Aq nq cq], fun v _ w => IsT w v (-zq) 12, fun v _ _ => v = .bool true, fun v _ _ => v = .bool false, fun v _ _ => v = .bool false, fun v _ _ => v = .bool false, fun v _ _ => v = .pointer (some ⟨gq, 0, none⟩), fun v _ _ => v = .bool sq, fun v _ _ => v = .pointer (some ⟨gq, 1, none⟩), fun v _ _ => v = .slice Aq nq cq, fun v _ w => IsZ (w6).heap.size w v (zv sq (M.val xq)) 12, fun v _ _ => v = .agg #[.bool sq, .slice Aq nq cq], fun v _ w => IsT w v (zq) 12, fun v _ _ => v = .bool true, fun v _ _ => v = .bool false, fun v _ _ => v = .bool false] (n := 41) (by kernel_rfl) rfl (by kernel_rfl) (by kernel_rfl) (by kernel_rfl) (by kernel_rfl) (by kernel_rfl) rb_refl rb_trans ⟨sC, ⟨sC, ⟨sC, ⟨sC, ⟨sC, ⟨sC, ⟨sC, ⟨sC, ⟨sC, ⟨sC, ⟨sC, ⟨sC, ⟨sC, ⟨sC, ⟨sC, ⟨sC, ⟨sC, ⟨sC, ⟨sC, ⟨sC, ⟨sC, ⟨sC, ⟨sC, ⟨sC, ⟨sZ, ⟨sC, ⟨sT, ⟨sC, ⟨sC, ⟨sC, ⟨sC, ⟨sC, ⟨sC, ⟨sC, ⟨sC, ⟨sZ, ⟨sC, ⟨sT, ⟨sC, ⟨sC, ⟨sC, trivial⟩⟩⟩⟩⟩⟩⟩⟩⟩⟩⟩⟩⟩⟩⟩⟩⟩⟩⟩⟩⟩⟩⟩⟩⟩⟩⟩⟩⟩⟩⟩⟩⟩⟩⟩⟩⟩⟩⟩⟩⟩ ?_ ?_
              · refine ⟨⟨⟨⟨⟨⟨⟨⟨⟨⟨⟨⟨⟨⟨⟨⟨⟨⟨⟨⟨⟨⟨⟨⟨⟨⟨⟨⟨⟨⟨⟨⟨⟨⟨⟨⟨⟨⟨⟨⟨⟨trivial, ?_⟩, ?_⟩, ?_⟩, ?_⟩, ?_⟩, ?_⟩, ?_⟩, ?_⟩, ?_⟩, ?_⟩, ?_⟩, ?_⟩, ?_⟩, ?_⟩, ?_⟩, ?_⟩, ?_⟩, ?_⟩, ?_⟩, ?_⟩, ?_⟩, ?_⟩, ?_⟩, ?_⟩, ?_⟩, ?_⟩, ?_⟩, ?_⟩, ?_⟩, ?_⟩, ?_⟩, ?_⟩, ?_⟩, ?_⟩, ?_⟩, ?_⟩, ?_⟩, ?_⟩, ?_⟩, ?_⟩, ?_⟩
                · refine rs_plain rfl rfl fun a wr S => ?_
                  have X := undrew S.ext
                  exact wp_mv (ev_of ((S.old 11 (by kernel_rfl)).trans rfl)) (done (by kernel_rfl) rbu_refl rfl)
                · refine rs_plain rfl rfl fun a wr S => ?_
                  have X := undrew S.ext
                  exact wp_mv (ev_of ((S.old 13 (by kernel_rfl)).trans rfl)) (done (by kernel_rfl) rbu_refl rfl)
                · refine rs_plain rfl rfl fun a wr S => ?_
                  have X := undrew S.ext
                  obtain ⟨v0, e0, h0⟩ := S.got 0 (by kernel_rfl)
                  obtain ⟨v1, e1, h1⟩ := S.got 1 (by kernel_rfl)
                  exact wp_neL ((ev_of (e0 89 (by kernel_rfl))).trans h0) ((ev_of (e1 90 (by kernel_rfl))).trans h1) (done (by kernel_rfl) rbu_refl (congrArg Value.bool (bne_self_eq_false _)))
                · refine rs_plain rfl rfl fun a wr S => ?_
                  have X := undrew S.ext
                  obtain ⟨v2, e2, h2⟩ := S.got 2 (by kernel_rfl)
                  exact wp_mv ((ev_of (e2 91 (by kernel_rfl))).trans h2) (done (by kernel_rfl) rbu_refl rfl)
                · refine rs_yes rfl rfl (by kernel_rfl) (by kernel_rfl : _ = some 92) (fun _ _ _ h => h) fun a wr S => ?_
                  have X := undrew S.ext
                  exact wp_mv (ev_of ((S.old 12 (by kernel_rfl)).trans rfl)) (done (by kernel_rfl) rbu_refl rfl)
                · refine rs_yes rfl rfl (by kernel_rfl) (by kernel_rfl : _ = some 92) (fun _ _ _ h => h) fun a wr S => ?_
                  have X := undrew S.ext
                  exact wp_mv (ev_of ((S.old 14 (by kernel_rfl)).trans rfl)) (done (by kernel_rfl) rbu_refl rfl)
                · refine rs_yes rfl rfl (by kernel_rfl) (by kernel_rfl : _ = some 92) (fun _ _ _ h => h) fun a wr S => ?_
                  have X := undrew S.ext
                  obtain ⟨v4, e4, h4⟩ := S.got 4 (by kernel_rfl)
                  obtain ⟨v5, e5, h5⟩ := S.got 5 (by kernel_rfl)
                  exact wp_neB ((ev_of (e4 93 (by kernel_rfl))).trans h4) ((ev_of (e5 94 (by kernel_rfl))).trans h5) (done (by kernel_rfl) rbu_refl (congrArg Value.bool (bne_self_eq_false _)))
                · refine rs_plain rfl rfl fun a wr S => ?_
                  have X := undrew S.ext
                  obtain ⟨v3, e3, h3⟩ := S.got 3 (by kernel_rfl)
                  obtain ⟨v6, e6, h6⟩ := S.got 6 (by kernel_rfl)
                  exact wp_pickF ((ev_of (e3 92 (by kernel_rfl))).trans h3) ((ev_of (e6 95 (by kernel_rfl))).trans h6) (done (by kernel_rfl) rbu_refl rfl)
                · refine rs_plain rfl rfl fun a wr S => ?_
                  have X := undrew S.ext
                  obtain ⟨v7, e7, h7⟩ := S.got 7 (by kernel_rfl)
                  exact wp_mv ((ev_of (e7 96 (by kernel_rfl))).trans h7) (done (by kernel_rfl) rbu_refl rfl)
                · refine rs_yes rfl rfl (by kernel_rfl) (by kernel_rfl : _ = some 97) (fun _ _ _ h => h) fun a wr S => ?_
                  have X := undrew S.ext
                  exact wp_load (ev_of ((S.old 10 (by kernel_rfl)).trans rfl)) (Pq.below X) (done (by kernel_rfl) rbu_refl rfl)
                · refine rs_yes rfl rfl (by kernel_rfl) (by kernel_rfl : _ = some 97) (fun _ _ _ h => h) fun a wr S => ?_
                  have X := undrew S.ext
                  obtain ⟨v9, e9, h9⟩ := S.got 9 (by kernel_rfl)
                  exact st_call cf_big_Right (args1 ((ev_of (e9 98 (by kernel_rfl))).trans h9)) (by kernel_rfl) rb (cRightW (Wq.below X) (by omega)) (fun _ _ _ h => h)
                · refine rs_yes rfl rfl (by kernel_rfl) (by kernel_rfl : _ = some 97) (fun _ _ _ h => h) fun a wr S => ?_
                  have X := undrew S.ext
                  exact wp_load (ev_of ((S.old 10 (by kernel_rfl)).trans rfl)) (Pq.below X) (done (by kernel_rfl) rbu_refl rfl)
                · refine rs_yes rfl rfl (by kernel_rfl) (by kernel_rfl : _ = some 97) (fun _ _ _ h => h) fun a wr S => ?_
                  have X := undrew S.ext
                  obtain ⟨v11, e11, h11⟩ := S.got 11 (by kernel_rfl)
                  exact st_call cf_ref02_Right (args1 ((ev_of (e11 100 (by kernel_rfl))).trans h11)) (by kernel_rfl) rb (cRefRightW (Wq.below X) (by omega)) (fun _ _ _ h => h)
                · refine rs_yes rfl rfl (by kernel_rfl) (by kernel_rfl : _ = some 97) (fun _ _ _ h => h) fun a wr S => ?_
                  have X := undrew S.ext
                  obtain ⟨v10, e10, h10⟩ := S.got 10 (by kernel_rfl)
                  obtain ⟨v12, e12, h12⟩ := S.got 12 (by kernel_rfl)
                  exact wp_neB ((ev_of (e10 99 (by kernel_rfl))).trans h10) ((ev_of (e12 101 (by kernel_rfl))).trans h12) (done (by kernel_rfl) rbu_refl (congrArg Value.bool (bne_self_eq_false _)))
                · refine rs_plain rfl rfl fun a wr S => ?_
                  have X := undrew S.ext
                  obtain ⟨v8, e8, h8⟩ := S.got 8 (by kernel_rfl)
                  obtain ⟨v13, e13, h13⟩ := S.got 13 (by kernel_rfl)
                  exact wp_pickF ((ev_of (e8 97 (by kernel_rfl))).trans h8) ((ev_of (e13 102 (by kernel_rfl))).trans h13) (done (by kernel_rfl) rbu_refl rfl)
                · refine rs_plain rfl rfl fun a wr S => ?_
                  have X := undrew S.ext
                  obtain ⟨v14, e14, h14⟩ := S.got 14 (by kernel_rfl)
                  exact wp_mv ((ev_of (e14 103 (by kernel_rfl))).trans h14) (done (by kernel_rfl) rbu_refl rfl)
                · refine rs_yes rfl rfl (by kernel_rfl) (by kernel_rfl : _ = some 104) (fun _ _ _ h => h) fun a wr S => ?_
                  have X := undrew S.ext
                  exact wp_load (ev_of ((S.old 10 (by kernel_rfl)).trans rfl)) (Pq.below X) (done (by kernel_rfl) rbu_refl rfl)
                · refine rs_yes rfl rfl (by kernel_rfl) (by kernel_rfl : _ = some 104) (fun _ _ _ h => h) fun a wr S => ?_
                  have X := undrew S.ext
                  obtain ⟨v16, e16, h16⟩ := S.got 16 (by kernel_rfl)
                  exact st_call cf_big_Sign (args1 ((ev_of (e16 105 (by kernel_rfl))).trans h16)) (by kernel_rfl) rb (cSign (Qq.below X) (by omega) rfl) (fun _ _ _ h => h)
                · refine rs_yes rfl rfl (by kernel_rfl) (by kernel_rfl : _ = some 104) (fun _ _ _ h => h) fun a wr S => ?_
                  have X := undrew S.ext
                  exact wp_load (ev_of ((S.old 10 (by kernel_rfl)).trans rfl)) (Pq.below X) (done (by kernel_rfl) rbu_refl rfl)
                · refine rs_yes rfl rfl (by kernel_rfl) (by kernel_rfl : _ = some 104) (fun _ _ _ h => h) fun a wr S => ?_
                  have X := undrew S.ext
                  obtain ⟨v18, e18, h18⟩ := S.got 18 (by kernel_rfl)
                  exact st_call cf_ref02_Sign (args1 ((ev_of (e18 107 (by kernel_rfl))).trans h18)) (by kernel_rfl) rb (cRefSign (Qq.below X) (by omega) rfl) (fun _ _ _ h => h)
                · refine rs_yes rfl rfl (by kernel_rfl) (by kernel_rfl : _ = some 104) (fun _ _ _ h => h) fun a wr S => ?_
                  have X := undrew S.ext
                  obtain ⟨v17, e17, h17⟩ := S.got 17 (by kernel_rfl)
                  obtain ⟨v19, e19, h19⟩ := S.got 19 (by kernel_rfl)
                  exact wp_neI ((ev_of (e17 106 (by kernel_rfl))).trans h17) ((ev_of (e19 108 (by kernel_rfl))).trans h19) (Or.inl rfl) (done (by kernel_rfl) rbu_refl (congrArg Value.bool (bne_self_eq_false _)))
                · refine rs_plain rfl rfl fun a wr S => ?_
                  have X := undrew S.ext
                  obtain ⟨v15, e15, h15⟩ := S.got 15 (by kernel_rfl)
                  obtain ⟨v20, e20, h20⟩ := S.got 20 (by kernel_rfl)
                  exact wp_pickF ((ev_of (e15 104 (by kernel_rfl))).trans h15) ((ev_of (e20 109 (by kernel_rfl))).trans h20) (done (by kernel_rfl) rbu_refl rfl)
                · refine rs_plain rfl rfl fun a wr S => ?_
                  have X := undrew S.ext
                  obtain ⟨v21, e21, h21⟩ := S.got 21 (by kernel_rfl)
                  exact wp_mv ((ev_of (e21 110 (by kernel_rfl))).trans h21) (done (by kernel_rfl) rbu_refl rfl)
                · refine rs_yes rfl rfl (by kernel_rfl) (by kernel_rfl : _ = some 111) (fun _ _ _ h => h) fun a wr S => ?_
                  have X := undrew S.ext
                  exact wp_load (ev_of ((S.old 10 (by kernel_rfl)).trans rfl)) (Pq.below X) (done (by kernel_rfl) rbu_refl rfl)
                · refine rs_yes rfl rfl (by kernel_rfl) (by kernel_rfl : _ = some 111) (fun _ _ _ h => h) fun a wr S => ?_
                  have X := undrew S.ext
                  obtain ⟨v23, e23, h23⟩ := S.got 23 (by kernel_rfl)
                  exact st_call cf_big_Neg (args1 ((ev_of (e23 112 (by kernel_rfl))).trans h23)) (by kernel_rfl) rb (cNeg (Qq.below X) (by omega) X.size) (fun _ _ _ h => h)
                · refine rs_yes rfl rfl (by kernel_rfl) (by kernel_rfl : _ = some 111) (fun _ _ _ h => h) fun a wr S => ?_
                  have X := undrew S.ext
                  exact wp_load (ev_of ((S.old 10 (by kernel_rfl)).trans rfl)) (Pq.below X) (done (by kernel_rfl) rbu_refl rfl)
                · refine rs_yes rfl rfl (by kernel_rfl) (by kernel_rfl : _ = some 111) (fun _ _ _ h => h) fun a wr S => ?_
                  have X := undrew S.ext
                  obtain ⟨v25, e25, h25⟩ := S.got 25 (by kernel_rfl)
                  exact st_call cf_ref02_Neg (args1 ((ev_of (e25 114 (by kernel_rfl))).trans h25)) (by kernel_rfl) rb (cRefNeg (Qq.below X) (by omega)) (fun _ _ _ h => h)
                · refine rs_yes rfl rfl (by kernel_rfl) (by kernel_rfl : _ = some 111) (fun _ _ _ h => h) fun a wr S => ?_
                  have X := undrew S.ext
                  obtain ⟨v24, e24, h24⟩ := S.got 24 (by kernel_rfl)
                  obtain ⟨v26, e26, h26⟩ := S.got 26 (by kernel_rfl)
                  exact st_call cf_ref02_Same (args2 (ev_of (e24 113 (by kernel_rfl))) (ev_of (e26 115 (by kernel_rfl)))) (by kernel_rfl) rb (cSameQ h24.t h26 (by omega) (by omega) (decide_eq_true (rfl))) (fun _ _ _ h => h)
                · refine rs_yes rfl rfl (by kernel_rfl) (by kernel_rfl : _ = some 111) (fun _ _ _ h => h) fun a wr S => ?_
                  have X := undrew S.ext
                  obtain ⟨v27, e27, h27⟩ := S.got 27 (by kernel_rfl)
                  exact wp_not ((ev_of (e27 116 (by kernel_rfl))).trans h27) (done (by kernel_rfl) rbu_refl rfl)
                · refine rs_plain rfl rfl fun a wr S => ?_
                  have X := undrew S.ext
                  obtain ⟨v22, e22, h22⟩ := S.got 22 (by kernel_rfl)
                  obtain ⟨v28, e28, h28⟩ := S.got 28 (by kernel_rfl)
                  exact wp_pickF ((ev_of (e22 111 (by kernel_rfl))).trans h22) ((ev_of (e28 117 (by kernel_rfl))).trans h28) (done (by kernel_rfl) rbu_refl rfl)
                · refine rs_plain rfl rfl fun a wr S => ?_
                  have X := undrew S.ext
                  obtain ⟨v29, e29, h29⟩ := S.got 29 (by kernel_rfl)
                  exact wp_mv ((ev_of (e29 118 (by kernel_rfl))).trans h29) (done (by kernel_rfl) rbu_refl rfl)
                · refine rs_yes rfl rfl (by kernel_rfl) (by kernel_rfl : _ = some 119) (fun _ _ _ h => h) fun a wr S => ?_
                  have X := undrew S.ext
                  exact wp_field0 (ev_of ((S.old 10 (by kernel_rfl)).trans rfl)) (done (by kernel_rfl) rbu_refl rfl)
                · refine rs_yes rfl rfl (by kernel_rfl) (by kernel_rfl : _ = some 119) (fun _ _ _ h => h) fun a wr S => ?_
                  have X := undrew S.ext
                  obtain ⟨v31, e31, h31⟩ := S.got 31 (by kernel_rfl)
                  exact wp_loadB ((ev_of (e31 120 (by kernel_rfl))).trans h31) (Pq.below X) (done (by kernel_rfl) rbu_refl rfl)
                · refine rs_yes rfl rfl (by kernel_rfl) (by kernel_rfl : _ = some 119) (fun _ _ _ h => h) fun a wr S => ?_
                  have X := undrew S.ext
                  exact wp_field1 (ev_of ((S.old 10 (by kernel_rfl)).trans rfl)) (done (by kernel_rfl) rbu_refl rfl)
                · refine rs_yes rfl rfl (by kernel_rfl) (by kernel_rfl : _ = some 119) (fun _ _ _ h => h) fun a wr S => ?_
                  have X := undrew S.ext
                  obtain ⟨v33, e33, h33⟩ := S.got 33 (by kernel_rfl)
                  exact wp_loadM ((ev_of (e33 122 (by kernel_rfl))).trans h33) (Pq.below X) (done (by kernel_rfl) rbu_refl rfl)
                · refine rs_yes rfl rfl (by kernel_rfl) (by kernel_rfl : _ = some 119) (fun _ _ _ h => h) fun a wr S => ?_
                  have X := undrew S.ext
                  obtain ⟨v32, e32, h32⟩ := S.got 32 (by kernel_rfl)
                  obtain ⟨v34, e34, h34⟩ := S.got 34 (by kernel_rfl)
                  exact st_call cf_big_Of (args2 ((ev_of (e32 121 (by kernel_rfl))).trans h32) ((ev_of (e34 123 (by kernel_rfl))).trans h34)) (by kernel_rfl) rb (cOf sq (Nq.below X) (by omega) X.size) (fun _ _ _ h => h)
                · refine rs_yes rfl rfl (by kernel_rfl) (by kernel_rfl : _ = some 119) (fun _ _ _ h => h) fun a wr S => ?_
                  have X := undrew S.ext
                  exact wp_load (ev_of ((S.old 10 (by kernel_rfl)).trans rfl)) (Pq.below X) (done (by kernel_rfl) rbu_refl rfl)
                · refine rs_yes rfl rfl (by kernel_rfl) (by kernel_rfl : _ = some 119) (fun _ _ _ h => h) fun a wr S => ?_
                  have X := undrew S.ext
                  obtain ⟨v36, e36, h36⟩ := S.got 36 (by kernel_rfl)
                  exact st_call cf_ref02_Made (args1 ((ev_of (e36 125 (by kernel_rfl))).trans h36)) (by kernel_rfl) rb (cRefMade (Qq.below X) (by omega)) (fun _ _ _ h => h)
                · refine rs_yes rfl rfl (by kernel_rfl) (by kernel_rfl : _ = some 119) (fun _ _ _ h => h) fun a wr S => ?_
                  have X := undrew S.ext
                  obtain ⟨v35, e35, h35⟩ := S.got 35 (by kernel_rfl)
                  obtain ⟨v37, e37, h37⟩ := S.got 37 (by kernel_rfl)
                  exact st_call cf_ref02_Same (args2 (ev_of (e35 124 (by kernel_rfl))) (ev_of (e37 126 (by kernel_rfl)))) (by kernel_rfl) rb (cSameQ h35.t h37 (by omega) (by omega) (decide_eq_true (HZ.out.symm))) (fun _ _ _ h => h)
                · refine rs_yes rfl rfl (by kernel_rfl) (by kernel_rfl : _ = some 119) (fun _ _ _ h => h) fun a wr S => ?_
                  have X := undrew S.ext
                  obtain ⟨v38, e38, h38⟩ := S.got 38 (by kernel_rfl)
                  exact wp_not ((ev_of (e38 127 (by kernel_rfl))).trans h38) (done (by kernel_rfl) rbu_refl rfl)
                · refine rs_plain rfl rfl fun a wr S => ?_
                  have X := undrew S.ext
                  obtain ⟨v30, e30, h30⟩ := S.got 30 (by kernel_rfl)
                  obtain ⟨v39, e39, h39⟩ := S.got 39 (by kernel_rfl)
                  exact wp_pickF ((ev_of (e30 119 (by kernel_rfl))).trans h30) ((ev_of (e39 128 (by kernel_rfl))).trans h39) (done (by kernel_rfl) rbu_refl rfl)
              · intro fd w7 hR hv
                replace hR := undrew hR
                have f0 : fd 0 = .int .i64 (smI zq) := (hvc (hv 0 (by omega))).elim fun _ h => h
                have f1 : fd 1 = .int .i64 (smI zq) := (hvc (hv 1 (by omega))).elim fun _ h => h
                have f2 : fd 2 = .bool false := (hvc (hv 2 (by omega))).elim fun _ h => h
                have f3 : fd 3 = .bool false := (hvc (hv 3 (by omega))).elim fun _ h => h
                have f4 : fd 4 = .bool (smB zq) := (hvc (hv 4 (by omega))).elim fun _ h => h
                have f5 : fd 5 = .bool (smB zq) := (hvc (hv 5 (by omega))).elim fun _ h => h
                have f6 : fd 6 = .bool false := (hvc (hv 6 (by omega))).elim fun _ h => h
                have f7 : fd 7 = .bool false := (hvc (hv 7 (by omega))).elim fun _ h => h
                have f8 : fd 8 = .bool false := (hvc (hv 8 (by omega))).elim fun _ h => h
                have f9 : fd 9 = .agg #[.bool sq, .slice Aq nq cq] := (hvc (hv 9 (by omega))).elim fun _ h => h
                have f10 : fd 10 = .bool (rtb sq xq) := (hvc (hv 10 (by omega))).elim fun _ h => h
                have f11 : fd 11 = .agg #[.bool sq, .slice Aq nq cq] := (hvc (hv 11 (by omega))).elim fun _ h => h
                have f12 : fd 12 = .bool (rtb sq xq) := (hvc (hv 12 (by omega))).elim fun _ h => h
                have f13 : fd 13 = .bool false := (hvc (hv 13 (by omega))).elim fun _ h => h
                have f14 : fd 14 = .bool false := (hvc (hv 14 (by omega))).elim fun _ h => h
                have f15 : fd 15 = .bool false := (hvc (hv 15 (by omega))).elim fun _ h => h
                have f16 : fd 16 = .agg #[.bool sq, .slice Aq nq cq] := (hvc (hv 16 (by omega))).elim fun _ h => h
                have f17 : fd 17 = .int .i64 (sgn zq) := (hvc (hv 17 (by omega))).elim fun _ h => h
                have f18 : fd 18 = .agg #[.bool sq, .slice Aq nq cq] := (hvc (hv 18 (by omega))).elim fun _ h => h
                have f19 : fd 19 = .int .i64 (sgn zq) := (hvc (hv 19 (by omega))).elim fun _ h => h
                have f20 : fd 20 = .bool false := (hvc (hv 20 (by omega))).elim fun _ h => h
                have f21 : fd 21 = .bool false := (hvc (hv 21 (by omega))).elim fun _ h => h
                have f22 : fd 22 = .bool false := (hvc (hv 22 (by omega))).elim fun _ h => h
                have f23 : fd 23 = .agg #[.bool sq, .slice Aq nq cq] := (hvc (hv 23 (by omega))).elim fun _ h => h
                have f25 : fd 25 = .agg #[.bool sq, .slice Aq nq cq] := (hvc (hv 25 (by omega))).elim fun _ h => h
                have f27 : fd 27 = .bool true := (hvc (hv 27 (by omega))).elim fun _ h => h
                have f28 : fd 28 = .bool false := (hvc (hv 28 (by omega))).elim fun _ h => h
                have f29 : fd 29 = .bool false := (hvc (hv 29 (by omega))).elim fun _ h => h
                have f30 : fd 30 = .bool false := (hvc (hv 30 (by omega))).elim fun _ h => h
                have f31 : fd 31 = .pointer (some ⟨gq, 0, none⟩) := (hvc (hv 31 (by omega))).elim fun _ h => h
                have f32 : fd 32 = .bool sq := (hvc (hv 32 (by omega))).elim fun _ h => h
                have f33 : fd 33 = .pointer (some ⟨gq, 1, none⟩) := (hvc (hv 33 (by omega))).elim fun _ h => h
                have f34 : fd 34 = .slice Aq nq cq := (hvc (hv 34 (by omega))).elim fun _ h => h
                have f36 : fd 36 = .agg #[.bool sq, .slice Aq nq cq] := (hvc (hv 36 (by omega))).elim fun _ h => h
                have f38 : fd 38 = .bool true := (hvc (hv 38 (by omega))).elim fun _ h => h
                have f39 : fd 39 = .bool false := (hvc (hv 39 (by omega))).elim fun _ h => h
                have f40 : fd 40 = .bool false := (hvc (hv 40 (by omega))).elim fun _ h => h
                simp only [putFn, Act.put, List.setIfInBounds_toArray, List.set_cons_zero, List.set_cons_succ, f0, f1, f2, f3, f4, f5, f6, f7, f8, f9, f10, f11, f12, f13, f14, f15, f16, f17, f18, f19, f20, f21, f22, f23, f25, f27, f28, f29, f30, f31, f32, f33, f34, f36, f38, f39, f40]
                replace H8 := bl_trans H8 hR
                clear hR hv Pq Qq Wq Nq
                go_wp2
                go_roundw
                case rel => repeat' first | exact ⟨⟨k' + 1, by omega, by go_num, Wa.below H8, Wb.below H8, Wf.below H8, bl_trans BB H8⟩, rfl⟩ | apply Exists.intro
                case measure => simp [intOf]; omega
        · obtain rfl : k' = 4 := by omega
          go_wp2_with fail
          refine (cFrom zn (by omega) (by omega) (Nat.le_refl _)).mono ?_
          rintro e w3 ⟨_, rfl, hb3, q3⟩
          replace BB := bl_trans BB hb3
          clear hb3
          go_wp2_with fail
          refine (cRefFrom zn (by omega) (by omega)).mono ?_
          rintro e w4 ⟨_, rfl, hb4, q4⟩
          replace BB := bl_trans BB hb4
          replace q3 := q3.below hb4
          clear hb4
          go_wp2_with fail
          refine (cSameR q3.t q4 (by omega) (by omega)).mono ?_
          rintro e w5 ⟨_, rfl, hb5, rfl⟩
          replace BB := bl_trans BB hb5
          rw [show decide (zn = zn) = true from decide_eq_true rfl]
          clear hb5 q3 q4
          go_wp2_with fail
          refine (cWorks _).mono ?_
          rintro e w7 ⟨_, rfl, hb7, rfl⟩
          replace BB := bl_trans BB hb7
          clear hb7
          go_wp2
          go_ret
          exact ⟨rfl, BB⟩

theorem bigTells_walk (sa : Bool) (Aa : Option Addr) (na ca : Nat) (xa : List Nat) (sb : Bool) (Ab : Option Addr) (nb cb : Nat) (xs : List Nat) (zn : Int) (w : World) (ha : Rd w Aa na ca xa) (ga : na ≤ maxLen) (hb : Rd w Ab nb cb xs) (gb : nb ≤ maxLen) (hn : -9223372036854775808 ≤ zn ∧ zn ≤ 9223372036854775807) :
    Calls Try.prog 4 #[.agg #[.bool sa, .slice Aa na ca], .agg #[.bool sb, .slice Ab nb cb], .int .i64 zn] w fun e w' => e = .returned (.bool true) ∧ Below w.heap.size w w' :=
  bigTells_in sa Aa na ca xa sb Ab nb cb xs zn _ _ w (Lib.hid ha) (Lib.hid hb) (Lib.hid ga) (Lib.hid gb) (Lib.hid rfl) (Lib.hid rfl) hn.1 hn.2

end Go.Proofs.Ythjgonfohjgfaaa
