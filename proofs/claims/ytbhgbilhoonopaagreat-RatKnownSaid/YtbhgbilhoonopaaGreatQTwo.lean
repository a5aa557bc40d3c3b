/- rat.ofTwo: two right fractions, brought to one D, and what is told of them. -/
import Derived.Test.YtbhgbilhoonopaaGreatQOne
namespace Go.Proofs.YtbhgbilhoonopaaGreat
open Go.RowKit
set_option linter.unusedVariables false
set_option maxRecDepth 100000

/-- Block g holds this function. -/
structure Bf (w : World) (g : Nat) (f : Value) (T : TypeId) : Prop where
  row : w.heap[g]? = some (.cells #[f] T (0, 0))
section
variable {w w' : World} {g : Nat} {f : Value} {T : TypeId}
theorem Bf.lt (h : Bf w g f T) : g < w.heap.size := (Array.getElem?_eq_some_iff.1 h.row).1
theorem Bf.below (h : Bf w g f T) (hb : Below w.heap.size w w') : Bf w' g f T := ⟨(hb.block g h.lt).trans h.row⟩
theorem Bf.new (w : World) (f : Value) (T : TypeId) : Bf (w.alloc (.cells #[f] T)) w.heap.size f T := ⟨heap_alloc_new w _⟩
theorem Bf.new3 (w : World) (o o' : Obj) (f : Value) (T : TypeId) : Bf (((w.alloc o).alloc o').alloc (.cells #[f] T)) (w.heap.size + 1 + 1) f T := by
  have := Bf.new ((w.alloc o).alloc o') f T
  simp only [hs_alloc] at this
  exact this
theorem Bf.c0 (h : Bf w g f T) : w.cell? ⟨g, 0, none⟩ = some f := by
  rw [cell_of_row _ _ _ _ _ _ h.row]; rfl
end
section
variable {a : Act} {w : World} {Q : Exit → Act → World → Prop} {K : Act → World → Prop} {dst : Option Tmp} {ty : TypeId} {pos : String} {af : Array Edge} {gd : Option (Nat × Bool)} {x : Operand} {g : Nat} {fn : FuncId} {cs : Array Value}
theorem wp_floadR (hx : a.eval x = .pointer (some ⟨g, 0, none⟩)) (hb : Bf w g (.func (Fn.func fn) #[] cs) 58) (h : K (a.put dst (.func (Fn.func fn) #[] cs)) w) : Oper.wp Tryz.prog ⟨dst, .load 58 x, ty, pos, af, gd⟩ a w K Q := by
  have c0 := hb.c0
  unfold Oper.wp execOp
  simp only [hx]
  go_simp
  exact h
theorem wp_floadI (hx : a.eval x = .pointer (some ⟨g, 0, none⟩)) (hb : Bf w g (.func (Fn.func fn) #[] cs) 71) (h : K (a.put dst (.func (Fn.func fn) #[] cs)) w) : Oper.wp Tryz.prog ⟨dst, .load 71 x, ty, pos, af, gd⟩ a w K Q := by
  have c0 := hb.c0
  unfold Oper.wp execOp
  simp only [hx]
  go_simp
  exact h
end
theorem unsM {w : World} {A : Option Addr} {n c x k : Nat} (h : Nm w A n c x k) : IsM w (.agg #[.bool false, .slice A n c]) (x : Int) k := ⟨_, _, _, _, rfl, ⟨_, h, rfl⟩⟩
theorem ofA_lt {a b : Rat} {R k : Nat} (h : b.den < R ^ k) : ofA a b < R ^ k := Nat.lt_of_le_of_lt (Nat.div_le_self _ _) h
theorem ofB_lt {a b : Rat} {R k : Nat} (h : a.den < R ^ k) : ofB a b < R ^ k := Nat.lt_of_le_of_lt (Nat.div_le_self _ _) h
theorem mul_fits {p q : Rat} {k j : Nat} (h1 : p.num.natAbs < M.R ^ k) (h2 : p.den < M.R ^ k) (h3 : q.num.natAbs < M.R ^ j) (h4 : q.den < M.R ^ j) : (p * q).num.natAbs < M.R ^ (k + j) ∧ (p * q).den < M.R ^ (k + j) := by
  rw [Rat.mul_def']
  refine ⟨Nat.lt_of_le_of_lt (num_le _ _) ?_, Nat.lt_of_le_of_lt (den_le _ (Nat.mul_ne_zero p.den_nz q.den_nz)) (mul_lt_pow h2 h4)⟩
  rw [Int.natAbs_mul]
  exact mul_lt_pow h1 h3

set_option maxHeartbeats 4000000 in
theorem two2_Cmp {w : World} {v : Value} {p q : Rat} {k j N ga gt : Nat} {b : Bool} {A B : Option Addr} {n c m d : Nat} (hb : IsQ N w v q j) (PA : Bq w ga b A n c B m d) (QP : IsQt w (.agg #[.bool b, .slice A n c, .slice B m d]) p k) (PT : Bf w gt (.func (Fn.func 70) #[] #[]) 71) (hk : k ≤ 18) (hj : j ≤ 18) : Calls Tryz.prog 114 #[v, .pointer (some ⟨ga, 0, none⟩), .pointer (some ⟨gt, 0, none⟩)] w (Ans w fun w' v => v = .int .i64 (cmpQ p q)) := by
  obtain ⟨t, A', n', c', B', m', d', rfl, Zb, Ob, lb⟩ := hb
  have h1 := QP.num_lt
  have h2 := QP.den_lt
  have h3 : q.num.natAbs < M.R ^ j := Zb.tm.nm.lt
  have h4 : q.den < M.R ^ j := by rw [← M.lims_length_le, Ob.len]; exact lb
  obtain ⟨_, _, _, _, _, _, _, ea, Ta, hsa, Da⟩ := QP
  cases ea
  have HG := Lib.hid (show p.den.gcd q.den ≠ 0 by have := two_g p q; omega)
  have PB := Bq.new w t A' n' c' B' m' d'
  have BB := bl_alloc w (.cells #[.bool t, .slice A' n' c', .slice B' m' d'] 26)
  have hga := PA.lt
  have hgt := PT.lt
  replace PA := PA.below BB
  replace PT := PT.below BB
  have NA : Nm _ B m d p.den k := (Da.nm).below BB
  have NB : Nm _ B' m' d' q.den j := Nm.below ⟨⟨_, Ob.rd, M.val_lims _⟩, lb⟩ BB
  have ZA : IsM (w.alloc (.cells #[.bool t, .slice A' n' c', .slice B' m' d'] 26)) (.agg #[.bool b, .slice A n c]) p.num k := by
    refine ⟨_, _, _, _, rfl, ⟨⟨_, Ta.nm.below BB, ?_⟩⟩⟩
    rw [hsa]
    by_cases h : p.num < 0
    · rw [decide_eq_true h, zv_true]; omega
    · rw [decide_eq_false h, zv_false]; omega
  have ZB : IsM (w.alloc (.cells #[.bool t, .slice A' n' c', .slice B' m' d'] 26)) (.agg #[.bool t, .slice A' n' c']) q.num j := ⟨_, _, _, _, rfl, Zb.zm.below BB⟩
  have hs0 : (w.alloc (.cells #[.bool t, .slice A' n' c', .slice B' m' d'] 26)).heap.size = w.heap.size + 1 := by simp
  clear Zb Ob lb Ta hsa Da
  have a2 := PA.c2
  have b2 := PB.c2
  go_enter Tryz.func114, Tryz.ntmps114
  go_wp2_with fail
  clear a2 b2
  generalize (w.alloc (.cells #[.bool t, .slice A' n' c', .slice B' m' d'] 26)) = W0 at PA PB PT NA NB ZA ZB BB hs0 ⊢
  refine (cGcd (N := 0) ⟨_, _, _, rfl, NA⟩ ⟨_, _, _, rfl, NB⟩ (by omega) (by omega) (Nat.zero_le _)).mono ?_
  rintro e w1 ⟨_, rfl, hb1, G, gn, gc, rfl, og, lg⟩
  have NG : Nm w1 G gn gc (p.den.gcd q.den) (max k j) := ⟨⟨_, og.rd, M.val_lims _⟩, lg⟩
  have hs1 := hb1.size
  replace PA := PA.below hb1
  replace PB := PB.below hb1
  replace PT := PT.below hb1
  replace NA := NA.below hb1
  replace NB := NB.below hb1
  replace ZA := ZA.below hb1
  replace ZB := ZB.below hb1
  replace BB := bl_trans BB hb1
  clear hb1 og lg
  go_wp2_with fail
  refine wp_region_list (Ext := RB) (Rel := RBu) [fun v _ _ => v = .pointer (some ⟨w.heap.size, 2, none⟩), fun v _ _ => v = .slice B' m' d', fun v _ _ => v = .slice G gn gc, fun v _ w => IsD (w1).heap.size w v (q.den / (p.den.gcd q.den)) j, fun v _ _ => v = .pointer (some ⟨ga, 2, none⟩), fun v _ _ => v = .slice B m d, fun v _ _ => v = .slice G gn gc, fun v _ w => IsD (w1).heap.size w v (p.den / (p.den.gcd q.den)) k, fun v _ w => IsD (w1).heap.size w v (q.den / (p.den.gcd q.den)) j, fun v _ w => IsD (w1).heap.size w v (p.den / (p.den.gcd q.den)) k] (n := 10) (by kernel_rfl) rfl (by kernel_rfl) (by kernel_rfl) (by kernel_rfl) (by kernel_rfl) (by kernel_rfl) rb_refl rb_trans ⟨sC, ⟨sC, ⟨sC, ⟨sD, ⟨sC, ⟨sC, ⟨sC, ⟨sD, ⟨sD, ⟨sD, trivial⟩⟩⟩⟩⟩⟩⟩⟩⟩⟩ ?_ ?_
  · refine ⟨⟨⟨⟨⟨⟨⟨⟨⟨⟨trivial, ?_⟩, ?_⟩, ?_⟩, ?_⟩, ?_⟩, ?_⟩, ?_⟩, ?_⟩, ?_⟩, ?_⟩
    · refine rs_plain rfl rfl fun a wr S => ?_
      have X := undrew S.ext
      exact wp_qf1 (ev_of ((S.old 3 (by kernel_rfl)).trans rfl)) (done (by kernel_rfl) rbu_refl rfl)
    · refine rs_plain rfl rfl fun a wr S => ?_
      have X := undrew S.ext
      obtain ⟨v0, e0, h0⟩ := S.got 0 (by kernel_rfl)
      exact wp_qD ((ev_of (e0 15 (by kernel_rfl))).trans h0) (PB.below X) (done (by kernel_rfl) rbu_refl rfl)
    · refine rs_plain rfl rfl fun a wr S => ?_
      have X := undrew S.ext
      exact wp_mv (ev_of ((S.old 5 (by kernel_rfl)).trans rfl)) (done (by kernel_rfl) rbu_refl rfl)
    · refine rs_plain rfl rfl fun a wr S => ?_
      have X := undrew S.ext
      obtain ⟨v1, e1, h1⟩ := S.got 1 (by kernel_rfl)
      obtain ⟨v2, e2, h2⟩ := S.got 2 (by kernel_rfl)
      exact st_call cf_rat_without (args2 ((ev_of (e1 16 (by kernel_rfl))).trans h1) ((ev_of (e2 17 (by kernel_rfl))).trans h2)) (by kernel_rfl) rb (cWithout ⟨_, _, _, rfl, NB.below X⟩ ⟨_, _, _, rfl, NG.below X⟩ (by omega) (by omega) HG.out X.size) (fun _ _ _ h => h)
    · refine rs_plain rfl rfl fun a wr S => ?_
      have X := undrew S.ext
      exact wp_qf1 (ev_of ((S.old 1 (by kernel_rfl)).trans rfl)) (done (by kernel_rfl) rbu_refl rfl)
    · refine rs_plain rfl rfl fun a wr S => ?_
      have X := undrew S.ext
      obtain ⟨v4, e4, h4⟩ := S.got 4 (by kernel_rfl)
      exact wp_qD ((ev_of (e4 19 (by kernel_rfl))).trans h4) (PA.below X) (done (by kernel_rfl) rbu_refl rfl)
    · refine rs_plain rfl rfl fun a wr S => ?_
      have X := undrew S.ext
      exact wp_mv (ev_of ((S.old 5 (by kernel_rfl)).trans rfl)) (done (by kernel_rfl) rbu_refl rfl)
    · refine rs_plain rfl rfl fun a wr S => ?_
      have X := undrew S.ext
      obtain ⟨v5, e5, h5⟩ := S.got 5 (by kernel_rfl)
      obtain ⟨v6, e6, h6⟩ := S.got 6 (by kernel_rfl)
      exact st_call cf_rat_without (args2 ((ev_of (e5 20 (by kernel_rfl))).trans h5) ((ev_of (e6 21 (by kernel_rfl))).trans h6)) (by kernel_rfl) rb (cWithout ⟨_, _, _, rfl, NA.below X⟩ ⟨_, _, _, rfl, NG.below X⟩ (by omega) (by omega) HG.out X.size) (fun _ _ _ h => h)
    · refine rs_plain rfl rfl fun a wr S => ?_
      have X := undrew S.ext
      obtain ⟨v3, e3, h3⟩ := S.got 3 (by kernel_rfl)
      exact wp_as (ev_of (e3 18 (by kernel_rfl))) (done (by kernel_rfl) rbu_refl h3)
    · refine rs_plain rfl rfl fun a wr S => ?_
      have X := undrew S.ext
      obtain ⟨v7, e7, h7⟩ := S.got 7 (by kernel_rfl)
      exact wp_as (ev_of (e7 22 (by kernel_rfl))) (done (by kernel_rfl) rbu_refl h7)
  · intro fa w2 hR hv
    replace hR := undrew hR
    have f0 : fa 0 = .pointer (some ⟨w.heap.size, 2, none⟩) := (hvc (hv 0 (by omega))).elim fun _ h => h
    have f1 : fa 1 = .slice B' m' d' := (hvc (hv 1 (by omega))).elim fun _ h => h
    have f2 : fa 2 = .slice G gn gc := (hvc (hv 2 (by omega))).elim fun _ h => h
    have f4 : fa 4 = .pointer (some ⟨ga, 2, none⟩) := (hvc (hv 4 (by omega))).elim fun _ h => h
    have f5 : fa 5 = .slice B m d := (hvc (hv 5 (by omega))).elim fun _ h => h
    have f6 : fa 6 = .slice G gn gc := (hvc (hv 6 (by omega))).elim fun _ h => h
    obtain ⟨Ax, nx, cx, f8, Ox, lx⟩ := (show IsD _ w2 _ (q.den / (p.den.gcd q.den)) j from (hvc (hv 8 (by omega))).elim fun _ h => h)
    obtain ⟨Ay, ny, cy, f9, Oy, ly⟩ := (show IsD _ w2 _ (p.den / (p.den.gcd q.den)) k from (hvc (hv 9 (by omega))).elim fun _ h => h)
    simp only [putFn, Act.put, List.setIfInBounds_toArray, List.set_cons_zero, List.set_cons_succ, f0, f1, f2, f4, f5, f6, f8, f9]
    have NX : Nm w2 Ax nx cx (ofA p q) j := ⟨⟨_, Ox.rd, M.val_lims _⟩, lx⟩
    have NY : Nm w2 Ay ny cy (ofB p q) k := ⟨⟨_, Oy.rd, M.val_lims _⟩, ly⟩
    have hs2 := hR.size
    replace PA := PA.below hR
    replace PB := PB.below hR
    replace PT := PT.below hR
    replace NA := NA.below hR
    replace NB := NB.below hR
    replace ZA := ZA.below hR
    replace ZB := ZB.below hR
    replace BB := bl_trans BB hR
    clear hR hv Ox lx Oy ly NG NB
    go_wp2_with fail
    refine wp_region_list (Ext := (BelX (w2).heap.size)) (Rel := (BelU (w2).heap.size)) [fun v _ _ => v = .pointer (some ⟨ga, 0, none⟩), fun v _ _ => v = .agg #[.bool b, .slice A n c], fun v _ _ => v = .slice Ax nx cx, fun v _ _ => v = .agg #[.bool false, .slice Ax nx cx], fun v _ w => IsR2 w v (p.num) k (((ofA p q : Nat) : Int)) j, fun v _ w => IsZ (w2).heap.size w v (p.num * (((ofA p q : Nat) : Int))) (k + j), fun v _ w => IsP (w2).heap.size v w, fun _ u w => HasZ (w2).heap.size u w (p.num * (((ofA p q : Nat) : Int))) (k + j)] (n := 8) (by kernel_rfl) rfl (by kernel_rfl) (by kernel_rfl) (by kernel_rfl) (by kernel_rfl) (by kernel_rfl) (rx_refl _) (rxu_trans _) ⟨sC, ⟨sC, ⟨sC, ⟨sC, ⟨xR2, ⟨xZ, ⟨xP, ⟨xHZ, trivial⟩⟩⟩⟩⟩⟩⟩⟩ ?_ ?_
    · refine ⟨⟨⟨⟨⟨⟨⟨⟨trivial, ?_⟩, ?_⟩, ?_⟩, ?_⟩, ?_⟩, ?_⟩, ?_⟩, ?_⟩
      · refine rs_plain rfl rfl fun a wr S => ?_
        have X := undrewX S.ext
        exact wp_qf0 (ev_of ((S.old 1 (by kernel_rfl)).trans rfl)) (done (by kernel_rfl) (rxu_refl _) rfl)
      · refine rs_plain rfl rfl fun a wr S => ?_
        have X := undrewX S.ext
        obtain ⟨v0, e0, h0⟩ := S.got 0 (by kernel_rfl)
        exact wp_qN ((ev_of (e0 23 (by kernel_rfl))).trans h0) (PA.below X) (done (by kernel_rfl) (rxu_refl _) rfl)
      · refine rs_plain rfl rfl fun a wr S => ?_
        have X := undrewX S.ext
        exact wp_mv (ev_of ((S.old 6 (by kernel_rfl)).trans rfl)) (done (by kernel_rfl) (rxu_refl _) rfl)
      · refine rs_plain rfl rfl fun a wr S => ?_
        have X := undrewX S.ext
        obtain ⟨v2, e2, h2⟩ := S.got 2 (by kernel_rfl)
        exact st_call cf_rat_unsigned (args1 ((ev_of (e2 25 (by kernel_rfl))).trans h2)) (by kernel_rfl) (rxu _) (cUnsigned _ _ _) (fun _ _ _ h => h)
      · refine rs_plain rfl rfl fun a wr S => ?_
        have X := undrewX S.ext
        obtain ⟨v1, e1, h1⟩ := S.got 1 (by kernel_rfl)
        obtain ⟨v3, e3, h3⟩ := S.got 3 (by kernel_rfl)
        obtain ⟨b0, A0, n0, c0, hv0, Z0⟩ := (show IsM wr _ _ _ from (ZA.below X))
        obtain ⟨b1, A1, n1, c1, hv1, Z1⟩ := (show IsM wr _ _ _ from (unsM (NX.below X)))
        exact wp_bs2 (((ev_of (e1 24 (by kernel_rfl))).trans h1).trans hv0) (((ev_of (e3 26 (by kernel_rfl))).trans h3).trans hv1) (done' (by kernel_rfl) ((rxu _) _ _ _ (bl_alloc _ _)) (IsR2.new Z0 Z1))
      · refine rs_plain rfl rfl fun a wr S => ?_
        have X := undrewX S.ext
        obtain ⟨v4, e4, h4⟩ := S.got 4 (by kernel_rfl)
        exact st_call cf_big_Mul (args1 (ev_of (e4 27 (by kernel_rfl)))) (by kernel_rfl) (rxu _) (cMul2 (z := p.num) (u := (((ofA p q : Nat) : Int))) h4 (by omega) (by omega) (by omega) X.size) (fun _ _ _ h => h)
      · refine rs_plain rfl rfl fun a wr S => ?_
        have X := undrewX S.ext
        refine st_alloc X.size (fun _ _ _ h => h) fun j vj u hj hs => ?_
        have hj' : j ∈ [6] := alloc_cases (by kernel_rfl) j hj
        simp only [List.mem_cons, List.not_mem_nil, or_false] at hj'
        subst hj'; exact hs
      · refine rs_plain rfl rfl fun a wr S => ?_
        have X := undrewX S.ext
        obtain ⟨v6, e6, h6⟩ := S.got 6 (by kernel_rfl)
        obtain ⟨v5, e5, h5⟩ := S.got 5 (by kernel_rfl)
        exact st_storeZ (by kernel_rfl) (by kernel_rfl) (ev_of (e6 8 (by kernel_rfl))) h6 (ev_of (e5 28 (by kernel_rfl))) h5 (fun _ _ _ h => h)
    · intro fb w3 hR hv
      replace hR := undrewX hR
      have f0 : fb 0 = .pointer (some ⟨ga, 0, none⟩) := (hvc (hv 0 (by omega))).elim fun _ h => h
      have f1 : fb 1 = .agg #[.bool b, .slice A n c] := (hvc (hv 1 (by omega))).elim fun _ h => h
      have f2 : fb 2 = .slice Ax nx cx := (hvc (hv 2 (by omega))).elim fun _ h => h
      have f3 : fb 3 = .agg #[.bool false, .slice Ax nx cx] := (hvc (hv 3 (by omega))).elim fun _ h => h
      obtain ⟨gn, bn, An, nn, cn, f6, hgn, Pn, Zn⟩ := (show HasZ _ (fb 6) w3 (p.num * (((ofA p q : Nat) : Int))) (k + j) from hvs (hv 7 (by omega)) (by kernel_rfl))
      simp only [putFn, Act.put, List.setIfInBounds_toArray, List.set_cons_zero, List.set_cons_succ, f0, f1, f2, f3, f6]
      have hs3 := hR.size
      replace PA := PA.below hR
      replace PB := PB.below hR
      replace PT := PT.below hR
      replace NA := NA.below hR
      replace ZA := ZA.below hR
      replace ZB := ZB.below hR
      replace NX := NX.below hR
      replace NY := NY.below hR
      replace BB := bl_trans BB hR
      have QN : IsM w3 (.agg #[.bool bn, .slice An nn cn]) (p.num * ((ofA p q : Nat) : Int)) (k + j) := ⟨_, _, _, _, rfl, Zn.zm⟩
      clear hR hv Zn hgn ZA
      go_wp2_with fail
      refine wp_region_list (Ext := (BelX (w3).heap.size)) (Rel := (BelU (w3).heap.size)) [fun v _ _ => v = .pointer (some ⟨w.heap.size, 0, none⟩), fun v _ _ => v = .agg #[.bool t, .slice A' n' c'], fun v _ _ => v = .slice Ay ny cy, fun v _ _ => v = .agg #[.bool false, .slice Ay ny cy], fun v _ w => IsR2 w v (q.num) j (((ofB p q : Nat) : Int)) k, fun v _ w => IsZ (w3).heap.size w v (q.num * (((ofB p q : Nat) : Int))) (j + k), fun v _ w => IsP (w3).heap.size v w, fun _ u w => HasZ (w3).heap.size u w (q.num * (((ofB p q : Nat) : Int))) (j + k)] (n := 8) (by kernel_rfl) rfl (by kernel_rfl) (by kernel_rfl) (by kernel_rfl) (by kernel_rfl) (by kernel_rfl) (rx_refl _) (rxu_trans _) ⟨sC, ⟨sC, ⟨sC, ⟨sC, ⟨xR2, ⟨xZ, ⟨xP, ⟨xHZ, trivial⟩⟩⟩⟩⟩⟩⟩⟩ ?_ ?_
      · refine ⟨⟨⟨⟨⟨⟨⟨⟨trivial, ?_⟩, ?_⟩, ?_⟩, ?_⟩, ?_⟩, ?_⟩, ?_⟩, ?_⟩
        · refine rs_plain rfl rfl fun a wr S => ?_
          have X := undrewX S.ext
          exact wp_qf0 (ev_of ((S.old 3 (by kernel_rfl)).trans rfl)) (done (by kernel_rfl) (rxu_refl _) rfl)
        · refine rs_plain rfl rfl fun a wr S => ?_
          have X := undrewX S.ext
          obtain ⟨v0, e0, h0⟩ := S.got 0 (by kernel_rfl)
          exact wp_qN ((ev_of (e0 29 (by kernel_rfl))).trans h0) (PB.below X) (done (by kernel_rfl) (rxu_refl _) rfl)
        · refine rs_plain rfl rfl fun a wr S => ?_
          have X := undrewX S.ext
          exact wp_mv (ev_of ((S.old 7 (by kernel_rfl)).trans rfl)) (done (by kernel_rfl) (rxu_refl _) rfl)
        · refine rs_plain rfl rfl fun a wr S => ?_
          have X := undrewX S.ext
          obtain ⟨v2, e2, h2⟩ := S.got 2 (by kernel_rfl)
          exact st_call cf_rat_unsigned (args1 ((ev_of (e2 31 (by kernel_rfl))).trans h2)) (by kernel_rfl) (rxu _) (cUnsigned _ _ _) (fun _ _ _ h => h)
        · refine rs_plain rfl rfl fun a wr S => ?_
          have X := undrewX S.ext
          obtain ⟨v1, e1, h1⟩ := S.got 1 (by kernel_rfl)
          obtain ⟨v3, e3, h3⟩ := S.got 3 (by kernel_rfl)
          obtain ⟨b0, A0, n0, c0, hv0, Z0⟩ := (show IsM wr _ _ _ from (ZB.below X))
          obtain ⟨b1, A1, n1, c1, hv1, Z1⟩ := (show IsM wr _ _ _ from (unsM (NY.below X)))
          exact wp_bs2 (((ev_of (e1 30 (by kernel_rfl))).trans h1).trans hv0) (((ev_of (e3 32 (by kernel_rfl))).trans h3).trans hv1) (done' (by kernel_rfl) ((rxu _) _ _ _ (bl_alloc _ _)) (IsR2.new Z0 Z1))
        · refine rs_plain rfl rfl fun a wr S => ?_
          have X := undrewX S.ext
          obtain ⟨v4, e4, h4⟩ := S.got 4 (by kernel_rfl)
          exact st_call cf_big_Mul (args1 (ev_of (e4 33 (by kernel_rfl)))) (by kernel_rfl) (rxu _) (cMul2 (z := q.num) (u := (((ofB p q : Nat) : Int))) h4 (by omega) (by omega) (by omega) X.size) (fun _ _ _ h => h)
        · refine rs_plain rfl rfl fun a wr S => ?_
          have X := undrewX S.ext
          refine st_alloc X.size (fun _ _ _ h => h) fun j vj u hj hs => ?_
          have hj' : j ∈ [6] := alloc_cases (by kernel_rfl) j hj
          simp only [List.mem_cons, List.not_mem_nil, or_false] at hj'
          subst hj'; exact hs
        · refine rs_plain rfl rfl fun a wr S => ?_
          have X := undrewX S.ext
          obtain ⟨v6, e6, h6⟩ := S.got 6 (by kernel_rfl)
          obtain ⟨v5, e5, h5⟩ := S.got 5 (by kernel_rfl)
          exact st_storeZ (by kernel_rfl) (by kernel_rfl) (ev_of (e6 9 (by kernel_rfl))) h6 (ev_of (e5 34 (by kernel_rfl))) h5 (fun _ _ _ h => h)
      · intro fc w4 hR hv
        replace hR := undrewX hR
        have f0 : fc 0 = .pointer (some ⟨w.heap.size, 0, none⟩) := (hvc (hv 0 (by omega))).elim fun _ h => h
        have f1 : fc 1 = .agg #[.bool t, .slice A' n' c'] := (hvc (hv 1 (by omega))).elim fun _ h => h
        have f2 : fc 2 = .slice Ay ny cy := (hvc (hv 2 (by omega))).elim fun _ h => h
        have f3 : fc 3 = .agg #[.bool false, .slice Ay ny cy] := (hvc (hv 3 (by omega))).elim fun _ h => h
        obtain ⟨gm, bm, Am, nm, cm, f6, hgm, Pm, Zm⟩ := (show HasZ _ (fc 6) w4 (q.num * (((ofB p q : Nat) : Int))) (j + k) from hvs (hv 7 (by omega)) (by kernel_rfl))
        simp only [putFn, Act.put, List.setIfInBounds_toArray, List.set_cons_zero, List.set_cons_succ, f0, f1, f2, f3, f6]
        have hs4 := hR.size
        replace PA := PA.below hR
        replace PB := PB.below hR
        replace PT := PT.below hR
        replace NA := NA.below hR
        replace ZB := ZB.below hR
        replace NX := NX.below hR
        replace NY := NY.below hR
        replace Pn := Pn.below hR
        replace QN := QN.below hR
        replace BB := bl_trans BB hR
        have QM : IsM w4 (.agg #[.bool bm, .slice Am nm cm]) (q.num * ((ofB p q : Nat) : Int)) (j + k) := ⟨_, _, _, _, rfl, Zm.zm⟩
        clear hR hv Zm hgm ZB NY PB
        go_wp2_with fail
        refine wp_cut (by kernel_rfl) 7 ?_
        simp only [List.take_succ_cons, List.take_zero, List.drop_succ_cons, List.drop_zero]
        refine wp_cut_list (Ext := RB) (Rel := RBu) [fun v _ _ => v = .func (Fn.func 70) #[] #[], fun v _ _ => v = .agg #[.bool bn, .slice An nn cn], fun v _ _ => v = .agg #[.bool bm, .slice Am nm cm], fun v _ _ => v = .pointer (some ⟨ga, 2, none⟩), fun v _ _ => v = .slice B m d, fun v _ _ => v = .slice Ax nx cx, fun v _ w => IsD (w4).heap.size w v (p.den * (ofA p q)) (k + j)] (n := 7) (by kernel_rfl) (by kernel_rfl) (by kernel_rfl) (by kernel_rfl) (by kernel_rfl) (by kernel_rfl) (by kernel_rfl) (by kernel_rfl) (by kernel_rfl) rb_refl rb_trans ⟨sC, ⟨sC, ⟨sC, ⟨sC, ⟨sC, ⟨sC, ⟨sD, trivial⟩⟩⟩⟩⟩⟩⟩ ?_ ?_
        · refine ⟨⟨⟨⟨⟨⟨⟨trivial, ?_⟩, ?_⟩, ?_⟩, ?_⟩, ?_⟩, ?_⟩, ?_⟩
          · refine rs_plain rfl rfl fun a wr S => ?_
            have X := undrew S.ext
            exact wp_floadI (ev_of ((S.old 2 (by kernel_rfl)).trans rfl)) (PT.below X) (done (by kernel_rfl) rbu_refl rfl)
          · refine rs_plain rfl rfl fun a wr S => ?_
            have X := undrew S.ext
            exact wp_load (ev_of ((S.old 8 (by kernel_rfl)).trans rfl)) (Pn.below X) (done (by kernel_rfl) rbu_refl rfl)
          · refine rs_plain rfl rfl fun a wr S => ?_
            have X := undrew S.ext
            exact wp_load (ev_of ((S.old 9 (by kernel_rfl)).trans rfl)) (Pm.below X) (done (by kernel_rfl) rbu_refl rfl)
          · refine rs_plain rfl rfl fun a wr S => ?_
            have X := undrew S.ext
            exact wp_qf1 (ev_of ((S.old 1 (by kernel_rfl)).trans rfl)) (done (by kernel_rfl) rbu_refl rfl)
          · refine rs_plain rfl rfl fun a wr S => ?_
            have X := undrew S.ext
            obtain ⟨v3, e3, h3⟩ := S.got 3 (by kernel_rfl)
            exact wp_qD ((ev_of (e3 38 (by kernel_rfl))).trans h3) (PA.below X) (done (by kernel_rfl) rbu_refl rfl)
          · refine rs_plain rfl rfl fun a wr S => ?_
            have X := undrew S.ext
            exact wp_mv (ev_of ((S.old 6 (by kernel_rfl)).trans rfl)) (done (by kernel_rfl) rbu_refl rfl)
          · refine rs_plain rfl rfl fun a wr S => ?_
            have X := undrew S.ext
            obtain ⟨v4, e4, h4⟩ := S.got 4 (by kernel_rfl)
            obtain ⟨v5, e5, h5⟩ := S.got 5 (by kernel_rfl)
            exact st_call cf_nat_Mul (args2 ((ev_of (e4 39 (by kernel_rfl))).trans h4) ((ev_of (e5 40 (by kernel_rfl))).trans h5)) (by kernel_rfl) rb (cMulD ⟨_, _, _, rfl, NA.below X⟩ ⟨_, _, _, rfl, NX.below X⟩ (by omega) (by omega) (by omega) X.size) (fun _ _ _ h => h)
        · intro fd w5 hR hv hap
          clear hap
          replace hR := undrew hR
          have f0 : fd 0 = .func (Fn.func 70) #[] #[] := (hvc (hv 0 (by omega))).elim fun _ h => h
          have f1 : fd 1 = .agg #[.bool bn, .slice An nn cn] := (hvc (hv 1 (by omega))).elim fun _ h => h
          have f2 : fd 2 = .agg #[.bool bm, .slice Am nm cm] := (hvc (hv 2 (by omega))).elim fun _ h => h
          have f3 : fd 3 = .pointer (some ⟨ga, 2, none⟩) := (hvc (hv 3 (by omega))).elim fun _ h => h
          have f4 : fd 4 = .slice B m d := (hvc (hv 4 (by omega))).elim fun _ h => h
          have f5 : fd 5 = .slice Ax nx cx := (hvc (hv 5 (by omega))).elim fun _ h => h
          obtain ⟨Az, nz, cz, f6, Oz, lz⟩ := (show IsD _ w5 _ (p.den * (ofA p q)) (k + j) from (hvc (hv 6 (by omega))).elim fun _ h => h)
          simp only [putFn, Act.put, List.setIfInBounds_toArray, List.set_cons_zero, List.set_cons_succ, f0, f1, f2, f3, f4, f5, f6]
          have hs5 := hR.size
          replace QN := QN.below hR
          replace QM := QM.below hR
          replace BB := bl_trans BB hR
          have ND : IsN w5 (.slice Az nz cz) (p.den * ofA p q) (k + j) := ⟨_, _, _, rfl, ⟨⟨_, Oz.rd, M.val_lims _⟩, lz⟩⟩
          have hd0 : p.den * ofA p q ≠ 0 := Nat.mul_ne_zero p.den_nz (two_A_pos p q)
          clear hR hv Oz lz PA PT NA NX Pn Pm
          go_wp2_with fail
          refine (cCmp1c QN QM ND (by omega) (by omega) (by omega) (two_cmp p q)).mono ?_
          rintro e w6 ⟨_, rfl, hb6, rfl⟩
          replace BB := bl_trans BB hb6
          clear hb6 QN QM ND
          go_wp2_with fail
          go_ret
          exact ⟨_, rfl, BB, rfl⟩

set_option maxHeartbeats 4000000 in
theorem two2_Add {w : World} {v : Value} {p q : Rat} {k j N ga gt : Nat} {b : Bool} {A B : Option Addr} {n c m d : Nat} (hb : IsQ N w v q j) (PA : Bq w ga b A n c B m d) (QP : IsQt w (.agg #[.bool b, .slice A n c, .slice B m d]) p k) (PT : Bf w gt (.func (Fn.func 61) #[] #[]) 58) (hk : k ≤ 18) (hj : j ≤ 18) : Calls Tryz.prog 98 #[v, .pointer (some ⟨ga, 0, none⟩), .pointer (some ⟨gt, 0, none⟩)] w (Ans w fun w' v => IsQ w.heap.size w' v (p + q) (k + j + 1)) := by
  obtain ⟨t, A', n', c', B', m', d', rfl, Zb, Ob, lb⟩ := hb
  have h1 := QP.num_lt
  have h2 := QP.den_lt
  have h3 : q.num.natAbs < M.R ^ j := Zb.tm.nm.lt
  have h4 : q.den < M.R ^ j := by rw [← M.lims_length_le, Ob.len]; exact lb
  obtain ⟨_, _, _, _, _, _, _, ea, Ta, hsa, Da⟩ := QP
  cases ea
  have HG := Lib.hid (show p.den.gcd q.den ≠ 0 by have := two_g p q; omega)
  have PB := (Bq.new w t A' n' c' B' m' d').alloc (.cells #[.bool false, .slice none 0 0, .slice none 0 0] 26)
  have PR := Bq.new2 w (.cells #[.bool t, .slice A' n' c', .slice B' m' d'] 26) false none 0 0 none 0 0
  have BB := bl_trans (bl_alloc w (.cells #[.bool t, .slice A' n' c', .slice B' m' d'] 26)) (bl_alloc _ (.cells #[.bool false, .slice none 0 0, .slice none 0 0] 26))
  have hga := PA.lt
  have hgt := PT.lt
  replace PA := PA.below BB
  replace PT := PT.below BB
  have NA : Nm _ B m d p.den k := (Da.nm).below BB
  have NB : Nm _ B' m' d' q.den j := Nm.below ⟨⟨_, Ob.rd, M.val_lims _⟩, lb⟩ BB
  have ZA : IsM ((w.alloc (.cells #[.bool t, .slice A' n' c', .slice B' m' d'] 26)).alloc (.cells #[.bool false, .slice none 0 0, .slice none 0 0] 26)) (.agg #[.bool b, .slice A n c]) p.num k := by
    refine ⟨_, _, _, _, rfl, ⟨⟨_, Ta.nm.below BB, ?_⟩⟩⟩
    rw [hsa]
    by_cases h : p.num < 0
    · rw [decide_eq_true h, zv_true]; omega
    · rw [decide_eq_false h, zv_false]; omega
  have ZB : IsM ((w.alloc (.cells #[.bool t, .slice A' n' c', .slice B' m' d'] 26)).alloc (.cells #[.bool false, .slice none 0 0, .slice none 0 0] 26)) (.agg #[.bool t, .slice A' n' c']) q.num j := ⟨_, _, _, _, rfl, Zb.zm.below BB⟩
  have hs0 : ((w.alloc (.cells #[.bool t, .slice A' n' c', .slice B' m' d'] 26)).alloc (.cells #[.bool false, .slice none 0 0, .slice none 0 0] 26)).heap.size = w.heap.size + 2 := by simp
  clear Zb Ob lb Ta hsa Da
  have a2 := PA.c2
  have b2 := PB.c2
  go_enter Tryz.func98, Tryz.ntmps98
  go_wp2_with fail
  clear a2 b2
  generalize ((w.alloc (.cells #[.bool t, .slice A' n' c', .slice B' m' d'] 26)).alloc (.cells #[.bool false, .slice none 0 0, .slice none 0 0] 26)) = W0 at PA PB PT PR NA NB ZA ZB BB hs0 ⊢
  refine (cGcd (N := 0) ⟨_, _, _, rfl, NA⟩ ⟨_, _, _, rfl, NB⟩ (by omega) (by omega) (Nat.zero_le _)).mono ?_
  rintro e w1 ⟨_, rfl, hb1, G, gn, gc, rfl, og, lg⟩
  have NG : Nm w1 G gn gc (p.den.gcd q.den) (max k j) := ⟨⟨_, og.rd, M.val_lims _⟩, lg⟩
  have hs1 := hb1.size
  replace PA := PA.below hb1
  replace PB := PB.below hb1
  replace PT := PT.below hb1
  replace PR := PR.below hb1
  replace NA := NA.below hb1
  replace NB := NB.below hb1
  replace ZA := ZA.below hb1
  replace ZB := ZB.below hb1
  replace BB := bl_trans BB hb1
  clear hb1 og lg
  go_wp2_with fail
  refine wp_region_list (Ext := RB) (Rel := RBu) [fun v _ _ => v = .pointer (some ⟨w.heap.size, 2, none⟩), fun v _ _ => v = .slice B' m' d', fun v _ _ => v = .slice G gn gc, fun v _ w => IsD (w1).heap.size w v (q.den / (p.den.gcd q.den)) j, fun v _ _ => v = .pointer (some ⟨ga, 2, none⟩), fun v _ _ => v = .slice B m d, fun v _ _ => v = .slice G gn gc, fun v _ w => IsD (w1).heap.size w v (p.den / (p.den.gcd q.den)) k, fun v _ w => IsD (w1).heap.size w v (q.den / (p.den.gcd q.den)) j, fun v _ w => IsD (w1).heap.size w v (p.den / (p.den.gcd q.den)) k] (n := 10) (by kernel_rfl) rfl (by kernel_rfl) (by kernel_rfl) (by kernel_rfl) (by kernel_rfl) (by kernel_rfl) rb_refl rb_trans ⟨sC, ⟨sC, ⟨sC, ⟨sD, ⟨sC, ⟨sC, ⟨sC, ⟨sD, ⟨sD, ⟨sD, trivial⟩⟩⟩⟩⟩⟩⟩⟩⟩⟩ ?_ ?_
  · refine ⟨⟨⟨⟨⟨⟨⟨⟨⟨⟨trivial, ?_⟩, ?_⟩, ?_⟩, ?_⟩, ?_⟩, ?_⟩, ?_⟩, ?_⟩, ?_⟩, ?_⟩
    · refine rs_plain rfl rfl fun a wr S => ?_
      have X := undrew S.ext
      exact wp_qf1 (ev_of ((S.old 3 (by kernel_rfl)).trans rfl)) (done (by kernel_rfl) rbu_refl rfl)
    · refine rs_plain rfl rfl fun a wr S => ?_
      have X := undrew S.ext
      obtain ⟨v0, e0, h0⟩ := S.got 0 (by kernel_rfl)
      exact wp_qD ((ev_of (e0 15 (by kernel_rfl))).trans h0) (PB.below X) (done (by kernel_rfl) rbu_refl rfl)
    · refine rs_plain rfl rfl fun a wr S => ?_
      have X := undrew S.ext
      exact wp_mv (ev_of ((S.old 5 (by kernel_rfl)).trans rfl)) (done (by kernel_rfl) rbu_refl rfl)
    · refine rs_plain rfl rfl fun a wr S => ?_
      have X := undrew S.ext
      obtain ⟨v1, e1, h1⟩ := S.got 1 (by kernel_rfl)
      obtain ⟨v2, e2, h2⟩ := S.got 2 (by kernel_rfl)
      exact st_call cf_rat_without (args2 ((ev_of (e1 16 (by kernel_rfl))).trans h1) ((ev_of (e2 17 (by kernel_rfl))).trans h2)) (by kernel_rfl) rb (cWithout ⟨_, _, _, rfl, NB.below X⟩ ⟨_, _, _, rfl, NG.below X⟩ (by omega) (by omega) HG.out X.size) (fun _ _ _ h => h)
    · refine rs_plain rfl rfl fun a wr S => ?_
      have X := undrew S.ext
      exact wp_qf1 (ev_of ((S.old 1 (by kernel_rfl)).trans rfl)) (done (by kernel_rfl) rbu_refl rfl)
    · refine rs_plain rfl rfl fun a wr S => ?_
      have X := undrew S.ext
      obtain ⟨v4, e4, h4⟩ := S.got 4 (by kernel_rfl)
      exact wp_qD ((ev_of (e4 19 (by kernel_rfl))).trans h4) (PA.below X) (done (by kernel_rfl) rbu_refl rfl)
    · refine rs_plain rfl rfl fun a wr S => ?_
      have X := undrew S.ext
      exact wp_mv (ev_of ((S.old 5 (by kernel_rfl)).trans rfl)) (done (by kernel_rfl) rbu_refl rfl)
    · refine rs_plain rfl rfl fun a wr S => ?_
      have X := undrew S.ext
      obtain ⟨v5, e5, h5⟩ := S.got 5 (by kernel_rfl)
      obtain ⟨v6, e6, h6⟩ := S.got 6 (by kernel_rfl)
      exact st_call cf_rat_without (args2 ((ev_of (e5 20 (by kernel_rfl))).trans h5) ((ev_of (e6 21 (by kernel_rfl))).trans h6)) (by kernel_rfl) rb (cWithout ⟨_, _, _, rfl, NA.below X⟩ ⟨_, _, _, rfl, NG.below X⟩ (by omega) (by omega) HG.out X.size) (fun _ _ _ h => h)
    · refine rs_plain rfl rfl fun a wr S => ?_
      have X := undrew S.ext
      obtain ⟨v3, e3, h3⟩ := S.got 3 (by kernel_rfl)
      exact wp_as (ev_of (e3 18 (by kernel_rfl))) (done (by kernel_rfl) rbu_refl h3)
    · refine rs_plain rfl rfl fun a wr S => ?_
      have X := undrew S.ext
      obtain ⟨v7, e7, h7⟩ := S.got 7 (by kernel_rfl)
      exact wp_as (ev_of (e7 22 (by kernel_rfl))) (done (by kernel_rfl) rbu_refl h7)
  · intro fa w2 hR hv
    replace hR := undrew hR
    have f0 : fa 0 = .pointer (some ⟨w.heap.size, 2, none⟩) := (hvc (hv 0 (by omega))).elim fun _ h => h
    have f1 : fa 1 = .slice B' m' d' := (hvc (hv 1 (by omega))).elim fun _ h => h
    have f2 : fa 2 = .slice G gn gc := (hvc (hv 2 (by omega))).elim fun _ h => h
    have f4 : fa 4 = .pointer (some ⟨ga, 2, none⟩) := (hvc (hv 4 (by omega))).elim fun _ h => h
    have f5 : fa 5 = .slice B m d := (hvc (hv 5 (by omega))).elim fun _ h => h
    have f6 : fa 6 = .slice G gn gc := (hvc (hv 6 (by omega))).elim fun _ h => h
    obtain ⟨Ax, nx, cx, f8, Ox, lx⟩ := (show IsD _ w2 _ (q.den / (p.den.gcd q.den)) j from (hvc (hv 8 (by omega))).elim fun _ h => h)
    obtain ⟨Ay, ny, cy, f9, Oy, ly⟩ := (show IsD _ w2 _ (p.den / (p.den.gcd q.den)) k from (hvc (hv 9 (by omega))).elim fun _ h => h)
    simp only [putFn, Act.put, List.setIfInBounds_toArray, List.set_cons_zero, List.set_cons_succ, f0, f1, f2, f4, f5, f6, f8, f9]
    have NX : Nm w2 Ax nx cx (ofA p q) j := ⟨⟨_, Ox.rd, M.val_lims _⟩, lx⟩
    have NY : Nm w2 Ay ny cy (ofB p q) k := ⟨⟨_, Oy.rd, M.val_lims _⟩, ly⟩
    have hs2 := hR.size
    replace PA := PA.below hR
    replace PB := PB.below hR
    replace PT := PT.below hR
    replace PR := PR.below hR
    replace NA := NA.below hR
    replace NB := NB.below hR
    replace ZA := ZA.below hR
    replace ZB := ZB.below hR
    replace BB := bl_trans BB hR
    clear hR hv Ox lx Oy ly NG NB
    go_wp2_with fail
    refine wp_region_list (Ext := (BelX (w2).heap.size)) (Rel := (BelU (w2).heap.size)) [fun v _ _ => v = .pointer (some ⟨ga, 0, none⟩), fun v _ _ => v = .agg #[.bool b, .slice A n c], fun v _ _ => v = .slice Ax nx cx, fun v _ _ => v = .agg #[.bool false, .slice Ax nx cx], fun v _ w => IsR2 w v (p.num) k (((ofA p q : Nat) : Int)) j, fun v _ w => IsZ (w2).heap.size w v (p.num * (((ofA p q : Nat) : Int))) (k + j), fun v _ w => IsP (w2).heap.size v w, fun _ u w => HasZ (w2).heap.size u w (p.num * (((ofA p q : Nat) : Int))) (k + j)] (n := 8) (by kernel_rfl) rfl (by kernel_rfl) (by kernel_rfl) (by kernel_rfl) (by kernel_rfl) (by kernel_rfl) (rx_refl _) (rxu_trans _) ⟨sC, ⟨sC, ⟨sC, ⟨sC, ⟨xR2, ⟨xZ, ⟨xP, ⟨xHZ, trivial⟩⟩⟩⟩⟩⟩⟩⟩ ?_ ?_
    · refine ⟨⟨⟨⟨⟨⟨⟨⟨trivial, ?_⟩, ?_⟩, ?_⟩, ?_⟩, ?_⟩, ?_⟩, ?_⟩, ?_⟩
      · refine rs_plain rfl rfl fun a wr S => ?_
        have X := undrewX S.ext
        exact wp_qf0 (ev_of ((S.old 1 (by kernel_rfl)).trans rfl)) (done (by kernel_rfl) (rxu_refl _) rfl)
      · refine rs_plain rfl rfl fun a wr S => ?_
        have X := undrewX S.ext
        obtain ⟨v0, e0, h0⟩ := S.got 0 (by kernel_rfl)
        exact wp_qN ((ev_of (e0 23 (by kernel_rfl))).trans h0) (PA.below X) (done (by kernel_rfl) (rxu_refl _) rfl)
      · refine rs_plain rfl rfl fun a wr S => ?_
        have X := undrewX S.ext
        exact wp_mv (ev_of ((S.old 6 (by kernel_rfl)).trans rfl)) (done (by kernel_rfl) (rxu_refl _) rfl)
      · refine rs_plain rfl rfl fun a wr S => ?_
        have X := undrewX S.ext
        obtain ⟨v2, e2, h2⟩ := S.got 2 (by kernel_rfl)
        exact st_call cf_rat_unsigned (args1 ((ev_of (e2 25 (by kernel_rfl))).trans h2)) (by kernel_rfl) (rxu _) (cUnsigned _ _ _) (fun _ _ _ h => h)
      · refine rs_plain rfl rfl fun a wr S => ?_
        have X := undrewX S.ext
        obtain ⟨v1, e1, h1⟩ := S.got 1 (by kernel_rfl)
        obtain ⟨v3, e3, h3⟩ := S.got 3 (by kernel_rfl)
        obtain ⟨b0, A0, n0, c0, hv0, Z0⟩ := (show IsM wr _ _ _ from (ZA.below X))
        obtain ⟨b1, A1, n1, c1, hv1, Z1⟩ := (show IsM wr _ _ _ from (unsM (NX.below X)))
        exact wp_bs2 (((ev_of (e1 24 (by kernel_rfl))).trans h1).trans hv0) (((ev_of (e3 26 (by kernel_rfl))).trans h3).trans hv1) (done' (by kernel_rfl) ((rxu _) _ _ _ (bl_alloc _ _)) (IsR2.new Z0 Z1))
      · refine rs_plain rfl rfl fun a wr S => ?_
        have X := undrewX S.ext
        obtain ⟨v4, e4, h4⟩ := S.got 4 (by kernel_rfl)
        exact st_call cf_big_Mul (args1 (ev_of (e4 27 (by kernel_rfl)))) (by kernel_rfl) (rxu _) (cMul2 (z := p.num) (u := (((ofA p q : Nat) : Int))) h4 (by omega) (by omega) (by omega) X.size) (fun _ _ _ h => h)
      · refine rs_plain rfl rfl fun a wr S => ?_
        have X := undrewX S.ext
        refine st_alloc X.size (fun _ _ _ h => h) fun j vj u hj hs => ?_
        have hj' : j ∈ [6] := alloc_cases (by kernel_rfl) j hj
        simp only [List.mem_cons, List.not_mem_nil, or_false] at hj'
        subst hj'; exact hs
      · refine rs_plain rfl rfl fun a wr S => ?_
        have X := undrewX S.ext
        obtain ⟨v6, e6, h6⟩ := S.got 6 (by kernel_rfl)
        obtain ⟨v5, e5, h5⟩ := S.got 5 (by kernel_rfl)
        exact st_storeZ (by kernel_rfl) (by kernel_rfl) (ev_of (e6 8 (by kernel_rfl))) h6 (ev_of (e5 28 (by kernel_rfl))) h5 (fun _ _ _ h => h)
    · intro fb w3 hR hv
      replace hR := undrewX hR
      have f0 : fb 0 = .pointer (some ⟨ga, 0, none⟩) := (hvc (hv 0 (by omega))).elim fun _ h => h
      have f1 : fb 1 = .agg #[.bool b, .slice A n c] := (hvc (hv 1 (by omega))).elim fun _ h => h
      have f2 : fb 2 = .slice Ax nx cx := (hvc (hv 2 (by omega))).elim fun _ h => h
      have f3 : fb 3 = .agg #[.bool false, .slice Ax nx cx] := (hvc (hv 3 (by omega))).elim fun _ h => h
      obtain ⟨gn, bn, An, nn, cn, f6, hgn, Pn, Zn⟩ := (show HasZ _ (fb 6) w3 (p.num * (((ofA p q : Nat) : Int))) (k + j) from hvs (hv 7 (by omega)) (by kernel_rfl))
      simp only [putFn, Act.put, List.setIfInBounds_toArray, List.set_cons_zero, List.set_cons_succ, f0, f1, f2, f3, f6]
      have hs3 := hR.size
      replace PA := PA.below hR
      replace PB := PB.below hR
      replace PT := PT.below hR
      replace PR := PR.below hR
      replace NA := NA.below hR
      replace ZA := ZA.below hR
      replace ZB := ZB.below hR
      replace NX := NX.below hR
      replace NY := NY.below hR
      replace BB := bl_trans BB hR
      have QN : IsM w3 (.agg #[.bool bn, .slice An nn cn]) (p.num * ((ofA p q : Nat) : Int)) (k + j) := ⟨_, _, _, _, rfl, Zn.zm⟩
      clear hR hv Zn hgn ZA
      go_wp2_with fail
      refine wp_region_list (Ext := (BelX (w3).heap.size)) (Rel := (BelU (w3).heap.size)) [fun v _ _ => v = .pointer (some ⟨w.heap.size, 0, none⟩), fun v _ _ => v = .agg #[.bool t, .slice A' n' c'], fun v _ _ => v = .slice Ay ny cy, fun v _ _ => v = .agg #[.bool false, .slice Ay ny cy], fun v _ w => IsR2 w v (q.num) j (((ofB p q : Nat) : Int)) k, fun v _ w => IsZ (w3).heap.size w v (q.num * (((ofB p q : Nat) : Int))) (j + k), fun v _ w => IsP (w3).heap.size v w, fun _ u w => HasZ (w3).heap.size u w (q.num * (((ofB p q : Nat) : Int))) (j + k)] (n := 8) (by kernel_rfl) rfl (by kernel_rfl) (by kernel_rfl) (by kernel_rfl) (by kernel_rfl) (by kernel_rfl) (rx_refl _) (rxu_trans _) ⟨sC, ⟨sC, ⟨sC, ⟨sC, ⟨xR2, ⟨xZ, ⟨xP, ⟨xHZ, trivial⟩⟩⟩⟩⟩⟩⟩⟩ ?_ ?_
      · refine ⟨⟨⟨⟨⟨⟨⟨⟨trivial, ?_⟩, ?_⟩, ?_⟩, ?_⟩, ?_⟩, ?_⟩, ?_⟩, ?_⟩
        · refine rs_plain rfl rfl fun a wr S => ?_
          have X := undrewX S.ext
          exact wp_qf0 (ev_of ((S.old 3 (by kernel_rfl)).trans rfl)) (done (by kernel_rfl) (rxu_refl _) rfl)
        · refine rs_plain rfl rfl fun a wr S => ?_
          have X := undrewX S.ext
          obtain ⟨v0, e0, h0⟩ := S.got 0 (by kernel_rfl)
          exact wp_qN ((ev_of (e0 29 (by kernel_rfl))).trans h0) (PB.below X) (done (by kernel_rfl) (rxu_refl _) rfl)
        · refine rs_plain rfl rfl fun a wr S => ?_
          have X := undrewX S.ext
          exact wp_mv (ev_of ((S.old 7 (by kernel_rfl)).trans rfl)) (done (by kernel_rfl) (rxu_refl _) rfl)
        · refine rs_plain rfl rfl fun a wr S => ?_
          have X := undrewX S.ext
          obtain ⟨v2, e2, h2⟩ := S.got 2 (by kernel_rfl)
          exact st_call cf_rat_unsigned (args1 ((ev_of (e2 31 (by kernel_rfl))).trans h2)) (by kernel_rfl) (rxu _) (cUnsigned _ _ _) (fun _ _ _ h => h)
        · refine rs_plain rfl rfl fun a wr S => ?_
          have X := undrewX S.ext
          obtain ⟨v1, e1, h1⟩ := S.got 1 (by kernel_rfl)
          obtain ⟨v3, e3, h3⟩ := S.got 3 (by kernel_rfl)
          obtain ⟨b0, A0, n0, c0, hv0, Z0⟩ := (show IsM wr _ _ _ from (ZB.below X))
          obtain ⟨b1, A1, n1, c1, hv1, Z1⟩ := (show IsM wr _ _ _ from (unsM (NY.below X)))
          exact wp_bs2 (((ev_of (e1 30 (by kernel_rfl))).trans h1).trans hv0) (((ev_of (e3 32 (by kernel_rfl))).trans h3).trans hv1) (done' (by kernel_rfl) ((rxu _) _ _ _ (bl_alloc _ _)) (IsR2.new Z0 Z1))
        · refine rs_plain rfl rfl fun a wr S => ?_
          have X := undrewX S.ext
          obtain ⟨v4, e4, h4⟩ := S.got 4 (by kernel_rfl)
          exact st_call cf_big_Mul (args1 (ev_of (e4 33 (by kernel_rfl)))) (by kernel_rfl) (rxu _) (cMul2 (z := q.num) (u := (((ofB p q : Nat) : Int))) h4 (by omega) (by omega) (by omega) X.size) (fun _ _ _ h => h)
        · refine rs_plain rfl rfl fun a wr S => ?_
          have X := undrewX S.ext
          refine st_alloc X.size (fun _ _ _ h => h) fun j vj u hj hs => ?_
          have hj' : j ∈ [6] := alloc_cases (by kernel_rfl) j hj
          simp only [List.mem_cons, List.not_mem_nil, or_false] at hj'
          subst hj'; exact hs
        · refine rs_plain rfl rfl fun a wr S => ?_
          have X := undrewX S.ext
          obtain ⟨v6, e6, h6⟩ := S.got 6 (by kernel_rfl)
          obtain ⟨v5, e5, h5⟩ := S.got 5 (by kernel_rfl)
          exact st_storeZ (by kernel_rfl) (by kernel_rfl) (ev_of (e6 9 (by kernel_rfl))) h6 (ev_of (e5 34 (by kernel_rfl))) h5 (fun _ _ _ h => h)
      · intro fc w4 hR hv
        replace hR := undrewX hR
        have f0 : fc 0 = .pointer (some ⟨w.heap.size, 0, none⟩) := (hvc (hv 0 (by omega))).elim fun _ h => h
        have f1 : fc 1 = .agg #[.bool t, .slice A' n' c'] := (hvc (hv 1 (by omega))).elim fun _ h => h
        have f2 : fc 2 = .slice Ay ny cy := (hvc (hv 2 (by omega))).elim fun _ h => h
        have f3 : fc 3 = .agg #[.bool false, .slice Ay ny cy] := (hvc (hv 3 (by omega))).elim fun _ h => h
        obtain ⟨gm, bm, Am, nm, cm, f6, hgm, Pm, Zm⟩ := (show HasZ _ (fc 6) w4 (q.num * (((ofB p q : Nat) : Int))) (j + k) from hvs (hv 7 (by omega)) (by kernel_rfl))
        simp only [putFn, Act.put, List.setIfInBounds_toArray, List.set_cons_zero, List.set_cons_succ, f0, f1, f2, f3, f6]
        have hs4 := hR.size
        replace PA := PA.below hR
        replace PB := PB.below hR
        replace PT := PT.below hR
        replace PR := PR.below hR
        replace NA := NA.below hR
        replace ZB := ZB.below hR
        replace NX := NX.below hR
        replace NY := NY.below hR
        replace Pn := Pn.below hR
        replace QN := QN.below hR
        replace BB := bl_trans BB hR
        have QM : IsM w4 (.agg #[.bool bm, .slice Am nm cm]) (q.num * ((ofB p q : Nat) : Int)) (j + k) := ⟨_, _, _, _, rfl, Zm.zm⟩
        clear hR hv Zm hgm ZB NY PB
        go_wp2_with fail
        refine wp_cut (by kernel_rfl) 7 ?_
        simp only [List.take_succ_cons, List.take_zero, List.drop_succ_cons, List.drop_zero]
        refine wp_cut_list (Ext := RB) (Rel := RBu) [fun v _ _ => v = .func (Fn.func 61) #[] #[], fun v _ _ => v = .agg #[.bool bn, .slice An nn cn], fun v _ _ => v = .agg #[.bool bm, .slice Am nm cm], fun v _ _ => v = .pointer (some ⟨ga, 2, none⟩), fun v _ _ => v = .slice B m d, fun v _ _ => v = .slice Ax nx cx, fun v _ w => IsD (w4).heap.size w v (p.den * (ofA p q)) (k + j)] (n := 7) (by kernel_rfl) (by kernel_rfl) (by kernel_rfl) (by kernel_rfl) (by kernel_rfl) (by kernel_rfl) (by kernel_rfl) (by kernel_rfl) (by kernel_rfl) rb_refl rb_trans ⟨sC, ⟨sC, ⟨sC, ⟨sC, ⟨sC, ⟨sC, ⟨sD, trivial⟩⟩⟩⟩⟩⟩⟩ ?_ ?_
        · refine ⟨⟨⟨⟨⟨⟨⟨trivial, ?_⟩, ?_⟩, ?_⟩, ?_⟩, ?_⟩, ?_⟩, ?_⟩
          · refine rs_plain rfl rfl fun a wr S => ?_
            have X := undrew S.ext
            exact wp_floadR (ev_of ((S.old 2 (by kernel_rfl)).trans rfl)) (PT.below X) (done (by kernel_rfl) rbu_refl rfl)
          · refine rs_plain rfl rfl fun a wr S => ?_
            have X := undrew S.ext
            exact wp_load (ev_of ((S.old 8 (by kernel_rfl)).trans rfl)) (Pn.below X) (done (by kernel_rfl) rbu_refl rfl)
          · refine rs_plain rfl rfl fun a wr S => ?_
            have X := undrew S.ext
            exact wp_load (ev_of ((S.old 9 (by kernel_rfl)).trans rfl)) (Pm.below X) (done (by kernel_rfl) rbu_refl rfl)
          · refine rs_plain rfl rfl fun a wr S => ?_
            have X := undrew S.ext
            exact wp_qf1 (ev_of ((S.old 1 (by kernel_rfl)).trans rfl)) (done (by kernel_rfl) rbu_refl rfl)
          · refine rs_plain rfl rfl fun a wr S => ?_
            have X := undrew S.ext
            obtain ⟨v3, e3, h3⟩ := S.got 3 (by kernel_rfl)
            exact wp_qD ((ev_of (e3 38 (by kernel_rfl))).trans h3) (PA.below X) (done (by kernel_rfl) rbu_refl rfl)
          · refine rs_plain rfl rfl fun a wr S => ?_
            have X := undrew S.ext
            exact wp_mv (ev_of ((S.old 6 (by kernel_rfl)).trans rfl)) (done (by kernel_rfl) rbu_refl rfl)
          · refine rs_plain rfl rfl fun a wr S => ?_
            have X := undrew S.ext
            obtain ⟨v4, e4, h4⟩ := S.got 4 (by kernel_rfl)
            obtain ⟨v5, e5, h5⟩ := S.got 5 (by kernel_rfl)
            exact st_call cf_nat_Mul (args2 ((ev_of (e4 39 (by kernel_rfl))).trans h4) ((ev_of (e5 40 (by kernel_rfl))).trans h5)) (by kernel_rfl) rb (cMulD ⟨_, _, _, rfl, NA.below X⟩ ⟨_, _, _, rfl, NX.below X⟩ (by omega) (by omega) (by omega) X.size) (fun _ _ _ h => h)
        · intro fd w5 hR hv hap
          clear hap
          replace hR := undrew hR
          have f0 : fd 0 = .func (Fn.func 61) #[] #[] := (hvc (hv 0 (by omega))).elim fun _ h => h
          have f1 : fd 1 = .agg #[.bool bn, .slice An nn cn] := (hvc (hv 1 (by omega))).elim fun _ h => h
          have f2 : fd 2 = .agg #[.bool bm, .slice Am nm cm] := (hvc (hv 2 (by omega))).elim fun _ h => h
          have f3 : fd 3 = .pointer (some ⟨ga, 2, none⟩) := (hvc (hv 3 (by omega))).elim fun _ h => h
          have f4 : fd 4 = .slice B m d := (hvc (hv 4 (by omega))).elim fun _ h => h
          have f5 : fd 5 = .slice Ax nx cx := (hvc (hv 5 (by omega))).elim fun _ h => h
          obtain ⟨Az, nz, cz, f6, Oz, lz⟩ := (show IsD _ w5 _ (p.den * (ofA p q)) (k + j) from (hvc (hv 6 (by omega))).elim fun _ h => h)
          simp only [putFn, Act.put, List.setIfInBounds_toArray, List.set_cons_zero, List.set_cons_succ, f0, f1, f2, f3, f4, f5, f6]
          have hs5 := hR.size
          replace QN := QN.below hR
          replace QM := QM.below hR
          replace PR := PR.below hR
          replace BB := bl_trans BB hR
          have ND : IsN w5 (.slice Az nz cz) (p.den * ofA p q) (k + j) := ⟨_, _, _, rfl, ⟨⟨_, Oz.rd, M.val_lims _⟩, lz⟩⟩
          have hd0 : p.den * ofA p q ≠ 0 := Nat.mul_ne_zero p.den_nz (two_A_pos p q)
          clear hR hv Oz lz PA PT NA NX Pn Pm
          go_wp2_with fail
          refine (cAdd1c QN QM ND (by omega) (by omega) (by omega) hd0).mono ?_
          rintro e w6 ⟨_, rfl, hb6, q6⟩
          rw [two_add] at q6
          replace q6 := q6.mono (show _ ≤ k + j + 1 by omega)
          obtain ⟨b6, A6, n6, c6, B6, m6, d6, rfl, _⟩ := id q6
          replace PR := PR.below hb6
          replace BB := bl_trans BB hb6
          have r0 := PR.c0
          have f0 := PR.f 0
          have r1 := PR.c1
          have f1 := PR.f 1
          have r2 := PR.c2
          have f2 := PR.f 2
          clear hb6 QN QM ND
          go_wp2_with fail
          exact bodyPost_ret (v := .agg #[.bool b6, .slice A6 n6 c6, .slice B6 m6 d6]) (by simp [results, Tryz.results98, go_sem, *]) rfl (fin_q q6 BB (by omega) (by omega) _ _ _)

set_option maxHeartbeats 4000000 in
theorem two2_Sub {w : World} {v : Value} {p q : Rat} {k j N ga gt : Nat} {b : Bool} {A B : Option Addr} {n c m d : Nat} (hb : IsQ N w v q j) (PA : Bq w ga b A n c B m d) (QP : IsQt w (.agg #[.bool b, .slice A n c, .slice B m d]) p k) (PT : Bf w gt (.func (Fn.func 64) #[] #[]) 58) (hk : k ≤ 18) (hj : j ≤ 18) : Calls Tryz.prog 98 #[v, .pointer (some ⟨ga, 0, none⟩), .pointer (some ⟨gt, 0, none⟩)] w (Ans w fun w' v => IsQ w.heap.size w' v (p - q) (k + j + 1)) := by
  obtain ⟨t, A', n', c', B', m', d', rfl, Zb, Ob, lb⟩ := hb
  have h1 := QP.num_lt
  have h2 := QP.den_lt
  have h3 : q.num.natAbs < M.R ^ j := Zb.tm.nm.lt
  have h4 : q.den < M.R ^ j := by rw [← M.lims_length_le, Ob.len]; exact lb
  obtain ⟨_, _, _, _, _, _, _, ea, Ta, hsa, Da⟩ := QP
  cases ea
  have HG := Lib.hid (show p.den.gcd q.den ≠ 0 by have := two_g p q; omega)
  have PB := (Bq.new w t A' n' c' B' m' d').alloc (.cells #[.bool false, .slice none 0 0, .slice none 0 0] 26)
  have PR := Bq.new2 w (.cells #[.bool t, .slice A' n' c', .slice B' m' d'] 26) false none 0 0 none 0 0
  have BB := bl_trans (bl_alloc w (.cells #[.bool t, .slice A' n' c', .slice B' m' d'] 26)) (bl_alloc _ (.cells #[.bool false, .slice none 0 0, .slice none 0 0] 26))
  have hga := PA.lt
  have hgt := PT.lt
  replace PA := PA.below BB
  replace PT := PT.below BB
  have NA : Nm _ B m d p.den k := (Da.nm).below BB
  have NB : Nm _ B' m' d' q.den j := Nm.below ⟨⟨_, Ob.rd, M.val_lims _⟩, lb⟩ BB
  have ZA : IsM ((w.alloc (.cells #[.bool t, .slice A' n' c', .slice B' m' d'] 26)).alloc (.cells #[.bool false, .slice none 0 0, .slice none 0 0] 26)) (.agg #[.bool b, .slice A n c]) p.num k := by
    refine ⟨_, _, _, _, rfl, ⟨⟨_, Ta.nm.below BB, ?_⟩⟩⟩
    rw [hsa]
    by_cases h : p.num < 0
    · rw [decide_eq_true h, zv_true]; omega
    · rw [decide_eq_false h, zv_false]; omega
  have ZB : IsM ((w.alloc (.cells #[.bool t, .slice A' n' c', .slice B' m' d'] 26)).alloc (.cells #[.bool false, .slice none 0 0, .slice none 0 0] 26)) (.agg #[.bool t, .slice A' n' c']) q.num j := ⟨_, _, _, _, rfl, Zb.zm.below BB⟩
  have hs0 : ((w.alloc (.cells #[.bool t, .slice A' n' c', .slice B' m' d'] 26)).alloc (.cells #[.bool false, .slice none 0 0, .slice none 0 0] 26)).heap.size = w.heap.size + 2 := by simp
  clear Zb Ob lb Ta hsa Da
  have a2 := PA.c2
  have b2 := PB.c2
  go_enter Tryz.func98, Tryz.ntmps98
  go_wp2_with fail
  clear a2 b2
  generalize ((w.alloc (.cells #[.bool t, .slice A' n' c', .slice B' m' d'] 26)).alloc (.cells #[.bool false, .slice none 0 0, .slice none 0 0] 26)) = W0 at PA PB PT PR NA NB ZA ZB BB hs0 ⊢
  refine (cGcd (N := 0) ⟨_, _, _, rfl, NA⟩ ⟨_, _, _, rfl, NB⟩ (by omega) (by omega) (Nat.zero_le _)).mono ?_
  rintro e w1 ⟨_, rfl, hb1, G, gn, gc, rfl, og, lg⟩
  have NG : Nm w1 G gn gc (p.den.gcd q.den) (max k j) := ⟨⟨_, og.rd, M.val_lims _⟩, lg⟩
  have hs1 := hb1.size
  replace PA := PA.below hb1
  replace PB := PB.below hb1
  replace PT := PT.below hb1
  replace PR := PR.below hb1
  replace NA := NA.below hb1
  replace NB := NB.below hb1
  replace ZA := ZA.below hb1
  replace ZB := ZB.below hb1
  replace BB := bl_trans BB hb1
  clear hb1 og lg
  go_wp2_with fail
  refine wp_region_list (Ext := RB) (Rel := RBu) [fun v _ _ => v = .pointer (some ⟨w.heap.size, 2, none⟩), fun v _ _ => v = .slice B' m' d', fun v _ _ => v = .slice G gn gc, fun v _ w => IsD (w1).heap.size w v (q.den / (p.den.gcd q.den)) j, fun v _ _ => v = .pointer (some ⟨ga, 2, none⟩), fun v _ _ => v = .slice B m d, fun v _ _ => v = .slice G gn gc, fun v _ w => IsD (w1).heap.size w v (p.den / (p.den.gcd q.den)) k, fun v _ w => IsD (w1).heap.size w v (q.den / (p.den.gcd q.den)) j, fun v _ w => IsD (w1).heap.size w v (p.den / (p.den.gcd q.den)) k] (n := 10) (by kernel_rfl) rfl (by kernel_rfl) (by kernel_rfl) (by kernel_rfl) (by kernel_rfl) (by kernel_rfl) rb_refl rb_trans ⟨sC, ⟨sC, ⟨sC, ⟨sD, ⟨sC, ⟨sC, ⟨sC, ⟨sD, ⟨sD, ⟨sD, trivial⟩⟩⟩⟩⟩⟩⟩⟩⟩⟩ ?_ ?_
  · refine ⟨⟨⟨⟨⟨⟨⟨⟨⟨⟨trivial, ?_⟩, ?_⟩, ?_⟩, ?_⟩, ?_⟩, ?_⟩, ?_⟩, ?_⟩, ?_⟩, ?_⟩
    · refine rs_plain rfl rfl fun a wr S => ?_
      have X := undrew S.ext
      exact wp_qf1 (ev_of ((S.old 3 (by kernel_rfl)).trans rfl)) (done (by kernel_rfl) rbu_refl rfl)
    · refine rs_plain rfl rfl fun a wr S => ?_
      have X := undrew S.ext
      obtain ⟨v0, e0, h0⟩ := S.got 0 (by kernel_rfl)
      exact wp_qD ((ev_of (e0 15 (by kernel_rfl))).trans h0) (PB.below X) (done (by kernel_rfl) rbu_refl rfl)
    · refine rs_plain rfl rfl fun a wr S => ?_
      have X := undrew S.ext
      exact wp_mv (ev_of ((S.old 5 (by kernel_rfl)).trans rfl)) (done (by kernel_rfl) rbu_refl rfl)
    · refine rs_plain rfl rfl fun a wr S => ?_
      have X := undrew S.ext
      obtain ⟨v1, e1, h1⟩ := S.got 1 (by kernel_rfl)
      obtain ⟨v2, e2, h2⟩ := S.got 2 (by kernel_rfl)
      exact st_call cf_rat_without (args2 ((ev_of (e1 16 (by kernel_rfl))).trans h1) ((ev_of (e2 17 (by kernel_rfl))).trans h2)) (by kernel_rfl) rb (cWithout ⟨_, _, _, rfl, NB.below X⟩ ⟨_, _, _, rfl, NG.below X⟩ (by omega) (by omega) HG.out X.size) (fun _ _ _ h => h)
    · refine rs_plain rfl rfl fun a wr S => ?_
      have X := undrew S.ext
      exact wp_qf1 (ev_of ((S.old 1 (by kernel_rfl)).trans rfl)) (done (by kernel_rfl) rbu_refl rfl)
    · refine rs_plain rfl rfl fun a wr S => ?_
      have X := undrew S.ext
      obtain ⟨v4, e4, h4⟩ := S.got 4 (by kernel_rfl)
      exact wp_qD ((ev_of (e4 19 (by kernel_rfl))).trans h4) (PA.below X) (done (by kernel_rfl) rbu_refl rfl)
    · refine rs_plain rfl rfl fun a wr S => ?_
      have X := undrew S.ext
      exact wp_mv (ev_of ((S.old 5 (by kernel_rfl)).trans rfl)) (done (by kernel_rfl) rbu_refl rfl)
    · refine rs_plain rfl rfl fun a wr S => ?_
      have X := undrew S.ext
      obtain ⟨v5, e5, h5⟩ := S.got 5 (by kernel_rfl)
      obtain ⟨v6, e6, h6⟩ := S.got 6 (by kernel_rfl)
      exact st_call cf_rat_without (args2 ((ev_of (e5 20 (by kernel_rfl))).trans h5) ((ev_of (e6 21 (by kernel_rfl))).trans h6)) (by kernel_rfl) rb (cWithout ⟨_, _, _, rfl, NA.below X⟩ ⟨_, _, _, rfl, NG.below X⟩ (by omega) (by omega) HG.out X.size) (fun _ _ _ h => h)
    · refine rs_plain rfl rfl fun a wr S => ?_
      have X := undrew S.ext
      obtain ⟨v3, e3, h3⟩ := S.got 3 (by kernel_rfl)
      exact wp_as (ev_of (e3 18 (by kernel_rfl))) (done (by kernel_rfl) rbu_refl h3)
    · refine rs_plain rfl rfl fun a wr S => ?_
      have X := undrew S.ext
      obtain ⟨v7, e7, h7⟩ := S.got 7 (by kernel_rfl)
      exact wp_as (ev_of (e7 22 (by kernel_rfl))) (done (by kernel_rfl) rbu_refl h7)
  · intro fa w2 hR hv
    replace hR := undrew hR
    have f0 : fa 0 = .pointer (some ⟨w.heap.size, 2, none⟩) := (hvc (hv 0 (by omega))).elim fun _ h => h
    have f1 : fa 1 = .slice B' m' d' := (hvc (hv 1 (by omega))).elim fun _ h => h
    have f2 : fa 2 = .slice G gn gc := (hvc (hv 2 (by omega))).elim fun _ h => h
    have f4 : fa 4 = .pointer (some ⟨ga, 2, none⟩) := (hvc (hv 4 (by omega))).elim fun _ h => h
    have f5 : fa 5 = .slice B m d := (hvc (hv 5 (by omega))).elim fun _ h => h
    have f6 : fa 6 = .slice G gn gc := (hvc (hv 6 (by omega))).elim fun _ h => h
    obtain ⟨Ax, nx, cx, f8, Ox, lx⟩ := (show IsD _ w2 _ (q.den / (p.den.gcd q.den)) j from (hvc (hv 8 (by omega))).elim fun _ h => h)
    obtain ⟨Ay, ny, cy, f9, Oy, ly⟩ := (show IsD _ w2 _ (p.den / (p.den.gcd q.den)) k from (hvc (hv 9 (by omega))).elim fun _ h => h)
    simp only [putFn, Act.put, List.setIfInBounds_toArray, List.set_cons_zero, List.set_cons_succ, f0, f1, f2, f4, f5, f6, f8, f9]
    have NX : Nm w2 Ax nx cx (ofA p q) j := ⟨⟨_, Ox.rd, M.val_lims _⟩, lx⟩
    have NY : Nm w2 Ay ny cy (ofB p q) k := ⟨⟨_, Oy.rd, M.val_lims _⟩, ly⟩
    have hs2 := hR.size
    replace PA := PA.below hR
    replace PB := PB.below hR
    replace PT := PT.below hR
    replace PR := PR.below hR
    replace NA := NA.below hR
    replace NB := NB.below hR
    replace ZA := ZA.below hR
    replace ZB := ZB.below hR
    replace BB := bl_trans BB hR
    clear hR hv Ox lx Oy ly NG NB
    go_wp2_with fail
    refine wp_region_list (Ext := (BelX (w2).heap.size)) (Rel := (BelU (w2).heap.size)) [fun v _ _ => v = .pointer (some ⟨ga, 0, none⟩), fun v _ _ => v = .agg #[.bool b, .slice A n c], fun v _ _ => v = .slice Ax nx cx, fun v _ _ => v = .agg #[.bool false, .slice Ax nx cx], fun v _ w => IsR2 w v (p.num) k (((ofA p q : Nat) : Int)) j, fun v _ w => IsZ (w2).heap.size w v (p.num * (((ofA p q : Nat) : Int))) (k + j), fun v _ w => IsP (w2).heap.size v w, fun _ u w => HasZ (w2).heap.size u w (p.num * (((ofA p q : Nat) : Int))) (k + j)] (n := 8) (by kernel_rfl) rfl (by kernel_rfl) (by kernel_rfl) (by kernel_rfl) (by kernel_rfl) (by kernel_rfl) (rx_refl _) (rxu_trans _) ⟨sC, ⟨sC, ⟨sC, ⟨sC, ⟨xR2, ⟨xZ, ⟨xP, ⟨xHZ, trivial⟩⟩⟩⟩⟩⟩⟩⟩ ?_ ?_
    · refine ⟨⟨⟨⟨⟨⟨⟨⟨trivial, ?_⟩, ?_⟩, ?_⟩, ?_⟩, ?_⟩, ?_⟩, ?_⟩, ?_⟩
      · refine rs_plain rfl rfl fun a wr S => ?_
        have X := undrewX S.ext
        exact wp_qf0 (ev_of ((S.old 1 (by kernel_rfl)).trans rfl)) (done (by kernel_rfl) (rxu_refl _) rfl)
      · refine rs_plain rfl rfl fun a wr S => ?_
        have X := undrewX S.ext
        obtain ⟨v0, e0, h0⟩ := S.got 0 (by kernel_rfl)
        exact wp_qN ((ev_of (e0 23 (by kernel_rfl))).trans h0) (PA.below X) (done (by kernel_rfl) (rxu_refl _) rfl)
      · refine rs_plain rfl rfl fun a wr S => ?_
        have X := undrewX S.ext
        exact wp_mv (ev_of ((S.old 6 (by kernel_rfl)).trans rfl)) (done (by kernel_rfl) (rxu_refl _) rfl)
      · refine rs_plain rfl rfl fun a wr S => ?_
        have X := undrewX S.ext
        obtain ⟨v2, e2, h2⟩ := S.got 2 (by kernel_rfl)
        exact st_call cf_rat_unsigned (args1 ((ev_of (e2 25 (by kernel_rfl))).trans h2)) (by kernel_rfl) (rxu _) (cUnsigned _ _ _) (fun _ _ _ h => h)
      · refine rs_plain rfl rfl fun a wr S => ?_
        have X := undrewX S.ext
        obtain ⟨v1, e1, h1⟩ := S.got 1 (by kernel_rfl)
        obtain ⟨v3, e3, h3⟩ := S.got 3 (by kernel_rfl)
        obtain ⟨b0, A0, n0, c0, hv0, Z0⟩ := (show IsM wr _ _ _ from (ZA.below X))
        obtain ⟨b1, A1, n1, c1, hv1, Z1⟩ := (show IsM wr _ _ _ from (unsM (NX.below X)))
        exact wp_bs2 (((ev_of (e1 24 (by kernel_rfl))).trans h1).trans hv0) (((ev_of (e3 26 (by kernel_rfl))).trans h3).trans hv1) (done' (by kernel_rfl) ((rxu _) _ _ _ (bl_alloc _ _)) (IsR2.new Z0 Z1))
      · refine rs_plain rfl rfl fun a wr S => ?_
        have X := undrewX S.ext
        obtain ⟨v4, e4, h4⟩ := S.got 4 (by kernel_rfl)
        exact st_call cf_big_Mul (args1 (ev_of (e4 27 (by kernel_rfl)))) (by kernel_rfl) (rxu _) (cMul2 (z := p.num) (u := (((ofA p q : Nat) : Int))) h4 (by omega) (by omega) (by omega) X.size) (fun _ _ _ h => h)
      · refine rs_plain rfl rfl fun a wr S => ?_
        have X := undrewX S.ext
        refine st_alloc X.size (fun _ _ _ h => h) fun j vj u hj hs => ?_
        have hj' : j ∈ [6] := alloc_cases (by kernel_rfl) j hj
        simp only [List.mem_cons, List.not_mem_nil, or_false] at hj'
        subst hj'; exact hs
      · refine rs_plain rfl rfl fun a wr S => ?_
        have X := undrewX S.ext
        obtain ⟨v6, e6, h6⟩ := S.got 6 (by kernel_rfl)
        obtain ⟨v5, e5, h5⟩ := S.got 5 (by kernel_rfl)
        exact st_storeZ (by kernel_rfl) (by kernel_rfl) (ev_of (e6 8 (by kernel_rfl))) h6 (ev_of (e5 28 (by kernel_rfl))) h5 (fun _ _ _ h => h)
    · intro fb w3 hR hv
      replace hR := undrewX hR
      have f0 : fb 0 = .pointer (some ⟨ga, 0, none⟩) := (hvc (hv 0 (by omega))).elim fun _ h => h
      have f1 : fb 1 = .agg #[.bool b, .slice A n c] := (hvc (hv 1 (by omega))).elim fun _ h => h
      have f2 : fb 2 = .slice Ax nx cx := (hvc (hv 2 (by omega))).elim fun _ h => h
      have f3 : fb 3 = .agg #[.bool false, .slice Ax nx cx] := (hvc (hv 3 (by omega))).elim fun _ h => h
      obtain ⟨gn, bn, An, nn, cn, f6, hgn, Pn, Zn⟩ := (show HasZ _ (fb 6) w3 (p.num * (((ofA p q : Nat) : Int))) (k + j) from hvs (hv 7 (by omega)) (by kernel_rfl))
      simp only [putFn, Act.put, List.setIfInBounds_toArray, List.set_cons_zero, List.set_cons_succ, f0, f1, f2, f3, f6]
      have hs3 := hR.size
      replace PA := PA.below hR
      replace PB := PB.below hR
      replace PT := PT.below hR
      replace PR := PR.below hR
      replace NA := NA.below hR
      replace ZA := ZA.below hR
      replace ZB := ZB.below hR
      replace NX := NX.below hR
      replace NY := NY.below hR
      replace BB := bl_trans BB hR
      have QN : IsM w3 (.agg #[.bool bn, .slice An nn cn]) (p.num * ((ofA p q : Nat) : Int)) (k + j) := ⟨_, _, _, _, rfl, Zn.zm⟩
      clear hR hv Zn hgn ZA
      go_wp2_with fail
      refine wp_region_list (Ext := (BelX (w3).heap.size)) (Rel := (BelU (w3).heap.size)) [fun v _ _ => v = .pointer (some ⟨w.heap.size, 0, none⟩), fun v _ _ => v = .agg #[.bool t, .slice A' n' c'], fun v _ _ => v = .slice Ay ny cy, fun v _ _ => v = .agg #[.bool false, .slice Ay ny cy], fun v _ w => IsR2 w v (q.num) j (((ofB p q : Nat) : Int)) k, fun v _ w => IsZ (w3).heap.size w v (q.num * (((ofB p q : Nat) : Int))) (j + k), fun v _ w => IsP (w3).heap.size v w, fun _ u w => HasZ (w3).heap.size u w (q.num * (((ofB p q : Nat) : Int))) (j + k)] (n := 8) (by kernel_rfl) rfl (by kernel_rfl) (by kernel_rfl) (by kernel_rfl) (by kernel_rfl) (by kernel_rfl) (rx_refl _) (rxu_trans _) ⟨sC, ⟨sC, ⟨sC, ⟨sC, ⟨xR2, ⟨xZ, ⟨xP, ⟨xHZ, trivial⟩⟩⟩⟩⟩⟩⟩⟩ ?_ ?_
      · refine ⟨⟨⟨⟨⟨⟨⟨⟨trivial, ?_⟩, ?_⟩, ?_⟩, ?_⟩, ?_⟩, ?_⟩, ?_⟩, ?_⟩
        · refine rs_plain rfl rfl fun a wr S => ?_
          have X := undrewX S.ext
          exact wp_qf0 (ev_of ((S.old 3 (by kernel_rfl)).trans rfl)) (done (by kernel_rfl) (rxu_refl _) rfl)
        · refine rs_plain rfl rfl fun a wr S => ?_
          have X := undrewX S.ext
          obtain ⟨v0, e0, h0⟩ := S.got 0 (by kernel_rfl)
          exact wp_qN ((ev_of (e0 29 (by kernel_rfl))).trans h0) (PB.below X) (done (by kernel_rfl) (rxu_refl _) rfl)
        · refine rs_plain rfl rfl fun a wr S => ?_
          have X := undrewX S.ext
          exact wp_mv (ev_of ((S.old 7 (by kernel_rfl)).trans rfl)) (done (by kernel_rfl) (rxu_refl _) rfl)
        · refine rs_plain rfl rfl fun a wr S => ?_
          have X := undrewX S.ext
          obtain ⟨v2, e2, h2⟩ := S.got 2 (by kernel_rfl)
          exact st_call cf_rat_unsigned (args1 ((ev_of (e2 31 (by kernel_rfl))).trans h2)) (by kernel_rfl) (rxu _) (cUnsigned _ _ _) (fun _ _ _ h => h)
        · refine rs_plain rfl rfl fun a wr S => ?_
          have X := undrewX S.ext
          obtain ⟨v1, e1, h1⟩ := S.got 1 (by kernel_rfl)
          obtain ⟨v3, e3, h3⟩ := S.got 3 (by kernel_rfl)
          obtain ⟨b0, A0, n0, c0, hv0, Z0⟩ := (show IsM wr _ _ _ from (ZB.below X))
          obtain ⟨b1, A1, n1, c1, hv1, Z1⟩ := (show IsM wr _ _ _ from (unsM (NY.below X)))
          exact wp_bs2 (((ev_of (e1 30 (by kernel_rfl))).trans h1).trans hv0) (((ev_of (e3 32 (by kernel_rfl))).trans h3).trans hv1) (done' (by kernel_rfl) ((rxu _) _ _ _ (bl_alloc _ _)) (IsR2.new Z0 Z1))
        · refine rs_plain rfl rfl fun a wr S => ?_
          have X := undrewX S.ext
          obtain ⟨v4, e4, h4⟩ := S.got 4 (by kernel_rfl)
          exact st_call cf_big_Mul (args1 (ev_of (e4 33 (by kernel_rfl)))) (by kernel_rfl) (rxu _) (cMul2 (z := q.num) (u := (((ofB p q : Nat) : Int))) h4 (by omega) (by omega) (by omega) X.size) (fun _ _ _ h => h)
        · refine rs_plain rfl rfl fun a wr S => ?_
          have X := undrewX S.ext
          refine st_alloc X.size (fun _ _ _ h => h) fun j vj u hj hs => ?_
          have hj' : j ∈ [6] := alloc_cases (by kernel_rfl) j hj
          simp only [List.mem_cons, List.not_mem_nil, or_false] at hj'
          subst hj'; exact hs
        · refine rs_plain rfl rfl fun a wr S => ?_
          have X := undrewX S.ext
          obtain ⟨v6, e6, h6⟩ := S.got 6 (by kernel_rfl)
          obtain ⟨v5, e5, h5⟩ := S.got 5 (by kernel_rfl)
          exact st_storeZ (by kernel_rfl) (by kernel_rfl) (ev_of (e6 9 (by kernel_rfl))) h6 (ev_of (e5 34 (by kernel_rfl))) h5 (fun _ _ _ h => h)
      · intro fc w4 hR hv
        replace hR := undrewX hR
        have f0 : fc 0 = .pointer (some ⟨w.heap.size, 0, none⟩) := (hvc (hv 0 (by omega))).elim fun _ h => h
        have f1 : fc 1 = .agg #[.bool t, .slice A' n' c'] := (hvc (hv 1 (by omega))).elim fun _ h => h
        have f2 : fc 2 = .slice Ay ny cy := (hvc (hv 2 (by omega))).elim fun _ h => h
        have f3 : fc 3 = .agg #[.bool false, .slice Ay ny cy] := (hvc (hv 3 (by omega))).elim fun _ h => h
        obtain ⟨gm, bm, Am, nm, cm, f6, hgm, Pm, Zm⟩ := (show HasZ _ (fc 6) w4 (q.num * (((ofB p q : Nat) : Int))) (j + k) from hvs (hv 7 (by omega)) (by kernel_rfl))
        simp only [putFn, Act.put, List.setIfInBounds_toArray, List.set_cons_zero, List.set_cons_succ, f0, f1, f2, f3, f6]
        have hs4 := hR.size
        replace PA := PA.below hR
        replace PB := PB.below hR
        replace PT := PT.below hR
        replace PR := PR.below hR
        replace NA := NA.below hR
        replace ZB := ZB.below hR
        replace NX := NX.below hR
        replace NY := NY.below hR
        replace Pn := Pn.below hR
        replace QN := QN.below hR
        replace BB := bl_trans BB hR
        have QM : IsM w4 (.agg #[.bool bm, .slice Am nm cm]) (q.num * ((ofB p q : Nat) : Int)) (j + k) := ⟨_, _, _, _, rfl, Zm.zm⟩
        clear hR hv Zm hgm ZB NY PB
        go_wp2_with fail
        refine wp_cut (by kernel_rfl) 7 ?_
        simp only [List.take_succ_cons, List.take_zero, List.drop_succ_cons, List.drop_zero]
        refine wp_cut_list (Ext := RB) (Rel := RBu) [fun v _ _ => v = .func (Fn.func 64) #[] #[], fun v _ _ => v = .agg #[.bool bn, .slice An nn cn], fun v _ _ => v = .agg #[.bool bm, .slice Am nm cm], fun v _ _ => v = .pointer (some ⟨ga, 2, none⟩), fun v _ _ => v = .slice B m d, fun v _ _ => v = .slice Ax nx cx, fun v _ w => IsD (w4).heap.size w v (p.den * (ofA p q)) (k + j)] (n := 7) (by kernel_rfl) (by kernel_rfl) (by kernel_rfl) (by kernel_rfl) (by kernel_rfl) (by kernel_rfl) (by kernel_rfl) (by kernel_rfl) (by kernel_rfl) rb_refl rb_trans ⟨sC, ⟨sC, ⟨sC, ⟨sC, ⟨sC, ⟨sC, ⟨sD, trivial⟩⟩⟩⟩⟩⟩⟩ ?_ ?_
        · refine ⟨⟨⟨⟨⟨⟨⟨trivial, ?_⟩, ?_⟩, ?_⟩, ?_⟩, ?_⟩, ?_⟩, ?_⟩
          · refine rs_plain rfl rfl fun a wr S => ?_
            have X := undrew S.ext
            exact wp_floadR (ev_of ((S.old 2 (by kernel_rfl)).trans rfl)) (PT.below X) (done (by kernel_rfl) rbu_refl rfl)
          · refine rs_plain rfl rfl fun a wr S => ?_
            have X := undrew S.ext
            exact wp_load (ev_of ((S.old 8 (by kernel_rfl)).trans rfl)) (Pn.below X) (done (by kernel_rfl) rbu_refl rfl)
          · refine rs_plain rfl rfl fun a wr S => ?_
            have X := undrew S.ext
            exact wp_load (ev_of ((S.old 9 (by kernel_rfl)).trans rfl)) (Pm.below X) (done (by kernel_rfl) rbu_refl rfl)
          · refine rs_plain rfl rfl fun a wr S => ?_
            have X := undrew S.ext
            exact wp_qf1 (ev_of ((S.old 1 (by kernel_rfl)).trans rfl)) (done (by kernel_rfl) rbu_refl rfl)
          · refine rs_plain rfl rfl fun a wr S => ?_
            have X := undrew S.ext
            obtain ⟨v3, e3, h3⟩ := S.got 3 (by kernel_rfl)
            exact wp_qD ((ev_of (e3 38 (by kernel_rfl))).trans h3) (PA.below X) (done (by kernel_rfl) rbu_refl rfl)
          · refine rs_plain rfl rfl fun a wr S => ?_
            have X := undrew S.ext
            exact wp_mv (ev_of ((S.old 6 (by kernel_rfl)).trans rfl)) (done (by kernel_rfl) rbu_refl rfl)
          · refine rs_plain rfl rfl fun a wr S => ?_
            have X := undrew S.ext
            obtain ⟨v4, e4, h4⟩ := S.got 4 (by kernel_rfl)
            obtain ⟨v5, e5, h5⟩ := S.got 5 (by kernel_rfl)
            exact st_call cf_nat_Mul (args2 ((ev_of (e4 39 (by kernel_rfl))).trans h4) ((ev_of (e5 40 (by kernel_rfl))).trans h5)) (by kernel_rfl) rb (cMulD ⟨_, _, _, rfl, NA.below X⟩ ⟨_, _, _, rfl, NX.below X⟩ (by omega) (by omega) (by omega) X.size) (fun _ _ _ h => h)
        · intro fd w5 hR hv hap
          clear hap
          replace hR := undrew hR
          have f0 : fd 0 = .func (Fn.func 64) #[] #[] := (hvc (hv 0 (by omega))).elim fun _ h => h
          have f1 : fd 1 = .agg #[.bool bn, .slice An nn cn] := (hvc (hv 1 (by omega))).elim fun _ h => h
          have f2 : fd 2 = .agg #[.bool bm, .slice Am nm cm] := (hvc (hv 2 (by omega))).elim fun _ h => h
          have f3 : fd 3 = .pointer (some ⟨ga, 2, none⟩) := (hvc (hv 3 (by omega))).elim fun _ h => h
          have f4 : fd 4 = .slice B m d := (hvc (hv 4 (by omega))).elim fun _ h => h
          have f5 : fd 5 = .slice Ax nx cx := (hvc (hv 5 (by omega))).elim fun _ h => h
          obtain ⟨Az, nz, cz, f6, Oz, lz⟩ := (show IsD _ w5 _ (p.den * (ofA p q)) (k + j) from (hvc (hv 6 (by omega))).elim fun _ h => h)
          simp only [putFn, Act.put, List.setIfInBounds_toArray, List.set_cons_zero, List.set_cons_succ, f0, f1, f2, f3, f4, f5, f6]
          have hs5 := hR.size
          replace QN := QN.below hR
          replace QM := QM.below hR
          replace PR := PR.below hR
          replace BB := bl_trans BB hR
          have ND : IsN w5 (.slice Az nz cz) (p.den * ofA p q) (k + j) := ⟨_, _, _, rfl, ⟨⟨_, Oz.rd, M.val_lims _⟩, lz⟩⟩
          have hd0 : p.den * ofA p q ≠ 0 := Nat.mul_ne_zero p.den_nz (two_A_pos p q)
          clear hR hv Oz lz PA PT NA NX Pn Pm
          go_wp2_with fail
          refine (cSub1c QN QM ND (by omega) (by omega) (by omega) hd0).mono ?_
          rintro e w6 ⟨_, rfl, hb6, q6⟩
          rw [two_sub] at q6
          replace q6 := q6.mono (show _ ≤ k + j + 1 by omega)
          obtain ⟨b6, A6, n6, c6, B6, m6, d6, rfl, _⟩ := id q6
          replace PR := PR.below hb6
          replace BB := bl_trans BB hb6
          have r0 := PR.c0
          have f0 := PR.f 0
          have r1 := PR.c1
          have f1 := PR.f 1
          have r2 := PR.c2
          have f2 := PR.f 2
          clear hb6 QN QM ND
          go_wp2_with fail
          exact bodyPost_ret (v := .agg #[.bool b6, .slice A6 n6 c6, .slice B6 m6 d6]) (by simp [results, Tryz.results98, go_sem, *]) rfl (fin_q q6 BB (by omega) (by omega) _ _ _)

set_option maxHeartbeats 4000000 in
theorem two2_Mul {w : World} {v : Value} {p q : Rat} {k j N ga gt : Nat} {b : Bool} {A B : Option Addr} {n c m d : Nat} (hb : IsQ N w v q j) (PA : Bq w ga b A n c B m d) (QP : IsQt w (.agg #[.bool b, .slice A n c, .slice B m d]) p k) (PT : Bf w gt (.func (Fn.func 65) #[] #[]) 58) (hk : k ≤ 18) (hj : j ≤ 18) : Calls Tryz.prog 98 #[v, .pointer (some ⟨ga, 0, none⟩), .pointer (some ⟨gt, 0, none⟩)] w (Ans w fun w' v => IsQ w.heap.size w' v (p * q) (k + j)) := by
  obtain ⟨t, A', n', c', B', m', d', rfl, Zb, Ob, lb⟩ := hb
  have h1 := QP.num_lt
  have h2 := QP.den_lt
  have h3 : q.num.natAbs < M.R ^ j := Zb.tm.nm.lt
  have h4 : q.den < M.R ^ j := by rw [← M.lims_length_le, Ob.len]; exact lb
  obtain ⟨_, _, _, _, _, _, _, ea, Ta, hsa, Da⟩ := QP
  cases ea
  have HG := Lib.hid (show p.den.gcd q.den ≠ 0 by have := two_g p q; omega)
  have PB := (Bq.new w t A' n' c' B' m' d').alloc (.cells #[.bool false, .slice none 0 0, .slice none 0 0] 26)
  have PR := Bq.new2 w (.cells #[.bool t, .slice A' n' c', .slice B' m' d'] 26) false none 0 0 none 0 0
  have BB := bl_trans (bl_alloc w (.cells #[.bool t, .slice A' n' c', .slice B' m' d'] 26)) (bl_alloc _ (.cells #[.bool false, .slice none 0 0, .slice none 0 0] 26))
  have hga := PA.lt
  have hgt := PT.lt
  replace PA := PA.below BB
  replace PT := PT.below BB
  have NA : Nm _ B m d p.den k := (Da.nm).below BB
  have NB : Nm _ B' m' d' q.den j := Nm.below ⟨⟨_, Ob.rd, M.val_lims _⟩, lb⟩ BB
  have ZA : IsM ((w.alloc (.cells #[.bool t, .slice A' n' c', .slice B' m' d'] 26)).alloc (.cells #[.bool false, .slice none 0 0, .slice none 0 0] 26)) (.agg #[.bool b, .slice A n c]) p.num k := by
    refine ⟨_, _, _, _, rfl, ⟨⟨_, Ta.nm.below BB, ?_⟩⟩⟩
    rw [hsa]
    by_cases h : p.num < 0
    · rw [decide_eq_true h, zv_true]; omega
    · rw [decide_eq_false h, zv_false]; omega
  have ZB : IsM ((w.alloc (.cells #[.bool t, .slice A' n' c', .slice B' m' d'] 26)).alloc (.cells #[.bool false, .slice none 0 0, .slice none 0 0] 26)) (.agg #[.bool t, .slice A' n' c']) q.num j := ⟨_, _, _, _, rfl, Zb.zm.below BB⟩
  have hs0 : ((w.alloc (.cells #[.bool t, .slice A' n' c', .slice B' m' d'] 26)).alloc (.cells #[.bool false, .slice none 0 0, .slice none 0 0] 26)).heap.size = w.heap.size + 2 := by simp
  clear Zb Ob lb Ta hsa Da
  have a2 := PA.c2
  have b2 := PB.c2
  go_enter Tryz.func98, Tryz.ntmps98
  go_wp2_with fail
  clear a2 b2
  generalize ((w.alloc (.cells #[.bool t, .slice A' n' c', .slice B' m' d'] 26)).alloc (.cells #[.bool false, .slice none 0 0, .slice none 0 0] 26)) = W0 at PA PB PT PR NA NB ZA ZB BB hs0 ⊢
  refine (cGcd (N := 0) ⟨_, _, _, rfl, NA⟩ ⟨_, _, _, rfl, NB⟩ (by omega) (by omega) (Nat.zero_le _)).mono ?_
  rintro e w1 ⟨_, rfl, hb1, G, gn, gc, rfl, og, lg⟩
  have NG : Nm w1 G gn gc (p.den.gcd q.den) (max k j) := ⟨⟨_, og.rd, M.val_lims _⟩, lg⟩
  have hs1 := hb1.size
  replace PA := PA.below hb1
  replace PB := PB.below hb1
  replace PT := PT.below hb1
  replace PR := PR.below hb1
  replace NA := NA.below hb1
  replace NB := NB.below hb1
  replace ZA := ZA.below hb1
  replace ZB := ZB.below hb1
  replace BB := bl_trans BB hb1
  clear hb1 og lg
  go_wp2_with fail
  refine wp_region_list (Ext := RB) (Rel := RBu) [fun v _ _ => v = .pointer (some ⟨w.heap.size, 2, none⟩), fun v _ _ => v = .slice B' m' d', fun v _ _ => v = .slice G gn gc, fun v _ w => IsD (w1).heap.size w v (q.den / (p.den.gcd q.den)) j, fun v _ _ => v = .pointer (some ⟨ga, 2, none⟩), fun v _ _ => v = .slice B m d, fun v _ _ => v = .slice G gn gc, fun v _ w => IsD (w1).heap.size w v (p.den / (p.den.gcd q.den)) k, fun v _ w => IsD (w1).heap.size w v (q.den / (p.den.gcd q.den)) j, fun v _ w => IsD (w1).heap.size w v (p.den / (p.den.gcd q.den)) k] (n := 10) (by kernel_rfl) rfl (by kernel_rfl) (by kernel_rfl) (by kernel_rfl) (by kernel_rfl) (by kernel_rfl) rb_refl rb_trans ⟨sC, ⟨sC, ⟨sC, ⟨sD, ⟨sC, ⟨sC, ⟨sC, ⟨sD, ⟨sD, ⟨sD, trivial⟩⟩⟩⟩⟩⟩⟩⟩⟩⟩ ?_ ?_
  · refine ⟨⟨⟨⟨⟨⟨⟨⟨⟨⟨trivial, ?_⟩, ?_⟩, ?_⟩, ?_⟩, ?_⟩, ?_⟩, ?_⟩, ?_⟩, ?_⟩, ?_⟩
    · refine rs_plain rfl rfl fun a wr S => ?_
      have X := undrew S.ext
      exact wp_qf1 (ev_of ((S.old 3 (by kernel_rfl)).trans rfl)) (done (by kernel_rfl) rbu_refl rfl)
    · refine rs_plain rfl rfl fun a wr S => ?_
      have X := undrew S.ext
      obtain ⟨v0, e0, h0⟩ := S.got 0 (by kernel_rfl)
      exact wp_qD ((ev_of (e0 15 (by kernel_rfl))).trans h0) (PB.below X) (done (by kernel_rfl) rbu_refl rfl)
    · refine rs_plain rfl rfl fun a wr S => ?_
      have X := undrew S.ext
      exact wp_mv (ev_of ((S.old 5 (by kernel_rfl)).trans rfl)) (done (by kernel_rfl) rbu_refl rfl)
    · refine rs_plain rfl rfl fun a wr S => ?_
      have X := undrew S.ext
      obtain ⟨v1, e1, h1⟩ := S.got 1 (by kernel_rfl)
      obtain ⟨v2, e2, h2⟩ := S.got 2 (by kernel_rfl)
      exact st_call cf_rat_without (args2 ((ev_of (e1 16 (by kernel_rfl))).trans h1) ((ev_of (e2 17 (by kernel_rfl))).trans h2)) (by kernel_rfl) rb (cWithout ⟨_, _, _, rfl, NB.below X⟩ ⟨_, _, _, rfl, NG.below X⟩ (by omega) (by omega) HG.out X.size) (fun _ _ _ h => h)
    · refine rs_plain rfl rfl fun a wr S => ?_
      have X := undrew S.ext
      exact wp_qf1 (ev_of ((S.old 1 (by kernel_rfl)).trans rfl)) (done (by kernel_rfl) rbu_refl rfl)
    · refine rs_plain rfl rfl fun a wr S => ?_
      have X := undrew S.ext
      obtain ⟨v4, e4, h4⟩ := S.got 4 (by kernel_rfl)
      exact wp_qD ((ev_of (e4 19 (by kernel_rfl))).trans h4) (PA.below X) (done (by kernel_rfl) rbu_refl rfl)
    · refine rs_plain rfl rfl fun a wr S => ?_
      have X := undrew S.ext
      exact wp_mv (ev_of ((S.old 5 (by kernel_rfl)).trans rfl)) (done (by kernel_rfl) rbu_refl rfl)
    · refine rs_plain rfl rfl fun a wr S => ?_
      have X := undrew S.ext
      obtain ⟨v5, e5, h5⟩ := S.got 5 (by kernel_rfl)
      obtain ⟨v6, e6, h6⟩ := S.got 6 (by kernel_rfl)
      exact st_call cf_rat_without (args2 ((ev_of (e5 20 (by kernel_rfl))).trans h5) ((ev_of (e6 21 (by kernel_rfl))).trans h6)) (by kernel_rfl) rb (cWithout ⟨_, _, _, rfl, NA.below X⟩ ⟨_, _, _, rfl, NG.below X⟩ (by omega) (by omega) HG.out X.size) (fun _ _ _ h => h)
    · refine rs_plain rfl rfl fun a wr S => ?_
      have X := undrew S.ext
      obtain ⟨v3, e3, h3⟩ := S.got 3 (by kernel_rfl)
      exact wp_as (ev_of (e3 18 (by kernel_rfl))) (done (by kernel_rfl) rbu_refl h3)
    · refine rs_plain rfl rfl fun a wr S => ?_
      have X := undrew S.ext
      obtain ⟨v7, e7, h7⟩ := S.got 7 (by kernel_rfl)
      exact wp_as (ev_of (e7 22 (by kernel_rfl))) (done (by kernel_rfl) rbu_refl h7)
  · intro fa w2 hR hv
    replace hR := undrew hR
    have f0 : fa 0 = .pointer (some ⟨w.heap.size, 2, none⟩) := (hvc (hv 0 (by omega))).elim fun _ h => h
    have f1 : fa 1 = .slice B' m' d' := (hvc (hv 1 (by omega))).elim fun _ h => h
    have f2 : fa 2 = .slice G gn gc := (hvc (hv 2 (by omega))).elim fun _ h => h
    have f4 : fa 4 = .pointer (some ⟨ga, 2, none⟩) := (hvc (hv 4 (by omega))).elim fun _ h => h
    have f5 : fa 5 = .slice B m d := (hvc (hv 5 (by omega))).elim fun _ h => h
    have f6 : fa 6 = .slice G gn gc := (hvc (hv 6 (by omega))).elim fun _ h => h
    obtain ⟨Ax, nx, cx, f8, Ox, lx⟩ := (show IsD _ w2 _ (q.den / (p.den.gcd q.den)) j from (hvc (hv 8 (by omega))).elim fun _ h => h)
    obtain ⟨Ay, ny, cy, f9, Oy, ly⟩ := (show IsD _ w2 _ (p.den / (p.den.gcd q.den)) k from (hvc (hv 9 (by omega))).elim fun _ h => h)
    simp only [putFn, Act.put, List.setIfInBounds_toArray, List.set_cons_zero, List.set_cons_succ, f0, f1, f2, f4, f5, f6, f8, f9]
    have NX : Nm w2 Ax nx cx (ofA p q) j := ⟨⟨_, Ox.rd, M.val_lims _⟩, lx⟩
    have NY : Nm w2 Ay ny cy (ofB p q) k := ⟨⟨_, Oy.rd, M.val_lims _⟩, ly⟩
    have hs2 := hR.size
    replace PA := PA.below hR
    replace PB := PB.below hR
    replace PT := PT.below hR
    replace PR := PR.below hR
    replace NA := NA.below hR
    replace NB := NB.below hR
    replace ZA := ZA.below hR
    replace ZB := ZB.below hR
    replace BB := bl_trans BB hR
    clear hR hv Ox lx Oy ly NG NB
    go_wp2_with fail
    refine wp_region_list (Ext := (BelX (w2).heap.size)) (Rel := (BelU (w2).heap.size)) [fun v _ _ => v = .pointer (some ⟨ga, 0, none⟩), fun v _ _ => v = .agg #[.bool b, .slice A n c], fun v _ _ => v = .slice Ax nx cx, fun v _ _ => v = .agg #[.bool false, .slice Ax nx cx], fun v _ w => IsR2 w v (p.num) k (((ofA p q : Nat) : Int)) j, fun v _ w => IsZ (w2).heap.size w v (p.num * (((ofA p q : Nat) : Int))) (k + j), fun v _ w => IsP (w2).heap.size v w, fun _ u w => HasZ (w2).heap.size u w (p.num * (((ofA p q : Nat) : Int))) (k + j)] (n := 8) (by kernel_rfl) rfl (by kernel_rfl) (by kernel_rfl) (by kernel_rfl) (by kernel_rfl) (by kernel_rfl) (rx_refl _) (rxu_trans _) ⟨sC, ⟨sC, ⟨sC, ⟨sC, ⟨xR2, ⟨xZ, ⟨xP, ⟨xHZ, trivial⟩⟩⟩⟩⟩⟩⟩⟩ ?_ ?_
    · refine ⟨⟨⟨⟨⟨⟨⟨⟨trivial, ?_⟩, ?_⟩, ?_⟩, ?_⟩, ?_⟩, ?_⟩, ?_⟩, ?_⟩
      · refine rs_plain rfl rfl fun a wr S => ?_
        have X := undrewX S.ext
        exact wp_qf0 (ev_of ((S.old 1 (by kernel_rfl)).trans rfl)) (done (by kernel_rfl) (rxu_refl _) rfl)
      · refine rs_plain rfl rfl fun a wr S => ?_
        have X := undrewX S.ext
        obtain ⟨v0, e0, h0⟩ := S.got 0 (by kernel_rfl)
        exact wp_qN ((ev_of (e0 23 (by kernel_rfl))).trans h0) (PA.below X) (done (by kernel_rfl) (rxu_refl _) rfl)
      · refine rs_plain rfl rfl fun a wr S => ?_
        have X := undrewX S.ext
        exact wp_mv (ev_of ((S.old 6 (by kernel_rfl)).trans rfl)) (done (by kernel_rfl) (rxu_refl _) rfl)
      · refine rs_plain rfl rfl fun a wr S => ?_
        have X := undrewX S.ext
        obtain ⟨v2, e2, h2⟩ := S.got 2 (by kernel_rfl)
        exact st_call cf_rat_unsigned (args1 ((ev_of (e2 25 (by kernel_rfl))).trans h2)) (by kernel_rfl) (rxu _) (cUnsigned _ _ _) (fun _ _ _ h => h)
      · refine rs_plain rfl rfl fun a wr S => ?_
        have X := undrewX S.ext
        obtain ⟨v1, e1, h1⟩ := S.got 1 (by kernel_rfl)
        obtain ⟨v3, e3, h3⟩ := S.got 3 (by kernel_rfl)
        obtain ⟨b0, A0, n0, c0, hv0, Z0⟩ := (show IsM wr _ _ _ from (ZA.below X))
        obtain ⟨b1, A1, n1, c1, hv1, Z1⟩ := (show IsM wr _ _ _ from (unsM (NX.below X)))
        exact wp_bs2 (((ev_of (e1 24 (by kernel_rfl))).trans h1).trans hv0) (((ev_of (e3 26 (by kernel_rfl))).trans h3).trans hv1) (done' (by kernel_rfl) ((rxu _) _ _ _ (bl_alloc _ _)) (IsR2.new Z0 Z1))
      · refine rs_plain rfl rfl fun a wr S => ?_
        have X := undrewX S.ext
        obtain ⟨v4, e4, h4⟩ := S.got 4 (by kernel_rfl)
        exact st_call cf_big_Mul (args1 (ev_of (e4 27 (by kernel_rfl)))) (by kernel_rfl) (rxu _) (cMul2 (z := p.num) (u := (((ofA p q : Nat) : Int))) h4 (by omega) (by omega) (by omega) X.size) (fun _ _ _ h => h)
      · refine rs_plain rfl rfl fun a wr S => ?_
        have X := undrewX S.ext
        refine st_alloc X.size (fun _ _ _ h => h) fun j vj u hj hs => ?_
        have hj' : j ∈ [6] := alloc_cases (by kernel_rfl) j hj
        simp only [List.mem_cons, List.not_mem_nil, or_false] at hj'
        subst hj'; exact hs
      · refine rs_plain rfl rfl fun a wr S => ?_
        have X := undrewX S.ext
        obtain ⟨v6, e6, h6⟩ := S.got 6 (by kernel_rfl)
        obtain ⟨v5, e5, h5⟩ := S.got 5 (by kernel_rfl)
        exact st_storeZ (by kernel_rfl) (by kernel_rfl) (ev_of (e6 8 (by kernel_rfl))) h6 (ev_of (e5 28 (by kernel_rfl))) h5 (fun _ _ _ h => h)
    · intro fb w3 hR hv
      replace hR := undrewX hR
      have f0 : fb 0 = .pointer (some ⟨ga, 0, none⟩) := (hvc (hv 0 (by omega))).elim fun _ h => h
      have f1 : fb 1 = .agg #[.bool b, .slice A n c] := (hvc (hv 1 (by omega))).elim fun _ h => h
      have f2 : fb 2 = .slice Ax nx cx := (hvc (hv 2 (by omega))).elim fun _ h => h
      have f3 : fb 3 = .agg #[.bool false, .slice Ax nx cx] := (hvc (hv 3 (by omega))).elim fun _ h => h
      obtain ⟨gn, bn, An, nn, cn, f6, hgn, Pn, Zn⟩ := (show HasZ _ (fb 6) w3 (p.num * (((ofA p q : Nat) : Int))) (k + j) from hvs (hv 7 (by omega)) (by kernel_rfl))
      simp only [putFn, Act.put, List.setIfInBounds_toArray, List.set_cons_zero, List.set_cons_succ, f0, f1, f2, f3, f6]
      have hs3 := hR.size
      replace PA := PA.below hR
      replace PB := PB.below hR
      replace PT := PT.below hR
      replace PR := PR.below hR
      replace NA := NA.below hR
      replace ZA := ZA.below hR
      replace ZB := ZB.below hR
      replace NX := NX.below hR
      replace NY := NY.below hR
      replace BB := bl_trans BB hR
      have QN : IsM w3 (.agg #[.bool bn, .slice An nn cn]) (p.num * ((ofA p q : Nat) : Int)) (k + j) := ⟨_, _, _, _, rfl, Zn.zm⟩
      clear hR hv Zn hgn ZA
      go_wp2_with fail
      refine wp_region_list (Ext := (BelX (w3).heap.size)) (Rel := (BelU (w3).heap.size)) [fun v _ _ => v = .pointer (some ⟨w.heap.size, 0, none⟩), fun v _ _ => v = .agg #[.bool t, .slice A' n' c'], fun v _ _ => v = .slice Ay ny cy, fun v _ _ => v = .agg #[.bool false, .slice Ay ny cy], fun v _ w => IsR2 w v (q.num) j (((ofB p q : Nat) : Int)) k, fun v _ w => IsZ (w3).heap.size w v (q.num * (((ofB p q : Nat) : Int))) (j + k), fun v _ w => IsP (w3).heap.size v w, fun _ u w => HasZ (w3).heap.size u w (q.num * (((ofB p q : Nat) : Int))) (j + k)] (n := 8) (by kernel_rfl) rfl (by kernel_rfl) (by kernel_rfl) (by kernel_rfl) (by kernel_rfl) (by kernel_rfl) (rx_refl _) (rxu_trans _) ⟨sC, ⟨sC, ⟨sC, ⟨sC, ⟨xR2, ⟨xZ, ⟨xP, ⟨xHZ, trivial⟩⟩⟩⟩⟩⟩⟩⟩ ?_ ?_
      · refine ⟨⟨⟨⟨⟨⟨⟨⟨trivial, ?_⟩, ?_⟩, ?_⟩, ?_⟩, ?_⟩, ?_⟩, ?_⟩, ?_⟩
        · refine rs_plain rfl rfl fun a wr S => ?_
          have X := undrewX S.ext
          exact wp_qf0 (ev_of ((S.old 3 (by kernel_rfl)).trans rfl)) (done (by kernel_rfl) (rxu_refl _) rfl)
        · refine rs_plain rfl rfl fun a wr S => ?_
          have X := undrewX S.ext
          obtain ⟨v0, e0, h0⟩ := S.got 0 (by kernel_rfl)
          exact wp_qN ((ev_of (e0 29 (by kernel_rfl))).trans h0) (PB.below X) (done (by kernel_rfl) (rxu_refl _) rfl)
        · refine rs_plain rfl rfl fun a wr S => ?_
          have X := undrewX S.ext
          exact wp_mv (ev_of ((S.old 7 (by kernel_rfl)).trans rfl)) (done (by kernel_rfl) (rxu_refl _) rfl)
        · refine rs_plain rfl rfl fun a wr S => ?_
          have X := undrewX S.ext
          obtain ⟨v2, e2, h2⟩ := S.got 2 (by kernel_rfl)
          exact st_call cf_rat_unsigned (args1 ((ev_of (e2 31 (by kernel_rfl))).trans h2)) (by kernel_rfl) (rxu _) (cUnsigned _ _ _) (fun _ _ _ h => h)
        · refine rs_plain rfl rfl fun a wr S => ?_
          have X := undrewX S.ext
          obtain ⟨v1, e1, h1⟩ := S.got 1 (by kernel_rfl)
          obtain ⟨v3, e3, h3⟩ := S.got 3 (by kernel_rfl)
          obtain ⟨b0, A0, n0, c0, hv0, Z0⟩ := (show IsM wr _ _ _ from (ZB.below X))
          obtain ⟨b1, A1, n1, c1, hv1, Z1⟩ := (show IsM wr _ _ _ from (unsM (NY.below X)))
          exact wp_bs2 (((ev_of (e1 30 (by kernel_rfl))).trans h1).trans hv0) (((ev_of (e3 32 (by kernel_rfl))).trans h3).trans hv1) (done' (by kernel_rfl) ((rxu _) _ _ _ (bl_alloc _ _)) (IsR2.new Z0 Z1))
        · refine rs_plain rfl rfl fun a wr S => ?_
          have X := undrewX S.ext
          obtain ⟨v4, e4, h4⟩ := S.got 4 (by kernel_rfl)
          exact st_call cf_big_Mul (args1 (ev_of (e4 33 (by kernel_rfl)))) (by kernel_rfl) (rxu _) (cMul2 (z := q.num) (u := (((ofB p q : Nat) : Int))) h4 (by omega) (by omega) (by omega) X.size) (fun _ _ _ h => h)
        · refine rs_plain rfl rfl fun a wr S => ?_
          have X := undrewX S.ext
          refine st_alloc X.size (fun _ _ _ h => h) fun j vj u hj hs => ?_
          have hj' : j ∈ [6] := alloc_cases (by kernel_rfl) j hj
          simp only [List.mem_cons, List.not_mem_nil, or_false] at hj'
          subst hj'; exact hs
        · refine rs_plain rfl rfl fun a wr S => ?_
          have X := undrewX S.ext
          obtain ⟨v6, e6, h6⟩ := S.got 6 (by kernel_rfl)
          obtain ⟨v5, e5, h5⟩ := S.got 5 (by kernel_rfl)
          exact st_storeZ (by kernel_rfl) (by kernel_rfl) (ev_of (e6 9 (by kernel_rfl))) h6 (ev_of (e5 34 (by kernel_rfl))) h5 (fun _ _ _ h => h)
      · intro fc w4 hR hv
        replace hR := undrewX hR
        have f0 : fc 0 = .pointer (some ⟨w.heap.size, 0, none⟩) := (hvc (hv 0 (by omega))).elim fun _ h => h
        have f1 : fc 1 = .agg #[.bool t, .slice A' n' c'] := (hvc (hv 1 (by omega))).elim fun _ h => h
        have f2 : fc 2 = .slice Ay ny cy := (hvc (hv 2 (by omega))).elim fun _ h => h
        have f3 : fc 3 = .agg #[.bool false, .slice Ay ny cy] := (hvc (hv 3 (by omega))).elim fun _ h => h
        obtain ⟨gm, bm, Am, nm, cm, f6, hgm, Pm, Zm⟩ := (show HasZ _ (fc 6) w4 (q.num * (((ofB p q : Nat) : Int))) (j + k) from hvs (hv 7 (by omega)) (by kernel_rfl))
        simp only [putFn, Act.put, List.setIfInBounds_toArray, List.set_cons_zero, List.set_cons_succ, f0, f1, f2, f3, f6]
        have hs4 := hR.size
        replace PA := PA.below hR
        replace PB := PB.below hR
        replace PT := PT.below hR
        replace PR := PR.below hR
        replace NA := NA.below hR
        replace ZB := ZB.below hR
        replace NX := NX.below hR
        replace NY := NY.below hR
        replace Pn := Pn.below hR
        replace QN := QN.below hR
        replace BB := bl_trans BB hR
        have QM : IsM w4 (.agg #[.bool bm, .slice Am nm cm]) (q.num * ((ofB p q : Nat) : Int)) (j + k) := ⟨_, _, _, _, rfl, Zm.zm⟩
        clear hR hv Zm hgm ZB NY PB
        go_wp2_with fail
        refine wp_cut (by kernel_rfl) 7 ?_
        simp only [List.take_succ_cons, List.take_zero, List.drop_succ_cons, List.drop_zero]
        refine wp_cut_list (Ext := RB) (Rel := RBu) [fun v _ _ => v = .func (Fn.func 65) #[] #[], fun v _ _ => v = .agg #[.bool bn, .slice An nn cn], fun v _ _ => v = .agg #[.bool bm, .slice Am nm cm], fun v _ _ => v = .pointer (some ⟨ga, 2, none⟩), fun v _ _ => v = .slice B m d, fun v _ _ => v = .slice Ax nx cx, fun v _ w => IsD (w4).heap.size w v (p.den * (ofA p q)) (k + j)] (n := 7) (by kernel_rfl) (by kernel_rfl) (by kernel_rfl) (by kernel_rfl) (by kernel_rfl) (by kernel_rfl) (by kernel_rfl) (by kernel_rfl) (by kernel_rfl) rb_refl rb_trans ⟨sC, ⟨sC, ⟨sC, ⟨sC, ⟨sC, ⟨sC, ⟨sD, trivial⟩⟩⟩⟩⟩⟩⟩ ?_ ?_
        · refine ⟨⟨⟨⟨⟨⟨⟨trivial, ?_⟩, ?_⟩, ?_⟩, ?_⟩, ?_⟩, ?_⟩, ?_⟩
          · refine rs_plain rfl rfl fun a wr S => ?_
            have X := undrew S.ext
            exact wp_floadR (ev_of ((S.old 2 (by kernel_rfl)).trans rfl)) (PT.below X) (done (by kernel_rfl) rbu_refl rfl)
          · refine rs_plain rfl rfl fun a wr S => ?_
            have X := undrew S.ext
            exact wp_load (ev_of ((S.old 8 (by kernel_rfl)).trans rfl)) (Pn.below X) (done (by kernel_rfl) rbu_refl rfl)
          · refine rs_plain rfl rfl fun a wr S => ?_
            have X := undrew S.ext
            exact wp_load (ev_of ((S.old 9 (by kernel_rfl)).trans rfl)) (Pm.below X) (done (by kernel_rfl) rbu_refl rfl)
          · refine rs_plain rfl rfl fun a wr S => ?_
            have X := undrew S.ext
            exact wp_qf1 (ev_of ((S.old 1 (by kernel_rfl)).trans rfl)) (done (by kernel_rfl) rbu_refl rfl)
          · refine rs_plain rfl rfl fun a wr S => ?_
            have X := undrew S.ext
            obtain ⟨v3, e3, h3⟩ := S.got 3 (by kernel_rfl)
            exact wp_qD ((ev_of (e3 38 (by kernel_rfl))).trans h3) (PA.below X) (done (by kernel_rfl) rbu_refl rfl)
          · refine rs_plain rfl rfl fun a wr S => ?_
            have X := undrew S.ext
            exact wp_mv (ev_of ((S.old 6 (by kernel_rfl)).trans rfl)) (done (by kernel_rfl) rbu_refl rfl)
          · refine rs_plain rfl rfl fun a wr S => ?_
            have X := undrew S.ext
            obtain ⟨v4, e4, h4⟩ := S.got 4 (by kernel_rfl)
            obtain ⟨v5, e5, h5⟩ := S.got 5 (by kernel_rfl)
            exact st_call cf_nat_Mul (args2 ((ev_of (e4 39 (by kernel_rfl))).trans h4) ((ev_of (e5 40 (by kernel_rfl))).trans h5)) (by kernel_rfl) rb (cMulD ⟨_, _, _, rfl, NA.below X⟩ ⟨_, _, _, rfl, NX.below X⟩ (by omega) (by omega) (by omega) X.size) (fun _ _ _ h => h)
        · intro fd w5 hR hv hap
          clear hap
          replace hR := undrew hR
          have f0 : fd 0 = .func (Fn.func 65) #[] #[] := (hvc (hv 0 (by omega))).elim fun _ h => h
          have f1 : fd 1 = .agg #[.bool bn, .slice An nn cn] := (hvc (hv 1 (by omega))).elim fun _ h => h
          have f2 : fd 2 = .agg #[.bool bm, .slice Am nm cm] := (hvc (hv 2 (by omega))).elim fun _ h => h
          have f3 : fd 3 = .pointer (some ⟨ga, 2, none⟩) := (hvc (hv 3 (by omega))).elim fun _ h => h
          have f4 : fd 4 = .slice B m d := (hvc (hv 4 (by omega))).elim fun _ h => h
          have f5 : fd 5 = .slice Ax nx cx := (hvc (hv 5 (by omega))).elim fun _ h => h
          obtain ⟨Az, nz, cz, f6, Oz, lz⟩ := (show IsD _ w5 _ (p.den * (ofA p q)) (k + j) from (hvc (hv 6 (by omega))).elim fun _ h => h)
          simp only [putFn, Act.put, List.setIfInBounds_toArray, List.set_cons_zero, List.set_cons_succ, f0, f1, f2, f3, f4, f5, f6]
          have hs5 := hR.size
          replace QN := QN.below hR
          replace QM := QM.below hR
          replace PR := PR.below hR
          replace BB := bl_trans BB hR
          have ND : IsN w5 (.slice Az nz cz) (p.den * ofA p q) (k + j) := ⟨_, _, _, rfl, ⟨⟨_, Oz.rd, M.val_lims _⟩, lz⟩⟩
          have hd0 : p.den * ofA p q ≠ 0 := Nat.mul_ne_zero p.den_nz (two_A_pos p q)
          clear hR hv Oz lz PA PT NA NX Pn Pm
          go_wp2_with fail
          refine (cMul1c QN QM ND (by omega) (by omega) (by omega) (by omega) hd0).mono ?_
          rintro e w6 ⟨_, rfl, hb6, q6⟩
          rw [two_mul] at q6
          have hf := mul_fits h1 h2 h3 h4
          replace q6 := q6.fit hf.1 hf.2
          clear hf
          obtain ⟨b6, A6, n6, c6, B6, m6, d6, rfl, _⟩ := id q6
          replace PR := PR.below hb6
          replace BB := bl_trans BB hb6
          have r0 := PR.c0
          have f0 := PR.f 0
          have r1 := PR.c1
          have f1 := PR.f 1
          have r2 := PR.c2
          have f2 := PR.f 2
          clear hb6 QN QM ND
          go_wp2_with fail
          exact bodyPost_ret (v := .agg #[.bool b6, .slice A6 n6 c6, .slice B6 m6 d6]) (by simp [results, Tryz.results98, go_sem, *]) rfl (fin_q q6 BB (by omega) (by omega) _ _ _)

end Go.Proofs.YtbhgbilhoonopaaGreat
