/- litmusref02's Div, Mod: of numbers of 24 limbs at most. -/
import Derived.Test.YthjgonfohjgfaaaZRefB
import Derived.Test.YthjgonfohjgfaaaZRefF
namespace Go.Proofs.Ythjgonfohjgfaaa
open Go.RowKit
set_option linter.unusedVariables false
set_option maxRecDepth 100000

section
variable {w w' : World} {v v' : Value} {s t : Bool} {A B : Option Addr} {n c m d x y k j N : Nat} {z u za ub : Int}
set_option maxHeartbeats 2000000

theorem wp_lenS {a : Act} {Q : Exit → Act → World → Prop} {K : Act → World → Prop} {dst : Option Tmp} {ty : TypeId} {pos : String} {af : Array Edge} {gd : Option (Nat × Bool)} {x : Operand} (hx : a.eval x = .slice A n c) (h : K (a.put dst (.int .i64 (n : Int))) w) : Oper.wp Try.prog ⟨dst, .call { callee := .builtin .len, args := #[x], argTypes := #[25] }, ty, pos, af, gd⟩ a w K Q := by
  have hm := args1 hx
  unfold Oper.wp execOp
  go_simp
  exact h
theorem wp_fld0 {a : Act} {Q : Exit → Act → World → Prop} {K : Act → World → Prop} {dst : Option Tmp} {ty : TypeId} {pos : String} {af : Array Edge} {gd : Option (Nat × Bool)} {x : Operand} {b : Bool} (hx : a.eval x = .agg #[.bool b, .slice A n c]) (h : K (a.put dst (.bool b)) w) : Oper.wp Try.prog ⟨dst, .field 32 x 0, ty, pos, af, gd⟩ a w K Q := by
  have hf := field0 w b A n c
  unfold Oper.wp execOp
  simp only [hx]
  go_simp
  exact h
theorem trimRO (h : Nm w A n c x k) (hk : k ≤ 1000) : Calls Try.prog 90 #[.slice A n c] w (Gives w (M.lims x)) := by
  go_enter Try.func90, Try.ntmps90
  go_wp2_with fail
  refine (bitsN h hk).mono ?_
  rintro e w1 ⟨A1, n1, c1, rfl, P, hb1⟩
  obtain ⟨bs, hbs, ht, hv⟩ := P.row
  have hle := P.le
  have HBS := Lib.hid hbs
  have HV := Lib.hid hv
  clear ht hbs hv P h
  go_wp2_with fail
  refine (limbs_any _ _ _ _ _ HBS.out (by omega)).mono ?_
  rw [HV.out]
  rintro e w2 ⟨A2, c2, rfl, ho, hb2⟩
  have HO := Lib.hid (ho.mono (base' := w.heap.size) hb1.size)
  have BB := bl_trans hb1 hb2
  clear hb1 hb2 ho HBS HV
  go_wp2_with fail
  go_ret
  exact ⟨A2, c2, rfl, HO.out, BB⟩
theorem cRefOfZ (s : Bool) (h : Nm w A n c x k) (hk : k ≤ 1000) (hN : N ≤ w.heap.size) : Calls Try.prog 58 #[.bool s, .slice A n c] w (Ans w fun w' v => IsZ N w' v (zv s x) k) := by
  have X := h.alloc (.cells #[.bool false, .slice none 0 0] 32)
  have hlt := M.lims_length_le.2 h.lt
  cases s
  all_goals
    go_enter Try.func58, Try.ntmps58
    go_wp2_with fail
    refine (trimRO X hk).mono ?_
    rintro e w1 ⟨A1, c1, rfl, T, hb1⟩
    have P := (Bz.new w false none 0 0).below hb1
    have BB := bl_trans (bl_alloc w _) hb1
    have r0 := P.c0
    have r1 := P.c1
    have f0 := P.f 0
    have f1 := P.f 1
    clear hb1 X h
    go_wp2_with fail
    first
      | (have Z := zt_signed (s := false) T hlt
         exact bodyPost_ret (v := .agg #[.bool (false && decide (0 < (M.lims x).length)), .slice A1 (M.lims x).length c1]) (by simp [results, Try.results58, go_sem, *]) rfl (givZ_ans hN ⟨_, _, _, _, rfl, fin_z Z BB (Nat.le_refl _) (by simp) _ _⟩))
      | (have Z := zt_signed (s := true) T hlt
         exact bodyPost_ret (v := .agg #[.bool (true && decide (0 < (M.lims x).length)), .slice A1 (M.lims x).length c1]) (by simp [results, Try.results58, go_sem, *]) rfl (givZ_ans hN ⟨_, _, _, _, rfl, fin_z Z BB (Nat.le_refl _) (by simp) _ _⟩))

def IsTE (w : World) (v : Value) (z : Int) (k : Nat) (o : Int) : Prop := ∃ b A n c, v = .tuple #[.agg #[.bool b, .slice A n c], .int .i64 o] ∧ IsT w (.agg #[.bool b, .slice A n c]) z k
theorem IsTE.fin {W : World} {g : Nat} {b : Bool} {o z : Int} (h : IsT W (.agg #[.bool b, .slice A n c]) z k) (P : Bz W g false none 0 0) (hb : Below w.heap.size w W) (hg : w.heap.size ≤ g) :
    Ans w (fun w' v => IsTE w' v z k o) (.returned (.tuple #[.agg #[.bool b, .slice A n c], .int .i64 o])) ((W.setCell ⟨g, 0, none⟩ (.bool b)).setCell ⟨g, 1, none⟩ (.slice A n c)) :=
  ⟨_, rfl, (hb.setCell (p := ⟨g, 0, none⟩) hg _).setCell (p := ⟨g, 1, none⟩) hg _, _, _, _, _, rfl, st_T P h⟩
theorem zv_dec (z : Int) : zv (decide (z < 0)) z.natAbs = z := by
  by_cases h : z < 0
  · rw [decide_eq_true h, zv_true]; omega
  · rw [decide_eq_false h, zv_false]; omega

theorem cRefDiv0 (h : IsM w v za 24) (g : IsM w v' ub 24) (hu : ub = 0) : Calls Try.prog 38 #[v, v'] w (Ans w fun w' v => IsTE w' v 0 0 3) := by
  obtain ⟨s, A, n, c, rfl, Z⟩ := h
  obtain ⟨t, B, m, d, rfl, Z'⟩ := g
  have XA : IsM (((w.alloc (.cells #[.bool s, .slice A n c] 32)).alloc (.cells #[.bool t, .slice B m d] 32)).alloc (.cells #[.bool false, .slice none 0 0] 32)) (.agg #[.bool s, .slice A n c]) za 24 := ⟨_, _, _, _, rfl, ((Z.alloc _).alloc _).alloc _⟩
  have YB : IsM (((w.alloc (.cells #[.bool s, .slice A n c] 32)).alloc (.cells #[.bool t, .slice B m d] 32)).alloc (.cells #[.bool false, .slice none 0 0] 32)) (.agg #[.bool t, .slice B m d]) ub 24 := ⟨_, _, _, _, rfl, ((Z'.alloc _).alloc _).alloc _⟩
  have X0 := ((Z.nm.alloc (.cells #[.bool s, .slice A n c] 32)).alloc (.cells #[.bool t, .slice B m d] 32)).alloc (.cells #[.bool false, .slice none 0 0] 32)
  have Y0 := ((Z'.nm.alloc (.cells #[.bool s, .slice A n c] 32)).alloc (.cells #[.bool t, .slice B m d] 32)).alloc (.cells #[.bool false, .slice none 0 0] 32)
  have PA := ((Bz.new w s A n c).alloc (.cells #[.bool t, .slice B m d] 32)).alloc (.cells #[.bool false, .slice none 0 0] 32)
  have PB := (Bz.new2 w (.cells #[.bool s, .slice A n c] 32) t B m d).alloc (.cells #[.bool false, .slice none 0 0] 32)
  have PR := Bz.new3 w (.cells #[.bool s, .slice A n c] 32) (.cells #[.bool t, .slice B m d] 32) false none 0 0
  have BB := bl_trans (bl_trans (bl_alloc w (.cells #[.bool s, .slice A n c] 32)) (bl_alloc _ (.cells #[.bool t, .slice B m d] 32))) (bl_alloc _ (.cells #[.bool false, .slice none 0 0] 32))
  clear Z Z'
  go_enter Try.func38, Try.ntmps38
  go_wp2_with fail
  refine (divRN_zero X0 Y0 (by omega) (by omega) (by omega)).mono ?_
  rintro e w1 ⟨Q, nq, cq, R, nr, cr, rfl, TQ, TR, hb1⟩
  replace PR := PR.below hb1
  replace BB := bl_trans BB hb1
  have r0 := PR.c0
  have r1 := PR.c1
  have f0 := PR.f 0
  have f1 := PR.f 1
  clear hb1 TQ TR XA YB X0 Y0 PA PB
  go_wp2_with fail
  exact bodyPost_ret (v := .tuple #[.agg #[.bool false, .slice none 0 0], .int .i64 3]) (by simp [results, Try.results38, go_sem, *]) rfl (IsTE.fin (IsT.zero _ 0) PR BB (by omega))

theorem cRefDiv_pp (h : IsM w v za 24) (g : IsM w v' ub 24) (hz : 0 ≤ za) (hu : 0 < ub) : Calls Try.prog 38 #[v, v'] w (Ans w fun w' v => IsTE w' v (dq za ub) 25 0) := by
  have hy : ub.natAbs ≠ 0 := by omega
  obtain ⟨s, A, n, c, rfl, Z⟩ := h
  obtain ⟨t, B, m, d, rfl, Z'⟩ := g
  have XA : IsM (((w.alloc (.cells #[.bool s, .slice A n c] 32)).alloc (.cells #[.bool t, .slice B m d] 32)).alloc (.cells #[.bool false, .slice none 0 0] 32)) (.agg #[.bool s, .slice A n c]) za 24 := ⟨_, _, _, _, rfl, ((Z.alloc _).alloc _).alloc _⟩
  have YB : IsM (((w.alloc (.cells #[.bool s, .slice A n c] 32)).alloc (.cells #[.bool t, .slice B m d] 32)).alloc (.cells #[.bool false, .slice none 0 0] 32)) (.agg #[.bool t, .slice B m d]) ub 24 := ⟨_, _, _, _, rfl, ((Z'.alloc _).alloc _).alloc _⟩
  have X0 := ((Z.nm.alloc (.cells #[.bool s, .slice A n c] 32)).alloc (.cells #[.bool t, .slice B m d] 32)).alloc (.cells #[.bool false, .slice none 0 0] 32)
  have Y0 := ((Z'.nm.alloc (.cells #[.bool s, .slice A n c] 32)).alloc (.cells #[.bool t, .slice B m d] 32)).alloc (.cells #[.bool false, .slice none 0 0] 32)
  have PA := ((Bz.new w s A n c).alloc (.cells #[.bool t, .slice B m d] 32)).alloc (.cells #[.bool false, .slice none 0 0] 32)
  have PB := (Bz.new2 w (.cells #[.bool s, .slice A n c] 32) t B m d).alloc (.cells #[.bool false, .slice none 0 0] 32)
  have PR := Bz.new3 w (.cells #[.bool s, .slice A n c] 32) (.cells #[.bool t, .slice B m d] 32) false none 0 0
  have BB := bl_trans (bl_trans (bl_alloc w (.cells #[.bool s, .slice A n c] 32)) (bl_alloc _ (.cells #[.bool t, .slice B m d] 32))) (bl_alloc _ (.cells #[.bool false, .slice none 0 0] 32))
  clear Z Z'
  have HD := Lib.hid (show zv false (za.natAbs / ub.natAbs) = dq za ub by
    have h1 := FD.same za.natAbs ub.natAbs false hy
    rw [show zv false za.natAbs = za by rw [zv_false]; omega, show zv false ub.natAbs = ub by rw [zv_false]; omega] at h1
    exact h1.dq (by omega))
  have HZ := Lib.hid hz
  have HU := Lib.hid hu
  have HY := Lib.hid hy
  clear hz hu hy
  go_enter Try.func38, Try.ntmps38
  go_wp2_with fail
  refine (divRN X0 Y0 (by omega) (by omega) HY.out).mono ?_
  rintro e w1 ⟨Q, nq, cq, R, nr, cr, rfl, TQ, TR, hb1⟩
  replace XA := XA.below hb1
  replace YB := YB.below hb1
  replace PA := PA.below hb1
  replace PB := PB.below hb1
  replace PR := PR.below hb1
  replace BB := bl_trans BB hb1
  have NQ := TQ.nm
  have hlr := TR.len
  have hlr2 := TR.le
  clear hb1 TQ TR X0 Y0 hlr
  go_wp2_with fail
  refine wp_region_list (Ext := (BelX (w1).heap.size)) (Rel := (BelU (w1).heap.size)) [fun v _ w => IsM w v (za) 24, fun v _ w => IsT w v (za) 24, fun v _ _ => v = .bool false, fun v _ w => IsM w v (ub) 24, fun v _ w => IsT w v (ub) 24, fun v _ _ => v = .bool false, fun v _ _ => v = .bool false, fun v _ _ => v = .slice Q nq cq, fun v _ w => IsZ (w1).heap.size w v (zv false (za.natAbs / ub.natAbs)) 24, fun v _ w => IsP (w1).heap.size v w, fun _ u w => HasZ (w1).heap.size u w (zv false (za.natAbs / ub.natAbs)) 24] (n := 11) (by kernel_rfl) rfl (by kernel_rfl) (by kernel_rfl) (by kernel_rfl) (by kernel_rfl) (by kernel_rfl) (rx_refl _) (rxu_trans _) ⟨xM, ⟨xT, ⟨sC, ⟨xM, ⟨xT, ⟨sC, ⟨sC, ⟨sC, ⟨xZ, ⟨xP, ⟨xHZ, trivial⟩⟩⟩⟩⟩⟩⟩⟩⟩⟩⟩ ?_ ?_
  · refine ⟨⟨⟨⟨⟨⟨⟨⟨⟨⟨⟨trivial, ?_⟩, ?_⟩, ?_⟩, ?_⟩, ?_⟩, ?_⟩, ?_⟩, ?_⟩, ?_⟩, ?_⟩, ?_⟩
    · refine rs_plain rfl rfl fun a wr S => ?_
      have X := undrewX S.ext
      exact wp_load (ev_of ((S.old 2 (by kernel_rfl)).trans rfl)) (PA.below X) (done (by kernel_rfl) (rxu_refl _) (XA.below X))
    · refine rs_plain rfl rfl fun a wr S => ?_
      have X := undrewX S.ext
      obtain ⟨v0, e0, h0⟩ := S.got 0 (by kernel_rfl)
      exact st_call cf_ref02_Made (args1 (ev_of (e0 22 (by kernel_rfl)))) (by kernel_rfl) (rxu _) (cRefMade h0 (by omega)) (fun _ _ _ h => h)
    · refine rs_plain rfl rfl fun a wr S => ?_
      have X := undrewX S.ext
      obtain ⟨v1, e1, h1⟩ := S.got 1 (by kernel_rfl)
      obtain ⟨bb, AA, nn, cc, hvv, TT, hbb⟩ := (show IsT wr _ (za) 24 from h1)
      exact wp_fld0 ((ev_of (e1 23 (by kernel_rfl))).trans hvv) (done (by kernel_rfl) (rxu_refl _) (congrArg Value.bool (hbb.trans (decide_eq_false (by have := HZ.out; omega)))))
    · refine rs_plain rfl rfl fun a wr S => ?_
      have X := undrewX S.ext
      exact wp_load (ev_of ((S.old 3 (by kernel_rfl)).trans rfl)) (PB.below X) (done (by kernel_rfl) (rxu_refl _) (YB.below X))
    · refine rs_plain rfl rfl fun a wr S => ?_
      have X := undrewX S.ext
      obtain ⟨v3, e3, h3⟩ := S.got 3 (by kernel_rfl)
      exact st_call cf_ref02_Made (args1 (ev_of (e3 25 (by kernel_rfl)))) (by kernel_rfl) (rxu _) (cRefMade h3 (by omega)) (fun _ _ _ h => h)
    · refine rs_plain rfl rfl fun a wr S => ?_
      have X := undrewX S.ext
      obtain ⟨v4, e4, h4⟩ := S.got 4 (by kernel_rfl)
      obtain ⟨bb, AA, nn, cc, hvv, TT, hbb⟩ := (show IsT wr _ (ub) 24 from h4)
      exact wp_fld0 ((ev_of (e4 26 (by kernel_rfl))).trans hvv) (done (by kernel_rfl) (rxu_refl _) (congrArg Value.bool (hbb.trans (decide_eq_false (by have := HU.out; omega)))))
    · refine rs_plain rfl rfl fun a wr S => ?_
      have X := undrewX S.ext
      obtain ⟨v2, e2, h2⟩ := S.got 2 (by kernel_rfl)
      obtain ⟨v5, e5, h5⟩ := S.got 5 (by kernel_rfl)
      exact wp_neB ((ev_of (e2 24 (by kernel_rfl))).trans h2) ((ev_of (e5 27 (by kernel_rfl))).trans h5) (done (by kernel_rfl) (rxu_refl _) (congrArg Value.bool (by decide)))
    · refine rs_plain rfl rfl fun a wr S => ?_
      have X := undrewX S.ext
      exact wp_mv (ev_of ((S.old 6 (by kernel_rfl)).trans rfl)) (done (by kernel_rfl) (rxu_refl _) rfl)
    · refine rs_plain rfl rfl fun a wr S => ?_
      have X := undrewX S.ext
      obtain ⟨v6, e6, h6⟩ := S.got 6 (by kernel_rfl)
      obtain ⟨v7, e7, h7⟩ := S.got 7 (by kernel_rfl)
      exact st_call cf_ref02_Of (args2 ((ev_of (e6 28 (by kernel_rfl))).trans h6) ((ev_of (e7 29 (by kernel_rfl))).trans h7)) (by kernel_rfl) (rxu _) (cRefOfZ false (NQ.below X) (by omega) X.size) (fun _ _ _ h => h)
    · refine rs_plain rfl rfl fun a wr S => ?_
      have X := undrewX S.ext
      refine st_alloc X.size (fun _ _ _ h => h) fun j vj u hj hs => ?_
      have hj' : j ∈ [9] := alloc_cases (by kernel_rfl) j hj
      simp only [List.mem_cons, List.not_mem_nil, or_false] at hj'
      subst hj'; exact hs
    · refine rs_plain rfl rfl fun a wr S => ?_
      have X := undrewX S.ext
      obtain ⟨v9, e9, h9⟩ := S.got 9 (by kernel_rfl)
      obtain ⟨v8, e8, h8⟩ := S.got 8 (by kernel_rfl)
      exact st_storeZ (by kernel_rfl) (by kernel_rfl) (ev_of (e9 9 (by kernel_rfl))) h9 (ev_of (e8 30 (by kernel_rfl))) h8 (fun _ _ _ h => h)
  · intro fr w2 hR hv
    replace hR := undrewX hR
    have f2 : fr 2 = .bool false := (hvc (hv 2 (by omega))).elim fun _ h => h
    have f5 : fr 5 = .bool false := (hvc (hv 5 (by omega))).elim fun _ h => h
    have f6 : fr 6 = .bool false := (hvc (hv 6 (by omega))).elim fun _ h => h
    have f7 : fr 7 = .slice Q nq cq := (hvc (hv 7 (by omega))).elim fun _ h => h
    obtain ⟨go, bo, Ao, no, co, f9, hgo, Po, Zo⟩ := (show HasZ _ (fr 9) w2 (zv false (za.natAbs / ub.natAbs)) 24 from hvs (hv 10 (by omega)) (by kernel_rfl))
    simp only [putFn, Act.put, List.setIfInBounds_toArray, List.set_cons_zero, List.set_cons_succ, f2, f5, f6, f7, f9]
    have hlt1 := PA.lt
    have hlt2 := PB.lt
    have hlt3 := PR.lt
    replace XA := XA.below hR
    replace YB := YB.below hR
    replace PA := PA.below hR
    replace PB := PB.below hR
    replace PR := PR.below hR
    have hgo' : w1.heap.size ≤ go := hgo
    have hle1 := BB.size
    replace BB := bl_trans BB hR
    have q0 : IsT w2 (.agg #[.bool bo, .slice Ao no co]) (zv false (za.natAbs / ub.natAbs)) 24 := IsZ.t ⟨_, _, _, _, rfl, Zo⟩
    clear hR hv Zo NQ
    go_wp2_with fail
    refine wp_region_list (Ext := RB) (Rel := RBu) [fun v _ w => IsM w v (za) 24, fun v _ w => IsT w v (za) 24, fun v _ _ => v = .bool false, fun v _ w => IsM w v (ub) 24, fun v _ w => IsT w v (ub) 24, fun v _ _ => v = .bool false, fun v _ _ => v = .bool false, fun v _ _ => v = .bool false, fun v _ _ => v = undef, fun v _ _ => v = undef, fun v _ _ => v = undef, fun v _ _ => v = Value.bool false] (n := 12) (by kernel_rfl) rfl (by kernel_rfl) (by kernel_rfl) (by kernel_rfl) (by kernel_rfl) (by kernel_rfl) rb_refl rb_trans ⟨sM, ⟨sT, ⟨sC, ⟨sM, ⟨sT, ⟨sC, ⟨sC, ⟨sC, ⟨sC, ⟨sC, ⟨sC, ⟨sC, trivial⟩⟩⟩⟩⟩⟩⟩⟩⟩⟩⟩⟩ ?_ ?_
    · refine ⟨⟨⟨⟨⟨⟨⟨⟨⟨⟨⟨⟨trivial, ?_⟩, ?_⟩, ?_⟩, ?_⟩, ?_⟩, ?_⟩, ?_⟩, ?_⟩, ?_⟩, ?_⟩, ?_⟩, ?_⟩
      · refine rs_plain rfl rfl fun a wr S => ?_
        have X := undrew S.ext
        exact wp_load (ev_of ((S.old 2 (by kernel_rfl)).trans rfl)) (PA.below X) (done (by kernel_rfl) rbu_refl (XA.below X))
      · refine rs_plain rfl rfl fun a wr S => ?_
        have X := undrew S.ext
        obtain ⟨v0, e0, h0⟩ := S.got 0 (by kernel_rfl)
        exact st_call cf_ref02_Made (args1 (ev_of (e0 31 (by kernel_rfl)))) (by kernel_rfl) rb (cRefMade h0 (by omega)) (fun _ _ _ h => h)
      · refine rs_plain rfl rfl fun a wr S => ?_
        have X := undrew S.ext
        obtain ⟨v1, e1, h1⟩ := S.got 1 (by kernel_rfl)
        obtain ⟨bb, AA, nn, cc, hvv, TT, hbb⟩ := (show IsT wr _ (za) 24 from h1)
        exact wp_fld0 ((ev_of (e1 32 (by kernel_rfl))).trans hvv) (done (by kernel_rfl) rbu_refl (congrArg Value.bool (hbb.trans (decide_eq_false (by have := HZ.out; omega)))))
      · refine rs_plain rfl rfl fun a wr S => ?_
        have X := undrew S.ext
        exact wp_load (ev_of ((S.old 3 (by kernel_rfl)).trans rfl)) (PB.below X) (done (by kernel_rfl) rbu_refl (YB.below X))
      · refine rs_plain rfl rfl fun a wr S => ?_
        have X := undrew S.ext
        obtain ⟨v3, e3, h3⟩ := S.got 3 (by kernel_rfl)
        exact st_call cf_ref02_Made (args1 (ev_of (e3 34 (by kernel_rfl)))) (by kernel_rfl) rb (cRefMade h3 (by omega)) (fun _ _ _ h => h)
      · refine rs_plain rfl rfl fun a wr S => ?_
        have X := undrew S.ext
        obtain ⟨v4, e4, h4⟩ := S.got 4 (by kernel_rfl)
        obtain ⟨bb, AA, nn, cc, hvv, TT, hbb⟩ := (show IsT wr _ (ub) 24 from h4)
        exact wp_fld0 ((ev_of (e4 35 (by kernel_rfl))).trans hvv) (done (by kernel_rfl) rbu_refl (congrArg Value.bool (hbb.trans (decide_eq_false (by have := HU.out; omega)))))
      · refine rs_plain rfl rfl fun a wr S => ?_
        have X := undrew S.ext
        obtain ⟨v2, e2, h2⟩ := S.got 2 (by kernel_rfl)
        obtain ⟨v5, e5, h5⟩ := S.got 5 (by kernel_rfl)
        exact wp_neB ((ev_of (e2 33 (by kernel_rfl))).trans h2) ((ev_of (e5 36 (by kernel_rfl))).trans h5) (done (by kernel_rfl) rbu_refl (congrArg Value.bool (by decide)))
      · refine rs_plain rfl rfl fun a wr S => ?_
        have X := undrew S.ext
        obtain ⟨v6, e6, h6⟩ := S.got 6 (by kernel_rfl)
        exact wp_mv ((ev_of (e6 37 (by kernel_rfl))).trans h6) (done (by kernel_rfl) rbu_refl rfl)
      · exact rs_no rfl rfl (by kernel_rfl) (by kernel_rfl : _ = some 38) (fun _ _ _ h => h) (by kernel_rfl) rbu_refl (fun _ _ => rfl)
      · exact rs_no rfl rfl (by kernel_rfl) (by kernel_rfl : _ = some 38) (fun _ _ _ h => h) (by kernel_rfl) rbu_refl (fun _ _ => rfl)
      · exact rs_no rfl rfl (by kernel_rfl) (by kernel_rfl : _ = some 38) (fun _ _ _ h => h) (by kernel_rfl) rbu_refl (fun _ _ => rfl)
      · refine rs_plain rfl rfl fun a wr S => ?_
        have X := undrew S.ext
        obtain ⟨v7, e7, h7⟩ := S.got 7 (by kernel_rfl)
        exact wp_pickF ((ev_of (e7 38 (by kernel_rfl))).trans h7) rfl (done (by kernel_rfl) rbu_refl rfl)
    · intro fs w4 hR hv
      replace hR := undrew hR
      have f2 : fs 2 = .bool false := (hvc (hv 2 (by omega))).elim fun _ h => h
      have f5 : fs 5 = .bool false := (hvc (hv 5 (by omega))).elim fun _ h => h
      have f6 : fs 6 = .bool false := (hvc (hv 6 (by omega))).elim fun _ h => h
      have f7 : fs 7 = .bool false := (hvc (hv 7 (by omega))).elim fun _ h => h
      have f8 : fs 8 = undef := (hvc (hv 8 (by omega))).elim fun _ h => h
      have f9 : fs 9 = undef := (hvc (hv 9 (by omega))).elim fun _ h => h
      have f10 : fs 10 = undef := (hvc (hv 10 (by omega))).elim fun _ h => h
      have f11 : fs 11 = Value.bool false := (hvc (hv 11 (by omega))).elim fun _ h => h
      simp only [putFn, Act.put, List.setIfInBounds_toArray, List.set_cons_zero, List.set_cons_succ, f2, f5, f6, f7, f8, f9, f10, f11]
      replace PA := PA.below hR
      replace PB := PB.below hR
      replace PR := PR.below hR
      replace Po := Po.below hR
      replace q0 := q0.below hR
      replace BB := bl_trans BB hR
      clear hR hv
      have o0 := Po.c0
      have o1 := Po.c1
      have r0 := PR.c0
      have r1 := PR.c1
      have f0 := PR.f 0
      have f1 := PR.f 1
      clear PA PB XA YB
      go_wp2_with fail
      have q1 : IsT w4 (.agg #[.bool bo, .slice Ao no co]) (dq za ub) 25 := by rw [← HD.out]; exact q0.mono (by omega)
      exact bodyPost_ret (v := .tuple #[.agg #[.bool bo, .slice Ao no co], .int .i64 0]) (by simp [results, Try.results38, go_sem, *]) rfl (IsTE.fin q1 PR BB (by omega))

theorem cRefDiv_nn (h : IsM w v za 24) (g : IsM w v' ub 24) (hz : za < 0) (hu : ub < 0) : Calls Try.prog 38 #[v, v'] w (Ans w fun w' v => IsTE w' v (dq za ub) 25 0) := by
  have hy : ub.natAbs ≠ 0 := by omega
  obtain ⟨s, A, n, c, rfl, Z⟩ := h
  obtain ⟨t, B, m, d, rfl, Z'⟩ := g
  have XA : IsM (((w.alloc (.cells #[.bool s, .slice A n c] 32)).alloc (.cells #[.bool t, .slice B m d] 32)).alloc (.cells #[.bool false, .slice none 0 0] 32)) (.agg #[.bool s, .slice A n c]) za 24 := ⟨_, _, _, _, rfl, ((Z.alloc _).alloc _).alloc _⟩
  have YB : IsM (((w.alloc (.cells #[.bool s, .slice A n c] 32)).alloc (.cells #[.bool t, .slice B m d] 32)).alloc (.cells #[.bool false, .slice none 0 0] 32)) (.agg #[.bool t, .slice B m d]) ub 24 := ⟨_, _, _, _, rfl, ((Z'.alloc _).alloc _).alloc _⟩
  have X0 := ((Z.nm.alloc (.cells #[.bool s, .slice A n c] 32)).alloc (.cells #[.bool t, .slice B m d] 32)).alloc (.cells #[.bool false, .slice none 0 0] 32)
  have Y0 := ((Z'.nm.alloc (.cells #[.bool s, .slice A n c] 32)).alloc (.cells #[.bool t, .slice B m d] 32)).alloc (.cells #[.bool false, .slice none 0 0] 32)
  have PA := ((Bz.new w s A n c).alloc (.cells #[.bool t, .slice B m d] 32)).alloc (.cells #[.bool false, .slice none 0 0] 32)
  have PB := (Bz.new2 w (.cells #[.bool s, .slice A n c] 32) t B m d).alloc (.cells #[.bool false, .slice none 0 0] 32)
  have PR := Bz.new3 w (.cells #[.bool s, .slice A n c] 32) (.cells #[.bool t, .slice B m d] 32) false none 0 0
  have BB := bl_trans (bl_trans (bl_alloc w (.cells #[.bool s, .slice A n c] 32)) (bl_alloc _ (.cells #[.bool t, .slice B m d] 32))) (bl_alloc _ (.cells #[.bool false, .slice none 0 0] 32))
  clear Z Z'
  have HD := Lib.hid (show zv false (za.natAbs / ub.natAbs) = dq za ub by
    have h1 := FD.same za.natAbs ub.natAbs true hy
    rw [show zv true za.natAbs = za by rw [zv_true]; omega, show zv true ub.natAbs = ub by rw [zv_true]; omega] at h1
    exact h1.dq (by omega))
  have HZ := Lib.hid hz
  have HU := Lib.hid hu
  have HY := Lib.hid hy
  clear hz hu hy
  go_enter Try.func38, Try.ntmps38
  go_wp2_with fail
  refine (divRN X0 Y0 (by omega) (by omega) HY.out).mono ?_
  rintro e w1 ⟨Q, nq, cq, R, nr, cr, rfl, TQ, TR, hb1⟩
  replace XA := XA.below hb1
  replace YB := YB.below hb1
  replace PA := PA.below hb1
  replace PB := PB.below hb1
  replace PR := PR.below hb1
  replace BB := bl_trans BB hb1
  have NQ := TQ.nm
  have hlr := TR.len
  have hlr2 := TR.le
  clear hb1 TQ TR X0 Y0 hlr
  go_wp2_with fail
  refine wp_region_list (Ext := (BelX (w1).heap.size)) (Rel := (BelU (w1).heap.size)) [fun v _ w => IsM w v (za) 24, fun v _ w => IsT w v (za) 24, fun v _ _ => v = .bool true, fun v _ w => IsM w v (ub) 24, fun v _ w => IsT w v (ub) 24, fun v _ _ => v = .bool true, fun v _ _ => v = .bool false, fun v _ _ => v = .slice Q nq cq, fun v _ w => IsZ (w1).heap.size w v (zv false (za.natAbs / ub.natAbs)) 24, fun v _ w => IsP (w1).heap.size v w, fun _ u w => HasZ (w1).heap.size u w (zv false (za.natAbs / ub.natAbs)) 24] (n := 11) (by kernel_rfl) rfl (by kernel_rfl) (by kernel_rfl) (by kernel_rfl) (by kernel_rfl) (by kernel_rfl) (rx_refl _) (rxu_trans _) ⟨xM, ⟨xT, ⟨sC, ⟨xM, ⟨xT, ⟨sC, ⟨sC, ⟨sC, ⟨xZ, ⟨xP, ⟨xHZ, trivial⟩⟩⟩⟩⟩⟩⟩⟩⟩⟩⟩ ?_ ?_
  · refine ⟨⟨⟨⟨⟨⟨⟨⟨⟨⟨⟨trivial, ?_⟩, ?_⟩, ?_⟩, ?_⟩, ?_⟩, ?_⟩, ?_⟩, ?_⟩, ?_⟩, ?_⟩, ?_⟩
    · refine rs_plain rfl rfl fun a wr S => ?_
      have X := undrewX S.ext
      exact wp_load (ev_of ((S.old 2 (by kernel_rfl)).trans rfl)) (PA.below X) (done (by kernel_rfl) (rxu_refl _) (XA.below X))
    · refine rs_plain rfl rfl fun a wr S => ?_
      have X := undrewX S.ext
      obtain ⟨v0, e0, h0⟩ := S.got 0 (by kernel_rfl)
      exact st_call cf_ref02_Made (args1 (ev_of (e0 22 (by kernel_rfl)))) (by kernel_rfl) (rxu _) (cRefMade h0 (by omega)) (fun _ _ _ h => h)
    · refine rs_plain rfl rfl fun a wr S => ?_
      have X := undrewX S.ext
      obtain ⟨v1, e1, h1⟩ := S.got 1 (by kernel_rfl)
      obtain ⟨bb, AA, nn, cc, hvv, TT, hbb⟩ := (show IsT wr _ (za) 24 from h1)
      exact wp_fld0 ((ev_of (e1 23 (by kernel_rfl))).trans hvv) (done (by kernel_rfl) (rxu_refl _) (congrArg Value.bool (hbb.trans (decide_eq_true HZ.out))))
    · refine rs_plain rfl rfl fun a wr S => ?_
      have X := undrewX S.ext
      exact wp_load (ev_of ((S.old 3 (by kernel_rfl)).trans rfl)) (PB.below X) (done (by kernel_rfl) (rxu_refl _) (YB.below X))
    · refine rs_plain rfl rfl fun a wr S => ?_
      have X := undrewX S.ext
      obtain ⟨v3, e3, h3⟩ := S.got 3 (by kernel_rfl)
      exact st_call cf_ref02_Made (args1 (ev_of (e3 25 (by kernel_rfl)))) (by kernel_rfl) (rxu _) (cRefMade h3 (by omega)) (fun _ _ _ h => h)
    · refine rs_plain rfl rfl fun a wr S => ?_
      have X := undrewX S.ext
      obtain ⟨v4, e4, h4⟩ := S.got 4 (by kernel_rfl)
      obtain ⟨bb, AA, nn, cc, hvv, TT, hbb⟩ := (show IsT wr _ (ub) 24 from h4)
      exact wp_fld0 ((ev_of (e4 26 (by kernel_rfl))).trans hvv) (done (by kernel_rfl) (rxu_refl _) (congrArg Value.bool (hbb.trans (decide_eq_true HU.out))))
    · refine rs_plain rfl rfl fun a wr S => ?_
      have X := undrewX S.ext
      obtain ⟨v2, e2, h2⟩ := S.got 2 (by kernel_rfl)
      obtain ⟨v5, e5, h5⟩ := S.got 5 (by kernel_rfl)
      exact wp_neB ((ev_of (e2 24 (by kernel_rfl))).trans h2) ((ev_of (e5 27 (by kernel_rfl))).trans h5) (done (by kernel_rfl) (rxu_refl _) (congrArg Value.bool (by decide)))
    · refine rs_plain rfl rfl fun a wr S => ?_
      have X := undrewX S.ext
      exact wp_mv (ev_of ((S.old 6 (by kernel_rfl)).trans rfl)) (done (by kernel_rfl) (rxu_refl _) rfl)
    · refine rs_plain rfl rfl fun a wr S => ?_
      have X := undrewX S.ext
      obtain ⟨v6, e6, h6⟩ := S.got 6 (by kernel_rfl)
      obtain ⟨v7, e7, h7⟩ := S.got 7 (by kernel_rfl)
      exact st_call cf_ref02_Of (args2 ((ev_of (e6 28 (by kernel_rfl))).trans h6) ((ev_of (e7 29 (by kernel_rfl))).trans h7)) (by kernel_rfl) (rxu _) (cRefOfZ false (NQ.below X) (by omega) X.size) (fun _ _ _ h => h)
    · refine rs_plain rfl rfl fun a wr S => ?_
      have X := undrewX S.ext
      refine st_alloc X.size (fun _ _ _ h => h) fun j vj u hj hs => ?_
      have hj' : j ∈ [9] := alloc_cases (by kernel_rfl) j hj
      simp only [List.mem_cons, List.not_mem_nil, or_false] at hj'
      subst hj'; exact hs
    · refine rs_plain rfl rfl fun a wr S => ?_
      have X := undrewX S.ext
      obtain ⟨v9, e9, h9⟩ := S.got 9 (by kernel_rfl)
      obtain ⟨v8, e8, h8⟩ := S.got 8 (by kernel_rfl)
      exact st_storeZ (by kernel_rfl) (by kernel_rfl) (ev_of (e9 9 (by kernel_rfl))) h9 (ev_of (e8 30 (by kernel_rfl))) h8 (fun _ _ _ h => h)
  · intro fr w2 hR hv
    replace hR := undrewX hR
    have f2 : fr 2 = .bool true := (hvc (hv 2 (by omega))).elim fun _ h => h
    have f5 : fr 5 = .bool true := (hvc (hv 5 (by omega))).elim fun _ h => h
    have f6 : fr 6 = .bool false := (hvc (hv 6 (by omega))).elim fun _ h => h
    have f7 : fr 7 = .slice Q nq cq := (hvc (hv 7 (by omega))).elim fun _ h => h
    obtain ⟨go, bo, Ao, no, co, f9, hgo, Po, Zo⟩ := (show HasZ _ (fr 9) w2 (zv false (za.natAbs / ub.natAbs)) 24 from hvs (hv 10 (by omega)) (by kernel_rfl))
    simp only [putFn, Act.put, List.setIfInBounds_toArray, List.set_cons_zero, List.set_cons_succ, f2, f5, f6, f7, f9]
    have hlt1 := PA.lt
    have hlt2 := PB.lt
    have hlt3 := PR.lt
    replace XA := XA.below hR
    replace YB := YB.below hR
    replace PA := PA.below hR
    replace PB := PB.below hR
    replace PR := PR.below hR
    have hgo' : w1.heap.size ≤ go := hgo
    have hle1 := BB.size
    replace BB := bl_trans BB hR
    have q0 : IsT w2 (.agg #[.bool bo, .slice Ao no co]) (zv false (za.natAbs / ub.natAbs)) 24 := IsZ.t ⟨_, _, _, _, rfl, Zo⟩
    clear hR hv Zo NQ
    go_wp2_with fail
    refine wp_region_list (Ext := RB) (Rel := RBu) [fun v _ w => IsM w v (za) 24, fun v _ w => IsT w v (za) 24, fun v _ _ => v = .bool true, fun v _ w => IsM w v (ub) 24, fun v _ w => IsT w v (ub) 24, fun v _ _ => v = .bool true, fun v _ _ => v = .bool false, fun v _ _ => v = .bool false, fun v _ _ => v = undef, fun v _ _ => v = undef, fun v _ _ => v = undef, fun v _ _ => v = Value.bool false] (n := 12) (by kernel_rfl) rfl (by kernel_rfl) (by kernel_rfl) (by kernel_rfl) (by kernel_rfl) (by kernel_rfl) rb_refl rb_trans ⟨sM, ⟨sT, ⟨sC, ⟨sM, ⟨sT, ⟨sC, ⟨sC, ⟨sC, ⟨sC, ⟨sC, ⟨sC, ⟨sC, trivial⟩⟩⟩⟩⟩⟩⟩⟩⟩⟩⟩⟩ ?_ ?_
    · refine ⟨⟨⟨⟨⟨⟨⟨⟨⟨⟨⟨⟨trivial, ?_⟩, ?_⟩, ?_⟩, ?_⟩, ?_⟩, ?_⟩, ?_⟩, ?_⟩, ?_⟩, ?_⟩, ?_⟩, ?_⟩
      · refine rs_plain rfl rfl fun a wr S => ?_
        have X := undrew S.ext
        exact wp_load (ev_of ((S.old 2 (by kernel_rfl)).trans rfl)) (PA.below X) (done (by kernel_rfl) rbu_refl (XA.below X))
      · refine rs_plain rfl rfl fun a wr S => ?_
        have X := undrew S.ext
        obtain ⟨v0, e0, h0⟩ := S.got 0 (by kernel_rfl)
        exact st_call cf_ref02_Made (args1 (ev_of (e0 31 (by kernel_rfl)))) (by kernel_rfl) rb (cRefMade h0 (by omega)) (fun _ _ _ h => h)
      · refine rs_plain rfl rfl fun a wr S => ?_
        have X := undrew S.ext
        obtain ⟨v1, e1, h1⟩ := S.got 1 (by kernel_rfl)
        obtain ⟨bb, AA, nn, cc, hvv, TT, hbb⟩ := (show IsT wr _ (za) 24 from h1)
        exact wp_fld0 ((ev_of (e1 32 (by kernel_rfl))).trans hvv) (done (by kernel_rfl) rbu_refl (congrArg Value.bool (hbb.trans (decide_eq_true HZ.out))))
      · refine rs_plain rfl rfl fun a wr S => ?_
        have X := undrew S.ext
        exact wp_load (ev_of ((S.old 3 (by kernel_rfl)).trans rfl)) (PB.below X) (done (by kernel_rfl) rbu_refl (YB.below X))
      · refine rs_plain rfl rfl fun a wr S => ?_
        have X := undrew S.ext
        obtain ⟨v3, e3, h3⟩ := S.got 3 (by kernel_rfl)
        exact st_call cf_ref02_Made (args1 (ev_of (e3 34 (by kernel_rfl)))) (by kernel_rfl) rb (cRefMade h3 (by omega)) (fun _ _ _ h => h)
      · refine rs_plain rfl rfl fun a wr S => ?_
        have X := undrew S.ext
        obtain ⟨v4, e4, h4⟩ := S.got 4 (by kernel_rfl)
        obtain ⟨bb, AA, nn, cc, hvv, TT, hbb⟩ := (show IsT wr _ (ub) 24 from h4)
        exact wp_fld0 ((ev_of (e4 35 (by kernel_rfl))).trans hvv) (done (by kernel_rfl) rbu_refl (congrArg Value.bool (hbb.trans (decide_eq_true HU.out))))
      · refine rs_plain rfl rfl fun a wr S => ?_
        have X := undrew S.ext
        obtain ⟨v2, e2, h2⟩ := S.got 2 (by kernel_rfl)
        obtain ⟨v5, e5, h5⟩ := S.got 5 (by kernel_rfl)
        exact wp_neB ((ev_of (e2 33 (by kernel_rfl))).trans h2) ((ev_of (e5 36 (by kernel_rfl))).trans h5) (done (by kernel_rfl) rbu_refl (congrArg Value.bool (by decide)))
      · refine rs_plain rfl rfl fun a wr S => ?_
        have X := undrew S.ext
        obtain ⟨v6, e6, h6⟩ := S.got 6 (by kernel_rfl)
        exact wp_mv ((ev_of (e6 37 (by kernel_rfl))).trans h6) (done (by kernel_rfl) rbu_refl rfl)
      · exact rs_no rfl rfl (by kernel_rfl) (by kernel_rfl : _ = some 38) (fun _ _ _ h => h) (by kernel_rfl) rbu_refl (fun _ _ => rfl)
      · exact rs_no rfl rfl (by kernel_rfl) (by kernel_rfl : _ = some 38) (fun _ _ _ h => h) (by kernel_rfl) rbu_refl (fun _ _ => rfl)
      · exact rs_no rfl rfl (by kernel_rfl) (by kernel_rfl : _ = some 38) (fun _ _ _ h => h) (by kernel_rfl) rbu_refl (fun _ _ => rfl)
      · refine rs_plain rfl rfl fun a wr S => ?_
        have X := undrew S.ext
        obtain ⟨v7, e7, h7⟩ := S.got 7 (by kernel_rfl)
        exact wp_pickF ((ev_of (e7 38 (by kernel_rfl))).trans h7) rfl (done (by kernel_rfl) rbu_refl rfl)
    · intro fs w4 hR hv
      replace hR := undrew hR
      have f2 : fs 2 = .bool true := (hvc (hv 2 (by omega))).elim fun _ h => h
      have f5 : fs 5 = .bool true := (hvc (hv 5 (by omega))).elim fun _ h => h
      have f6 : fs 6 = .bool false := (hvc (hv 6 (by omega))).elim fun _ h => h
      have f7 : fs 7 = .bool false := (hvc (hv 7 (by omega))).elim fun _ h => h
      have f8 : fs 8 = undef := (hvc (hv 8 (by omega))).elim fun _ h => h
      have f9 : fs 9 = undef := (hvc (hv 9 (by omega))).elim fun _ h => h
      have f10 : fs 10 = undef := (hvc (hv 10 (by omega))).elim fun _ h => h
      have f11 : fs 11 = Value.bool false := (hvc (hv 11 (by omega))).elim fun _ h => h
      simp only [putFn, Act.put, List.setIfInBounds_toArray, List.set_cons_zero, List.set_cons_succ, f2, f5, f6, f7, f8, f9, f10, f11]
      replace PA := PA.below hR
      replace PB := PB.below hR
      replace PR := PR.below hR
      replace Po := Po.below hR
      replace q0 := q0.below hR
      replace BB := bl_trans BB hR
      clear hR hv
      have o0 := Po.c0
      have o1 := Po.c1
      have r0 := PR.c0
      have r1 := PR.c1
      have f0 := PR.f 0
      have f1 := PR.f 1
      clear PA PB XA YB
      go_wp2_with fail
      have q1 : IsT w4 (.agg #[.bool bo, .slice Ao no co]) (dq za ub) 25 := by rw [← HD.out]; exact q0.mono (by omega)
      exact bodyPost_ret (v := .tuple #[.agg #[.bool bo, .slice Ao no co], .int .i64 0]) (by simp [results, Try.results38, go_sem, *]) rfl (IsTE.fin q1 PR BB (by omega))

theorem cRefDiv_pn0 (h : IsM w v za 24) (g : IsM w v' ub 24) (hz : 0 ≤ za) (hu : ub < 0) (hr : za.natAbs % ub.natAbs = 0) : Calls Try.prog 38 #[v, v'] w (Ans w fun w' v => IsTE w' v (dq za ub) 25 0) := by
  have hy : ub.natAbs ≠ 0 := by omega
  obtain ⟨s, A, n, c, rfl, Z⟩ := h
  obtain ⟨t, B, m, d, rfl, Z'⟩ := g
  have XA : IsM (((w.alloc (.cells #[.bool s, .slice A n c] 32)).alloc (.cells #[.bool t, .slice B m d] 32)).alloc (.cells #[.bool false, .slice none 0 0] 32)) (.agg #[.bool s, .slice A n c]) za 24 := ⟨_, _, _, _, rfl, ((Z.alloc _).alloc _).alloc _⟩
  have YB : IsM (((w.alloc (.cells #[.bool s, .slice A n c] 32)).alloc (.cells #[.bool t, .slice B m d] 32)).alloc (.cells #[.bool false, .slice none 0 0] 32)) (.agg #[.bool t, .slice B m d]) ub 24 := ⟨_, _, _, _, rfl, ((Z'.alloc _).alloc _).alloc _⟩
  have X0 := ((Z.nm.alloc (.cells #[.bool s, .slice A n c] 32)).alloc (.cells #[.bool t, .slice B m d] 32)).alloc (.cells #[.bool false, .slice none 0 0] 32)
  have Y0 := ((Z'.nm.alloc (.cells #[.bool s, .slice A n c] 32)).alloc (.cells #[.bool t, .slice B m d] 32)).alloc (.cells #[.bool false, .slice none 0 0] 32)
  have PA := ((Bz.new w s A n c).alloc (.cells #[.bool t, .slice B m d] 32)).alloc (.cells #[.bool false, .slice none 0 0] 32)
  have PB := (Bz.new2 w (.cells #[.bool s, .slice A n c] 32) t B m d).alloc (.cells #[.bool false, .slice none 0 0] 32)
  have PR := Bz.new3 w (.cells #[.bool s, .slice A n c] 32) (.cells #[.bool t, .slice B m d] 32) false none 0 0
  have BB := bl_trans (bl_trans (bl_alloc w (.cells #[.bool s, .slice A n c] 32)) (bl_alloc _ (.cells #[.bool t, .slice B m d] 32))) (bl_alloc _ (.cells #[.bool false, .slice none 0 0] 32))
  clear Z Z'
  have HD := Lib.hid (show zv true (za.natAbs / ub.natAbs) = dq za ub by
    have h1 := FD.even za.natAbs ub.natAbs false hy hr
    rw [show zv false za.natAbs = za by rw [zv_false]; omega, show zv (!false) ub.natAbs = ub by rw [Bool.not_false, zv_true]; omega] at h1
    exact h1.dq (by omega))
  have HZ := Lib.hid hz
  have HU := Lib.hid hu
  have HY := Lib.hid hy
  have HR := Lib.hid hr
  clear hz hu hy hr
  go_enter Try.func38, Try.ntmps38
  go_wp2_with fail
  refine (divRN X0 Y0 (by omega) (by omega) HY.out).mono ?_
  rintro e w1 ⟨Q, nq, cq, R, nr, cr, rfl, TQ, TR, hb1⟩
  replace XA := XA.below hb1
  replace YB := YB.below hb1
  replace PA := PA.below hb1
  replace PB := PB.below hb1
  replace PR := PR.below hb1
  replace BB := bl_trans BB hb1
  have NQ := TQ.nm
  have hlr := TR.len
  have hlr2 := TR.le
  obtain rfl : nr = 0 := by rw [← hlr, HR.out, M.lims_zero]; rfl
  clear hb1 TQ TR X0 Y0 hlr
  go_wp2_with fail
  refine wp_region_list (Ext := (BelX (w1).heap.size)) (Rel := (BelU (w1).heap.size)) [fun v _ w => IsM w v (za) 24, fun v _ w => IsT w v (za) 24, fun v _ _ => v = .bool false, fun v _ w => IsM w v (ub) 24, fun v _ w => IsT w v (ub) 24, fun v _ _ => v = .bool true, fun v _ _ => v = .bool true, fun v _ _ => v = .slice Q nq cq, fun v _ w => IsZ (w1).heap.size w v (zv true (za.natAbs / ub.natAbs)) 24, fun v _ w => IsP (w1).heap.size v w, fun _ u w => HasZ (w1).heap.size u w (zv true (za.natAbs / ub.natAbs)) 24] (n := 11) (by kernel_rfl) rfl (by kernel_rfl) (by kernel_rfl) (by kernel_rfl) (by kernel_rfl) (by kernel_rfl) (rx_refl _) (rxu_trans _) ⟨xM, ⟨xT, ⟨sC, ⟨xM, ⟨xT, ⟨sC, ⟨sC, ⟨sC, ⟨xZ, ⟨xP, ⟨xHZ, trivial⟩⟩⟩⟩⟩⟩⟩⟩⟩⟩⟩ ?_ ?_
  · refine ⟨⟨⟨⟨⟨⟨⟨⟨⟨⟨⟨trivial, ?_⟩, ?_⟩, ?_⟩, ?_⟩, ?_⟩, ?_⟩, ?_⟩, ?_⟩, ?_⟩, ?_⟩, ?_⟩
    · refine rs_plain rfl rfl fun a wr S => ?_
      have X := undrewX S.ext
      exact wp_load (ev_of ((S.old 2 (by kernel_rfl)).trans rfl)) (PA.below X) (done (by kernel_rfl) (rxu_refl _) (XA.below X))
    · refine rs_plain rfl rfl fun a wr S => ?_
      have X := undrewX S.ext
      obtain ⟨v0, e0, h0⟩ := S.got 0 (by kernel_rfl)
      exact st_call cf_ref02_Made (args1 (ev_of (e0 22 (by kernel_rfl)))) (by kernel_rfl) (rxu _) (cRefMade h0 (by omega)) (fun _ _ _ h => h)
    · refine rs_plain rfl rfl fun a wr S => ?_
      have X := undrewX S.ext
      obtain ⟨v1, e1, h1⟩ := S.got 1 (by kernel_rfl)
      obtain ⟨bb, AA, nn, cc, hvv, TT, hbb⟩ := (show IsT wr _ (za) 24 from h1)
      exact wp_fld0 ((ev_of (e1 23 (by kernel_rfl))).trans hvv) (done (by kernel_rfl) (rxu_refl _) (congrArg Value.bool (hbb.trans (decide_eq_false (by have := HZ.out; omega)))))
    · refine rs_plain rfl rfl fun a wr S => ?_
      have X := undrewX S.ext
      exact wp_load (ev_of ((S.old 3 (by kernel_rfl)).trans rfl)) (PB.below X) (done (by kernel_rfl) (rxu_refl _) (YB.below X))
    · refine rs_plain rfl rfl fun a wr S => ?_
      have X := undrewX S.ext
      obtain ⟨v3, e3, h3⟩ := S.got 3 (by kernel_rfl)
      exact st_call cf_ref02_Made (args1 (ev_of (e3 25 (by kernel_rfl)))) (by kernel_rfl) (rxu _) (cRefMade h3 (by omega)) (fun _ _ _ h => h)
    · refine rs_plain rfl rfl fun a wr S => ?_
      have X := undrewX S.ext
      obtain ⟨v4, e4, h4⟩ := S.got 4 (by kernel_rfl)
      obtain ⟨bb, AA, nn, cc, hvv, TT, hbb⟩ := (show IsT wr _ (ub) 24 from h4)
      exact wp_fld0 ((ev_of (e4 26 (by kernel_rfl))).trans hvv) (done (by kernel_rfl) (rxu_refl _) (congrArg Value.bool (hbb.trans (decide_eq_true HU.out))))
    · refine rs_plain rfl rfl fun a wr S => ?_
      have X := undrewX S.ext
      obtain ⟨v2, e2, h2⟩ := S.got 2 (by kernel_rfl)
      obtain ⟨v5, e5, h5⟩ := S.got 5 (by kernel_rfl)
      exact wp_neB ((ev_of (e2 24 (by kernel_rfl))).trans h2) ((ev_of (e5 27 (by kernel_rfl))).trans h5) (done (by kernel_rfl) (rxu_refl _) (congrArg Value.bool (by decide)))
    · refine rs_plain rfl rfl fun a wr S => ?_
      have X := undrewX S.ext
      exact wp_mv (ev_of ((S.old 6 (by kernel_rfl)).trans rfl)) (done (by kernel_rfl) (rxu_refl _) rfl)
    · refine rs_plain rfl rfl fun a wr S => ?_
      have X := undrewX S.ext
      obtain ⟨v6, e6, h6⟩ := S.got 6 (by kernel_rfl)
      obtain ⟨v7, e7, h7⟩ := S.got 7 (by kernel_rfl)
      exact st_call cf_ref02_Of (args2 ((ev_of (e6 28 (by kernel_rfl))).trans h6) ((ev_of (e7 29 (by kernel_rfl))).trans h7)) (by kernel_rfl) (rxu _) (cRefOfZ true (NQ.below X) (by omega) X.size) (fun _ _ _ h => h)
    · refine rs_plain rfl rfl fun a wr S => ?_
      have X := undrewX S.ext
      refine st_alloc X.size (fun _ _ _ h => h) fun j vj u hj hs => ?_
      have hj' : j ∈ [9] := alloc_cases (by kernel_rfl) j hj
      simp only [List.mem_cons, List.not_mem_nil, or_false] at hj'
      subst hj'; exact hs
    · refine rs_plain rfl rfl fun a wr S => ?_
      have X := undrewX S.ext
      obtain ⟨v9, e9, h9⟩ := S.got 9 (by kernel_rfl)
      obtain ⟨v8, e8, h8⟩ := S.got 8 (by kernel_rfl)
      exact st_storeZ (by kernel_rfl) (by kernel_rfl) (ev_of (e9 9 (by kernel_rfl))) h9 (ev_of (e8 30 (by kernel_rfl))) h8 (fun _ _ _ h => h)
  · intro fr w2 hR hv
    replace hR := undrewX hR
    have f2 : fr 2 = .bool false := (hvc (hv 2 (by omega))).elim fun _ h => h
    have f5 : fr 5 = .bool true := (hvc (hv 5 (by omega))).elim fun _ h => h
    have f6 : fr 6 = .bool true := (hvc (hv 6 (by omega))).elim fun _ h => h
    have f7 : fr 7 = .slice Q nq cq := (hvc (hv 7 (by omega))).elim fun _ h => h
    obtain ⟨go, bo, Ao, no, co, f9, hgo, Po, Zo⟩ := (show HasZ _ (fr 9) w2 (zv true (za.natAbs / ub.natAbs)) 24 from hvs (hv 10 (by omega)) (by kernel_rfl))
    simp only [putFn, Act.put, List.setIfInBounds_toArray, List.set_cons_zero, List.set_cons_succ, f2, f5, f6, f7, f9]
    have hlt1 := PA.lt
    have hlt2 := PB.lt
    have hlt3 := PR.lt
    replace XA := XA.below hR
    replace YB := YB.below hR
    replace PA := PA.below hR
    replace PB := PB.below hR
    replace PR := PR.below hR
    have hgo' : w1.heap.size ≤ go := hgo
    have hle1 := BB.size
    replace BB := bl_trans BB hR
    have q0 : IsT w2 (.agg #[.bool bo, .slice Ao no co]) (zv true (za.natAbs / ub.natAbs)) 24 := IsZ.t ⟨_, _, _, _, rfl, Zo⟩
    clear hR hv Zo NQ
    go_wp2_with fail
    refine wp_region_list (Ext := RB) (Rel := RBu) [fun v _ w => IsM w v (za) 24, fun v _ w => IsT w v (za) 24, fun v _ _ => v = .bool false, fun v _ w => IsM w v (ub) 24, fun v _ w => IsT w v (ub) 24, fun v _ _ => v = .bool true, fun v _ _ => v = .bool true, fun v _ _ => v = .bool true, fun v _ _ => v = .slice R 0 cr, fun v _ _ => v = .int .i64 ((0 : Nat) : Int), fun v _ _ => v = .bool false, fun v _ _ => v = .bool false] (n := 12) (by kernel_rfl) rfl (by kernel_rfl) (by kernel_rfl) (by kernel_rfl) (by kernel_rfl) (by kernel_rfl) rb_refl rb_trans ⟨sM, ⟨sT, ⟨sC, ⟨sM, ⟨sT, ⟨sC, ⟨sC, ⟨sC, ⟨sC, ⟨sC, ⟨sC, ⟨sC, trivial⟩⟩⟩⟩⟩⟩⟩⟩⟩⟩⟩⟩ ?_ ?_
    · refine ⟨⟨⟨⟨⟨⟨⟨⟨⟨⟨⟨⟨trivial, ?_⟩, ?_⟩, ?_⟩, ?_⟩, ?_⟩, ?_⟩, ?_⟩, ?_⟩, ?_⟩, ?_⟩, ?_⟩, ?_⟩
      · refine rs_plain rfl rfl fun a wr S => ?_
        have X := undrew S.ext
        exact wp_load (ev_of ((S.old 2 (by kernel_rfl)).trans rfl)) (PA.below X) (done (by kernel_rfl) rbu_refl (XA.below X))
      · refine rs_plain rfl rfl fun a wr S => ?_
        have X := undrew S.ext
        obtain ⟨v0, e0, h0⟩ := S.got 0 (by kernel_rfl)
        exact st_call cf_ref02_Made (args1 (ev_of (e0 31 (by kernel_rfl)))) (by kernel_rfl) rb (cRefMade h0 (by omega)) (fun _ _ _ h => h)
      · refine rs_plain rfl rfl fun a wr S => ?_
        have X := undrew S.ext
        obtain ⟨v1, e1, h1⟩ := S.got 1 (by kernel_rfl)
        obtain ⟨bb, AA, nn, cc, hvv, TT, hbb⟩ := (show IsT wr _ (za) 24 from h1)
        exact wp_fld0 ((ev_of (e1 32 (by kernel_rfl))).trans hvv) (done (by kernel_rfl) rbu_refl (congrArg Value.bool (hbb.trans (decide_eq_false (by have := HZ.out; omega)))))
      · refine rs_plain rfl rfl fun a wr S => ?_
        have X := undrew S.ext
        exact wp_load (ev_of ((S.old 3 (by kernel_rfl)).trans rfl)) (PB.below X) (done (by kernel_rfl) rbu_refl (YB.below X))
      · refine rs_plain rfl rfl fun a wr S => ?_
        have X := undrew S.ext
        obtain ⟨v3, e3, h3⟩ := S.got 3 (by kernel_rfl)
        exact st_call cf_ref02_Made (args1 (ev_of (e3 34 (by kernel_rfl)))) (by kernel_rfl) rb (cRefMade h3 (by omega)) (fun _ _ _ h => h)
      · refine rs_plain rfl rfl fun a wr S => ?_
        have X := undrew S.ext
        obtain ⟨v4, e4, h4⟩ := S.got 4 (by kernel_rfl)
        obtain ⟨bb, AA, nn, cc, hvv, TT, hbb⟩ := (show IsT wr _ (ub) 24 from h4)
        exact wp_fld0 ((ev_of (e4 35 (by kernel_rfl))).trans hvv) (done (by kernel_rfl) rbu_refl (congrArg Value.bool (hbb.trans (decide_eq_true HU.out))))
      · refine rs_plain rfl rfl fun a wr S => ?_
        have X := undrew S.ext
        obtain ⟨v2, e2, h2⟩ := S.got 2 (by kernel_rfl)
        obtain ⟨v5, e5, h5⟩ := S.got 5 (by kernel_rfl)
        exact wp_neB ((ev_of (e2 33 (by kernel_rfl))).trans h2) ((ev_of (e5 36 (by kernel_rfl))).trans h5) (done (by kernel_rfl) rbu_refl (congrArg Value.bool (by decide)))
      · refine rs_plain rfl rfl fun a wr S => ?_
        have X := undrew S.ext
        obtain ⟨v6, e6, h6⟩ := S.got 6 (by kernel_rfl)
        exact wp_mv ((ev_of (e6 37 (by kernel_rfl))).trans h6) (done (by kernel_rfl) rbu_refl rfl)
      · refine rs_yes rfl rfl (by kernel_rfl) (by kernel_rfl : _ = some 38) (fun _ _ _ h => h) fun a wr S => ?_
        have X := undrew S.ext
        exact wp_mv (ev_of ((S.old 7 (by kernel_rfl)).trans rfl)) (done (by kernel_rfl) rbu_refl rfl)
      · refine rs_yes rfl rfl (by kernel_rfl) (by kernel_rfl : _ = some 38) (fun _ _ _ h => h) fun a wr S => ?_
        have X := undrew S.ext
        obtain ⟨v8, e8, h8⟩ := S.got 8 (by kernel_rfl)
        exact wp_lenS ((ev_of (e8 39 (by kernel_rfl))).trans h8) (done (by kernel_rfl) rbu_refl rfl)
      · refine rs_yes rfl rfl (by kernel_rfl) (by kernel_rfl : _ = some 38) (fun _ _ _ h => h) fun a wr S => ?_
        have X := undrew S.ext
        obtain ⟨v9, e9, h9⟩ := S.got 9 (by kernel_rfl)
        exact wp_gtI ((ev_of (e9 40 (by kernel_rfl))).trans h9) rfl (done (by kernel_rfl) rbu_refl (congrArg Value.bool (decide_eq_false (by omega))))
      · refine rs_plain rfl rfl fun a wr S => ?_
        have X := undrew S.ext
        obtain ⟨v7, e7, h7⟩ := S.got 7 (by kernel_rfl)
        obtain ⟨v10, e10, h10⟩ := S.got 10 (by kernel_rfl)
        exact wp_pickT ((ev_of (e7 38 (by kernel_rfl))).trans h7) ((ev_of (e10 41 (by kernel_rfl))).trans h10) (done (by kernel_rfl) rbu_refl rfl)
    · intro fs w4 hR hv
      replace hR := undrew hR
      have f2 : fs 2 = .bool false := (hvc (hv 2 (by omega))).elim fun _ h => h
      have f5 : fs 5 = .bool true := (hvc (hv 5 (by omega))).elim fun _ h => h
      have f6 : fs 6 = .bool true := (hvc (hv 6 (by omega))).elim fun _ h => h
      have f7 : fs 7 = .bool true := (hvc (hv 7 (by omega))).elim fun _ h => h
      have f8 : fs 8 = .slice R 0 cr := (hvc (hv 8 (by omega))).elim fun _ h => h
      have f9 : fs 9 = .int .i64 ((0 : Nat) : Int) := (hvc (hv 9 (by omega))).elim fun _ h => h
      have f10 : fs 10 = .bool false := (hvc (hv 10 (by omega))).elim fun _ h => h
      have f11 : fs 11 = .bool false := (hvc (hv 11 (by omega))).elim fun _ h => h
      simp only [putFn, Act.put, List.setIfInBounds_toArray, List.set_cons_zero, List.set_cons_succ, f2, f5, f6, f7, f8, f9, f10, f11]
      replace PA := PA.below hR
      replace PB := PB.below hR
      replace PR := PR.below hR
      replace Po := Po.below hR
      replace q0 := q0.below hR
      replace BB := bl_trans BB hR
      clear hR hv
      have o0 := Po.c0
      have o1 := Po.c1
      have r0 := PR.c0
      have r1 := PR.c1
      have f0 := PR.f 0
      have f1 := PR.f 1
      clear PA PB XA YB
      go_wp2_with fail
      have q1 : IsT w4 (.agg #[.bool bo, .slice Ao no co]) (dq za ub) 25 := by rw [← HD.out]; exact q0.mono (by omega)
      exact bodyPost_ret (v := .tuple #[.agg #[.bool bo, .slice Ao no co], .int .i64 0]) (by simp [results, Try.results38, go_sem, *]) rfl (IsTE.fin q1 PR BB (by omega))

theorem cRefDiv_np0 (h : IsM w v za 24) (g : IsM w v' ub 24) (hz : za < 0) (hu : 0 < ub) (hr : za.natAbs % ub.natAbs = 0) : Calls Try.prog 38 #[v, v'] w (Ans w fun w' v => IsTE w' v (dq za ub) 25 0) := by
  have hy : ub.natAbs ≠ 0 := by omega
  obtain ⟨s, A, n, c, rfl, Z⟩ := h
  obtain ⟨t, B, m, d, rfl, Z'⟩ := g
  have XA : IsM (((w.alloc (.cells #[.bool s, .slice A n c] 32)).alloc (.cells #[.bool t, .slice B m d] 32)).alloc (.cells #[.bool false, .slice none 0 0] 32)) (.agg #[.bool s, .slice A n c]) za 24 := ⟨_, _, _, _, rfl, ((Z.alloc _).alloc _).alloc _⟩
  have YB : IsM (((w.alloc (.cells #[.bool s, .slice A n c] 32)).alloc (.cells #[.bool t, .slice B m d] 32)).alloc (.cells #[.bool false, .slice none 0 0] 32)) (.agg #[.bool t, .slice B m d]) ub 24 := ⟨_, _, _, _, rfl, ((Z'.alloc _).alloc _).alloc _⟩
  have X0 := ((Z.nm.alloc (.cells #[.bool s, .slice A n c] 32)).alloc (.cells #[.bool t, .slice B m d] 32)).alloc (.cells #[.bool false, .slice none 0 0] 32)
  have Y0 := ((Z'.nm.alloc (.cells #[.bool s, .slice A n c] 32)).alloc (.cells #[.bool t, .slice B m d] 32)).alloc (.cells #[.bool false, .slice none 0 0] 32)
  have PA := ((Bz.new w s A n c).alloc (.cells #[.bool t, .slice B m d] 32)).alloc (.cells #[.bool false, .slice none 0 0] 32)
  have PB := (Bz.new2 w (.cells #[.bool s, .slice A n c] 32) t B m d).alloc (.cells #[.bool false, .slice none 0 0] 32)
  have PR := Bz.new3 w (.cells #[.bool s, .slice A n c] 32) (.cells #[.bool t, .slice B m d] 32) false none 0 0
  have BB := bl_trans (bl_trans (bl_alloc w (.cells #[.bool s, .slice A n c] 32)) (bl_alloc _ (.cells #[.bool t, .slice B m d] 32))) (bl_alloc _ (.cells #[.bool false, .slice none 0 0] 32))
  clear Z Z'
  have HD := Lib.hid (show zv true (za.natAbs / ub.natAbs) = dq za ub by
    have h1 := FD.even za.natAbs ub.natAbs true hy hr
    rw [show zv true za.natAbs = za by rw [zv_true]; omega, show zv (!true) ub.natAbs = ub by rw [Bool.not_true, zv_false]; omega] at h1
    exact h1.dq (by omega))
  have HZ := Lib.hid hz
  have HU := Lib.hid hu
  have HY := Lib.hid hy
  have HR := Lib.hid hr
  clear hz hu hy hr
  go_enter Try.func38, Try.ntmps38
  go_wp2_with fail
  refine (divRN X0 Y0 (by omega) (by omega) HY.out).mono ?_
  rintro e w1 ⟨Q, nq, cq, R, nr, cr, rfl, TQ, TR, hb1⟩
  replace XA := XA.below hb1
  replace YB := YB.below hb1
  replace PA := PA.below hb1
  replace PB := PB.below hb1
  replace PR := PR.below hb1
  replace BB := bl_trans BB hb1
  have NQ := TQ.nm
  have hlr := TR.len
  have hlr2 := TR.le
  obtain rfl : nr = 0 := by rw [← hlr, HR.out, M.lims_zero]; rfl
  clear hb1 TQ TR X0 Y0 hlr
  go_wp2_with fail
  refine wp_region_list (Ext := (BelX (w1).heap.size)) (Rel := (BelU (w1).heap.size)) [fun v _ w => IsM w v (za) 24, fun v _ w => IsT w v (za) 24, fun v _ _ => v = .bool true, fun v _ w => IsM w v (ub) 24, fun v _ w => IsT w v (ub) 24, fun v _ _ => v = .bool false, fun v _ _ => v = .bool true, fun v _ _ => v = .slice Q nq cq, fun v _ w => IsZ (w1).heap.size w v (zv true (za.natAbs / ub.natAbs)) 24, fun v _ w => IsP (w1).heap.size v w, fun _ u w => HasZ (w1).heap.size u w (zv true (za.natAbs / ub.natAbs)) 24] (n := 11) (by kernel_rfl) rfl (by kernel_rfl) (by kernel_rfl) (by kernel_rfl) (by kernel_rfl) (by kernel_rfl) (rx_refl _) (rxu_trans _) ⟨xM, ⟨xT, ⟨sC, ⟨xM, ⟨xT, ⟨sC, ⟨sC, ⟨sC, ⟨xZ, ⟨xP, ⟨xHZ, trivial⟩⟩⟩⟩⟩⟩⟩⟩⟩⟩⟩ ?_ ?_
  · refine ⟨⟨⟨⟨⟨⟨⟨⟨⟨⟨⟨trivial, ?_⟩, ?_⟩, ?_⟩, ?_⟩, ?_⟩, ?_⟩, ?_⟩, ?_⟩, ?_⟩, ?_⟩, ?_⟩
    · refine rs_plain rfl rfl fun a wr S => ?_
      have X := undrewX S.ext
      exact wp_load (ev_of ((S.old 2 (by kernel_rfl)).trans rfl)) (PA.below X) (done (by kernel_rfl) (rxu_refl _) (XA.below X))
    · refine rs_plain rfl rfl fun a wr S => ?_
      have X := undrewX S.ext
      obtain ⟨v0, e0, h0⟩ := S.got 0 (by kernel_rfl)
      exact st_call cf_ref02_Made (args1 (ev_of (e0 22 (by kernel_rfl)))) (by kernel_rfl) (rxu _) (cRefMade h0 (by omega)) (fun _ _ _ h => h)
    · refine rs_plain rfl rfl fun a wr S => ?_
      have X := undrewX S.ext
      obtain ⟨v1, e1, h1⟩ := S.got 1 (by kernel_rfl)
      obtain ⟨bb, AA, nn, cc, hvv, TT, hbb⟩ := (show IsT wr _ (za) 24 from h1)
      exact wp_fld0 ((ev_of (e1 23 (by kernel_rfl))).trans hvv) (done (by kernel_rfl) (rxu_refl _) (congrArg Value.bool (hbb.trans (decide_eq_true HZ.out))))
    · refine rs_plain rfl rfl fun a wr S => ?_
      have X := undrewX S.ext
      exact wp_load (ev_of ((S.old 3 (by kernel_rfl)).trans rfl)) (PB.below X) (done (by kernel_rfl) (rxu_refl _) (YB.below X))
    · refine rs_plain rfl rfl fun a wr S => ?_
      have X := undrewX S.ext
      obtain ⟨v3, e3, h3⟩ := S.got 3 (by kernel_rfl)
      exact st_call cf_ref02_Made (args1 (ev_of (e3 25 (by kernel_rfl)))) (by kernel_rfl) (rxu _) (cRefMade h3 (by omega)) (fun _ _ _ h => h)
    · refine rs_plain rfl rfl fun a wr S => ?_
      have X := undrewX S.ext
      obtain ⟨v4, e4, h4⟩ := S.got 4 (by kernel_rfl)
      obtain ⟨bb, AA, nn, cc, hvv, TT, hbb⟩ := (show IsT wr _ (ub) 24 from h4)
      exact wp_fld0 ((ev_of (e4 26 (by kernel_rfl))).trans hvv) (done (by kernel_rfl) (rxu_refl _) (congrArg Value.bool (hbb.trans (decide_eq_false (by have := HU.out; omega)))))
    · refine rs_plain rfl rfl fun a wr S => ?_
      have X := undrewX S.ext
      obtain ⟨v2, e2, h2⟩ := S.got 2 (by kernel_rfl)
      obtain ⟨v5, e5, h5⟩ := S.got 5 (by kernel_rfl)
      exact wp_neB ((ev_of (e2 24 (by kernel_rfl))).trans h2) ((ev_of (e5 27 (by kernel_rfl))).trans h5) (done (by kernel_rfl) (rxu_refl _) (congrArg Value.bool (by decide)))
    · refine rs_plain rfl rfl fun a wr S => ?_
      have X := undrewX S.ext
      exact wp_mv (ev_of ((S.old 6 (by kernel_rfl)).trans rfl)) (done (by kernel_rfl) (rxu_refl _) rfl)
    · refine rs_plain rfl rfl fun a wr S => ?_
      have X := undrewX S.ext
      obtain ⟨v6, e6, h6⟩ := S.got 6 (by kernel_rfl)
      obtain ⟨v7, e7, h7⟩ := S.got 7 (by kernel_rfl)
      exact st_call cf_ref02_Of (args2 ((ev_of (e6 28 (by kernel_rfl))).trans h6) ((ev_of (e7 29 (by kernel_rfl))).trans h7)) (by kernel_rfl) (rxu _) (cRefOfZ true (NQ.below X) (by omega) X.size) (fun _ _ _ h => h)
    · refine rs_plain rfl rfl fun a wr S => ?_
      have X := undrewX S.ext
      refine st_alloc X.size (fun _ _ _ h => h) fun j vj u hj hs => ?_
      have hj' : j ∈ [9] := alloc_cases (by kernel_rfl) j hj
      simp only [List.mem_cons, List.not_mem_nil, or_false] at hj'
      subst hj'; exact hs
    · refine rs_plain rfl rfl fun a wr S => ?_
      have X := undrewX S.ext
      obtain ⟨v9, e9, h9⟩ := S.got 9 (by kernel_rfl)
      obtain ⟨v8, e8, h8⟩ := S.got 8 (by kernel_rfl)
      exact st_storeZ (by kernel_rfl) (by kernel_rfl) (ev_of (e9 9 (by kernel_rfl))) h9 (ev_of (e8 30 (by kernel_rfl))) h8 (fun _ _ _ h => h)
  · intro fr w2 hR hv
    replace hR := undrewX hR
    have f2 : fr 2 = .bool true := (hvc (hv 2 (by omega))).elim fun _ h => h
    have f5 : fr 5 = .bool false := (hvc (hv 5 (by omega))).elim fun _ h => h
    have f6 : fr 6 = .bool true := (hvc (hv 6 (by omega))).elim fun _ h => h
    have f7 : fr 7 = .slice Q nq cq := (hvc (hv 7 (by omega))).elim fun _ h => h
    obtain ⟨go, bo, Ao, no, co, f9, hgo, Po, Zo⟩ := (show HasZ _ (fr 9) w2 (zv true (za.natAbs / ub.natAbs)) 24 from hvs (hv 10 (by omega)) (by kernel_rfl))
    simp only [putFn, Act.put, List.setIfInBounds_toArray, List.set_cons_zero, List.set_cons_succ, f2, f5, f6, f7, f9]
    have hlt1 := PA.lt
    have hlt2 := PB.lt
    have hlt3 := PR.lt
    replace XA := XA.below hR
    replace YB := YB.below hR
    replace PA := PA.below hR
    replace PB := PB.below hR
    replace PR := PR.below hR
    have hgo' : w1.heap.size ≤ go := hgo
    have hle1 := BB.size
    replace BB := bl_trans BB hR
    have q0 : IsT w2 (.agg #[.bool bo, .slice Ao no co]) (zv true (za.natAbs / ub.natAbs)) 24 := IsZ.t ⟨_, _, _, _, rfl, Zo⟩
    clear hR hv Zo NQ
    go_wp2_with fail
    refine wp_region_list (Ext := RB) (Rel := RBu) [fun v _ w => IsM w v (za) 24, fun v _ w => IsT w v (za) 24, fun v _ _ => v = .bool true, fun v _ w => IsM w v (ub) 24, fun v _ w => IsT w v (ub) 24, fun v _ _ => v = .bool false, fun v _ _ => v = .bool true, fun v _ _ => v = .bool true, fun v _ _ => v = .slice R 0 cr, fun v _ _ => v = .int .i64 ((0 : Nat) : Int), fun v _ _ => v = .bool false, fun v _ _ => v = .bool false] (n := 12) (by kernel_rfl) rfl (by kernel_rfl) (by kernel_rfl) (by kernel_rfl) (by kernel_rfl) (by kernel_rfl) rb_refl rb_trans ⟨sM, ⟨sT, ⟨sC, ⟨sM, ⟨sT, ⟨sC, ⟨sC, ⟨sC, ⟨sC, ⟨sC, ⟨sC, ⟨sC, trivial⟩⟩⟩⟩⟩⟩⟩⟩⟩⟩⟩⟩ ?_ ?_
    · refine ⟨⟨⟨⟨⟨⟨⟨⟨⟨⟨⟨⟨trivial, ?_⟩, ?_⟩, ?_⟩, ?_⟩, ?_⟩, ?_⟩, ?_⟩, ?_⟩, ?_⟩, ?_⟩, ?_⟩, ?_⟩
      · refine rs_plain rfl rfl fun a wr S => ?_
        have X := undrew S.ext
        exact wp_load (ev_of ((S.old 2 (by kernel_rfl)).trans rfl)) (PA.below X) (done (by kernel_rfl) rbu_refl (XA.below X))
      · refine rs_plain rfl rfl fun a wr S => ?_
        have X := undrew S.ext
        obtain ⟨v0, e0, h0⟩ := S.got 0 (by kernel_rfl)
        exact st_call cf_ref02_Made (args1 (ev_of (e0 31 (by kernel_rfl)))) (by kernel_rfl) rb (cRefMade h0 (by omega)) (fun _ _ _ h => h)
      · refine rs_plain rfl rfl fun a wr S => ?_
        have X := undrew S.ext
        obtain ⟨v1, e1, h1⟩ := S.got 1 (by kernel_rfl)
        obtain ⟨bb, AA, nn, cc, hvv, TT, hbb⟩ := (show IsT wr _ (za) 24 from h1)
        exact wp_fld0 ((ev_of (e1 32 (by kernel_rfl))).trans hvv) (done (by kernel_rfl) rbu_refl (congrArg Value.bool (hbb.trans (decide_eq_true HZ.out))))
      · refine rs_plain rfl rfl fun a wr S => ?_
        have X := undrew S.ext
        exact wp_load (ev_of ((S.old 3 (by kernel_rfl)).trans rfl)) (PB.below X) (done (by kernel_rfl) rbu_refl (YB.below X))
      · refine rs_plain rfl rfl fun a wr S => ?_
        have X := undrew S.ext
        obtain ⟨v3, e3, h3⟩ := S.got 3 (by kernel_rfl)
        exact st_call cf_ref02_Made (args1 (ev_of (e3 34 (by kernel_rfl)))) (by kernel_rfl) rb (cRefMade h3 (by omega)) (fun _ _ _ h => h)
      · refine rs_plain rfl rfl fun a wr S => ?_
        have X := undrew S.ext
        obtain ⟨v4, e4, h4⟩ := S.got 4 (by kernel_rfl)
        obtain ⟨bb, AA, nn, cc, hvv, TT, hbb⟩ := (show IsT wr _ (ub) 24 from h4)
        exact wp_fld0 ((ev_of (e4 35 (by kernel_rfl))).trans hvv) (done (by kernel_rfl) rbu_refl (congrArg Value.bool (hbb.trans (decide_eq_false (by have := HU.out; omega)))))
      · refine rs_plain rfl rfl fun a wr S => ?_
        have X := undrew S.ext
        obtain ⟨v2, e2, h2⟩ := S.got 2 (by kernel_rfl)
        obtain ⟨v5, e5, h5⟩ := S.got 5 (by kernel_rfl)
        exact wp_neB ((ev_of (e2 33 (by kernel_rfl))).trans h2) ((ev_of (e5 36 (by kernel_rfl))).trans h5) (done (by kernel_rfl) rbu_refl (congrArg Value.bool (by decide)))
      · refine rs_plain rfl rfl fun a wr S => ?_
        have X := undrew S.ext
        obtain ⟨v6, e6, h6⟩ := S.got 6 (by kernel_rfl)
        exact wp_mv ((ev_of (e6 37 (by kernel_rfl))).trans h6) (done (by kernel_rfl) rbu_refl rfl)
      · refine rs_yes rfl rfl (by kernel_rfl) (by kernel_rfl : _ = some 38) (fun _ _ _ h => h) fun a wr S => ?_
        have X := undrew S.ext
        exact wp_mv (ev_of ((S.old 7 (by kernel_rfl)).trans rfl)) (done (by kernel_rfl) rbu_refl rfl)
      · refine rs_yes rfl rfl (by kernel_rfl) (by kernel_rfl : _ = some 38) (fun _ _ _ h => h) fun a wr S => ?_
        have X := undrew S.ext
        obtain ⟨v8, e8, h8⟩ := S.got 8 (by kernel_rfl)
        exact wp_lenS ((ev_of (e8 39 (by kernel_rfl))).trans h8) (done (by kernel_rfl) rbu_refl rfl)
      · refine rs_yes rfl rfl (by kernel_rfl) (by kernel_rfl : _ = some 38) (fun _ _ _ h => h) fun a wr S => ?_
        have X := undrew S.ext
        obtain ⟨v9, e9, h9⟩ := S.got 9 (by kernel_rfl)
        exact wp_gtI ((ev_of (e9 40 (by kernel_rfl))).trans h9) rfl (done (by kernel_rfl) rbu_refl (congrArg Value.bool (decide_eq_false (by omega))))
      · refine rs_plain rfl rfl fun a wr S => ?_
        have X := undrew S.ext
        obtain ⟨v7, e7, h7⟩ := S.got 7 (by kernel_rfl)
        obtain ⟨v10, e10, h10⟩ := S.got 10 (by kernel_rfl)
        exact wp_pickT ((ev_of (e7 38 (by kernel_rfl))).trans h7) ((ev_of (e10 41 (by kernel_rfl))).trans h10) (done (by kernel_rfl) rbu_refl rfl)
    · intro fs w4 hR hv
      replace hR := undrew hR
      have f2 : fs 2 = .bool true := (hvc (hv 2 (by omega))).elim fun _ h => h
      have f5 : fs 5 = .bool false := (hvc (hv 5 (by omega))).elim fun _ h => h
      have f6 : fs 6 = .bool true := (hvc (hv 6 (by omega))).elim fun _ h => h
      have f7 : fs 7 = .bool true := (hvc (hv 7 (by omega))).elim fun _ h => h
      have f8 : fs 8 = .slice R 0 cr := (hvc (hv 8 (by omega))).elim fun _ h => h
      have f9 : fs 9 = .int .i64 ((0 : Nat) : Int) := (hvc (hv 9 (by omega))).elim fun _ h => h
      have f10 : fs 10 = .bool false := (hvc (hv 10 (by omega))).elim fun _ h => h
      have f11 : fs 11 = .bool false := (hvc (hv 11 (by omega))).elim fun _ h => h
      simp only [putFn, Act.put, List.setIfInBounds_toArray, List.set_cons_zero, List.set_cons_succ, f2, f5, f6, f7, f8, f9, f10, f11]
      replace PA := PA.below hR
      replace PB := PB.below hR
      replace PR := PR.below hR
      replace Po := Po.below hR
      replace q0 := q0.below hR
      replace BB := bl_trans BB hR
      clear hR hv
      have o0 := Po.c0
      have o1 := Po.c1
      have r0 := PR.c0
      have r1 := PR.c1
      have f0 := PR.f 0
      have f1 := PR.f 1
      clear PA PB XA YB
      go_wp2_with fail
      have q1 : IsT w4 (.agg #[.bool bo, .slice Ao no co]) (dq za ub) 25 := by rw [← HD.out]; exact q0.mono (by omega)
      exact bodyPost_ret (v := .tuple #[.agg #[.bool bo, .slice Ao no co], .int .i64 0]) (by simp [results, Try.results38, go_sem, *]) rfl (IsTE.fin q1 PR BB (by omega))

theorem cRefDiv_pn1 (h : IsM w v za 24) (g : IsM w v' ub 24) (hz : 0 ≤ za) (hu : ub < 0) (hr : za.natAbs % ub.natAbs ≠ 0) : Calls Try.prog 38 #[v, v'] w (Ans w fun w' v => IsTE w' v (dq za ub) 25 0) := by
  have hy : ub.natAbs ≠ 0 := by omega
  obtain ⟨s, A, n, c, rfl, Z⟩ := h
  obtain ⟨t, B, m, d, rfl, Z'⟩ := g
  have XA : IsM (((w.alloc (.cells #[.bool s, .slice A n c] 32)).alloc (.cells #[.bool t, .slice B m d] 32)).alloc (.cells #[.bool false, .slice none 0 0] 32)) (.agg #[.bool s, .slice A n c]) za 24 := ⟨_, _, _, _, rfl, ((Z.alloc _).alloc _).alloc _⟩
  have YB : IsM (((w.alloc (.cells #[.bool s, .slice A n c] 32)).alloc (.cells #[.bool t, .slice B m d] 32)).alloc (.cells #[.bool false, .slice none 0 0] 32)) (.agg #[.bool t, .slice B m d]) ub 24 := ⟨_, _, _, _, rfl, ((Z'.alloc _).alloc _).alloc _⟩
  have X0 := ((Z.nm.alloc (.cells #[.bool s, .slice A n c] 32)).alloc (.cells #[.bool t, .slice B m d] 32)).alloc (.cells #[.bool false, .slice none 0 0] 32)
  have Y0 := ((Z'.nm.alloc (.cells #[.bool s, .slice A n c] 32)).alloc (.cells #[.bool t, .slice B m d] 32)).alloc (.cells #[.bool false, .slice none 0 0] 32)
  have PA := ((Bz.new w s A n c).alloc (.cells #[.bool t, .slice B m d] 32)).alloc (.cells #[.bool false, .slice none 0 0] 32)
  have PB := (Bz.new2 w (.cells #[.bool s, .slice A n c] 32) t B m d).alloc (.cells #[.bool false, .slice none 0 0] 32)
  have PR := Bz.new3 w (.cells #[.bool s, .slice A n c] 32) (.cells #[.bool t, .slice B m d] 32) false none 0 0
  have BB := bl_trans (bl_trans (bl_alloc w (.cells #[.bool s, .slice A n c] 32)) (bl_alloc _ (.cells #[.bool t, .slice B m d] 32))) (bl_alloc _ (.cells #[.bool false, .slice none 0 0] 32))
  clear Z Z'
  have HD := Lib.hid (show zv true (za.natAbs / ub.natAbs) - 1 = dq za ub by
    have h1 := FD.odd za.natAbs ub.natAbs false hy hr
    rw [show zv false za.natAbs = za by rw [zv_false]; omega, show zv (!false) ub.natAbs = ub by rw [Bool.not_false, zv_true]; omega] at h1
    rw [← h1.dq (by omega)]
    simp only [zv_true]
    omega)
  have HZ := Lib.hid hz
  have HU := Lib.hid hu
  have HY := Lib.hid hy
  have HR := Lib.hid hr
  clear hz hu hy hr
  go_enter Try.func38, Try.ntmps38
  go_wp2_with fail
  refine (divRN X0 Y0 (by omega) (by omega) HY.out).mono ?_
  rintro e w1 ⟨Q, nq, cq, R, nr, cr, rfl, TQ, TR, hb1⟩
  replace XA := XA.below hb1
  replace YB := YB.below hb1
  replace PA := PA.below hb1
  replace PB := PB.below hb1
  replace PR := PR.below hb1
  replace BB := bl_trans BB hb1
  have NQ := TQ.nm
  have hlr := TR.len
  have hlr2 := TR.le
  have hnr : 0 < nr := by
    rw [← hlr]
    exact List.length_pos_iff.2 fun e => HR.out (M.lims_eq_nil.1 e)
  clear hb1 TQ TR X0 Y0 hlr
  go_wp2_with fail
  refine wp_region_list (Ext := (BelX (w1).heap.size)) (Rel := (BelU (w1).heap.size)) [fun v _ w => IsM w v (za) 24, fun v _ w => IsT w v (za) 24, fun v _ _ => v = .bool false, fun v _ w => IsM w v (ub) 24, fun v _ w => IsT w v (ub) 24, fun v _ _ => v = .bool true, fun v _ _ => v = .bool true, fun v _ _ => v = .slice Q nq cq, fun v _ w => IsZ (w1).heap.size w v (zv true (za.natAbs / ub.natAbs)) 24, fun v _ w => IsP (w1).heap.size v w, fun _ u w => HasZ (w1).heap.size u w (zv true (za.natAbs / ub.natAbs)) 24] (n := 11) (by kernel_rfl) rfl (by kernel_rfl) (by kernel_rfl) (by kernel_rfl) (by kernel_rfl) (by kernel_rfl) (rx_refl _) (rxu_trans _) ⟨xM, ⟨xT, ⟨sC, ⟨xM, ⟨xT, ⟨sC, ⟨sC, ⟨sC, ⟨xZ, ⟨xP, ⟨xHZ, trivial⟩⟩⟩⟩⟩⟩⟩⟩⟩⟩⟩ ?_ ?_
  · refine ⟨⟨⟨⟨⟨⟨⟨⟨⟨⟨⟨trivial, ?_⟩, ?_⟩, ?_⟩, ?_⟩, ?_⟩, ?_⟩, ?_⟩, ?_⟩, ?_⟩, ?_⟩, ?_⟩
    · refine rs_plain rfl rfl fun a wr S => ?_
      have X := undrewX S.ext
      exact wp_load (ev_of ((S.old 2 (by kernel_rfl)).trans rfl)) (PA.below X) (done (by kernel_rfl) (rxu_refl _) (XA.below X))
    · refine rs_plain rfl rfl fun a wr S => ?_
      have X := undrewX S.ext
      obtain ⟨v0, e0, h0⟩ := S.got 0 (by kernel_rfl)
      exact st_call cf_ref02_Made (args1 (ev_of (e0 22 (by kernel_rfl)))) (by kernel_rfl) (rxu _) (cRefMade h0 (by omega)) (fun _ _ _ h => h)
    · refine rs_plain rfl rfl fun a wr S => ?_
      have X := undrewX S.ext
      obtain ⟨v1, e1, h1⟩ := S.got 1 (by kernel_rfl)
      obtain ⟨bb, AA, nn, cc, hvv, TT, hbb⟩ := (show IsT wr _ (za) 24 from h1)
      exact wp_fld0 ((ev_of (e1 23 (by kernel_rfl))).trans hvv) (done (by kernel_rfl) (rxu_refl _) (congrArg Value.bool (hbb.trans (decide_eq_false (by have := HZ.out; omega)))))
    · refine rs_plain rfl rfl fun a wr S => ?_
      have X := undrewX S.ext
      exact wp_load (ev_of ((S.old 3 (by kernel_rfl)).trans rfl)) (PB.below X) (done (by kernel_rfl) (rxu_refl _) (YB.below X))
    · refine rs_plain rfl rfl fun a wr S => ?_
      have X := undrewX S.ext
      obtain ⟨v3, e3, h3⟩ := S.got 3 (by kernel_rfl)
      exact st_call cf_ref02_Made (args1 (ev_of (e3 25 (by kernel_rfl)))) (by kernel_rfl) (rxu _) (cRefMade h3 (by omega)) (fun _ _ _ h => h)
    · refine rs_plain rfl rfl fun a wr S => ?_
      have X := undrewX S.ext
      obtain ⟨v4, e4, h4⟩ := S.got 4 (by kernel_rfl)
      obtain ⟨bb, AA, nn, cc, hvv, TT, hbb⟩ := (show IsT wr _ (ub) 24 from h4)
      exact wp_fld0 ((ev_of (e4 26 (by kernel_rfl))).trans hvv) (done (by kernel_rfl) (rxu_refl _) (congrArg Value.bool (hbb.trans (decide_eq_true HU.out))))
    · refine rs_plain rfl rfl fun a wr S => ?_
      have X := undrewX S.ext
      obtain ⟨v2, e2, h2⟩ := S.got 2 (by kernel_rfl)
      obtain ⟨v5, e5, h5⟩ := S.got 5 (by kernel_rfl)
      exact wp_neB ((ev_of (e2 24 (by kernel_rfl))).trans h2) ((ev_of (e5 27 (by kernel_rfl))).trans h5) (done (by kernel_rfl) (rxu_refl _) (congrArg Value.bool (by decide)))
    · refine rs_plain rfl rfl fun a wr S => ?_
      have X := undrewX S.ext
      exact wp_mv (ev_of ((S.old 6 (by kernel_rfl)).trans rfl)) (done (by kernel_rfl) (rxu_refl _) rfl)
    · refine rs_plain rfl rfl fun a wr S => ?_
      have X := undrewX S.ext
      obtain ⟨v6, e6, h6⟩ := S.got 6 (by kernel_rfl)
      obtain ⟨v7, e7, h7⟩ := S.got 7 (by kernel_rfl)
      exact st_call cf_ref02_Of (args2 ((ev_of (e6 28 (by kernel_rfl))).trans h6) ((ev_of (e7 29 (by kernel_rfl))).trans h7)) (by kernel_rfl) (rxu _) (cRefOfZ true (NQ.below X) (by omega) X.size) (fun _ _ _ h => h)
    · refine rs_plain rfl rfl fun a wr S => ?_
      have X := undrewX S.ext
      refine st_alloc X.size (fun _ _ _ h => h) fun j vj u hj hs => ?_
      have hj' : j ∈ [9] := alloc_cases (by kernel_rfl) j hj
      simp only [List.mem_cons, List.not_mem_nil, or_false] at hj'
      subst hj'; exact hs
    · refine rs_plain rfl rfl fun a wr S => ?_
      have X := undrewX S.ext
      obtain ⟨v9, e9, h9⟩ := S.got 9 (by kernel_rfl)
      obtain ⟨v8, e8, h8⟩ := S.got 8 (by kernel_rfl)
      exact st_storeZ (by kernel_rfl) (by kernel_rfl) (ev_of (e9 9 (by kernel_rfl))) h9 (ev_of (e8 30 (by kernel_rfl))) h8 (fun _ _ _ h => h)
  · intro fr w2 hR hv
    replace hR := undrewX hR
    have f2 : fr 2 = .bool false := (hvc (hv 2 (by omega))).elim fun _ h => h
    have f5 : fr 5 = .bool true := (hvc (hv 5 (by omega))).elim fun _ h => h
    have f6 : fr 6 = .bool true := (hvc (hv 6 (by omega))).elim fun _ h => h
    have f7 : fr 7 = .slice Q nq cq := (hvc (hv 7 (by omega))).elim fun _ h => h
    obtain ⟨go, bo, Ao, no, co, f9, hgo, Po, Zo⟩ := (show HasZ _ (fr 9) w2 (zv true (za.natAbs / ub.natAbs)) 24 from hvs (hv 10 (by omega)) (by kernel_rfl))
    simp only [putFn, Act.put, List.setIfInBounds_toArray, List.set_cons_zero, List.set_cons_succ, f2, f5, f6, f7, f9]
    have hlt1 := PA.lt
    have hlt2 := PB.lt
    have hlt3 := PR.lt
    replace XA := XA.below hR
    replace YB := YB.below hR
    replace PA := PA.below hR
    replace PB := PB.below hR
    replace PR := PR.below hR
    have hgo' : w1.heap.size ≤ go := hgo
    have hle1 := BB.size
    replace BB := bl_trans BB hR
    have q0 : IsT w2 (.agg #[.bool bo, .slice Ao no co]) (zv true (za.natAbs / ub.natAbs)) 24 := IsZ.t ⟨_, _, _, _, rfl, Zo⟩
    clear hR hv Zo NQ
    go_wp2_with fail
    refine wp_region_list (Ext := RB) (Rel := RBu) [fun v _ w => IsM w v (za) 24, fun v _ w => IsT w v (za) 24, fun v _ _ => v = .bool false, fun v _ w => IsM w v (ub) 24, fun v _ w => IsT w v (ub) 24, fun v _ _ => v = .bool true, fun v _ _ => v = .bool true, fun v _ _ => v = .bool true, fun v _ _ => v = .slice R nr cr, fun v _ _ => v = .int .i64 ((nr : Nat) : Int), fun v _ _ => v = .bool true, fun v _ _ => v = .bool true] (n := 12) (by kernel_rfl) rfl (by kernel_rfl) (by kernel_rfl) (by kernel_rfl) (by kernel_rfl) (by kernel_rfl) rb_refl rb_trans ⟨sM, ⟨sT, ⟨sC, ⟨sM, ⟨sT, ⟨sC, ⟨sC, ⟨sC, ⟨sC, ⟨sC, ⟨sC, ⟨sC, trivial⟩⟩⟩⟩⟩⟩⟩⟩⟩⟩⟩⟩ ?_ ?_
    · refine ⟨⟨⟨⟨⟨⟨⟨⟨⟨⟨⟨⟨trivial, ?_⟩, ?_⟩, ?_⟩, ?_⟩, ?_⟩, ?_⟩, ?_⟩, ?_⟩, ?_⟩, ?_⟩, ?_⟩, ?_⟩
      · refine rs_plain rfl rfl fun a wr S => ?_
        have X := undrew S.ext
        exact wp_load (ev_of ((S.old 2 (by kernel_rfl)).trans rfl)) (PA.below X) (done (by kernel_rfl) rbu_refl (XA.below X))
      · refine rs_plain rfl rfl fun a wr S => ?_
        have X := undrew S.ext
        obtain ⟨v0, e0, h0⟩ := S.got 0 (by kernel_rfl)
        exact st_call cf_ref02_Made (args1 (ev_of (e0 31 (by kernel_rfl)))) (by kernel_rfl) rb (cRefMade h0 (by omega)) (fun _ _ _ h => h)
      · refine rs_plain rfl rfl fun a wr S => ?_
        have X := undrew S.ext
        obtain ⟨v1, e1, h1⟩ := S.got 1 (by kernel_rfl)
        obtain ⟨bb, AA, nn, cc, hvv, TT, hbb⟩ := (show IsT wr _ (za) 24 from h1)
        exact wp_fld0 ((ev_of (e1 32 (by kernel_rfl))).trans hvv) (done (by kernel_rfl) rbu_refl (congrArg Value.bool (hbb.trans (decide_eq_false (by have := HZ.out; omega)))))
      · refine rs_plain rfl rfl fun a wr S => ?_
        have X := undrew S.ext
        exact wp_load (ev_of ((S.old 3 (by kernel_rfl)).trans rfl)) (PB.below X) (done (by kernel_rfl) rbu_refl (YB.below X))
      · refine rs_plain rfl rfl fun a wr S => ?_
        have X := undrew S.ext
        obtain ⟨v3, e3, h3⟩ := S.got 3 (by kernel_rfl)
        exact st_call cf_ref02_Made (args1 (ev_of (e3 34 (by kernel_rfl)))) (by kernel_rfl) rb (cRefMade h3 (by omega)) (fun _ _ _ h => h)
      · refine rs_plain rfl rfl fun a wr S => ?_
        have X := undrew S.ext
        obtain ⟨v4, e4, h4⟩ := S.got 4 (by kernel_rfl)
        obtain ⟨bb, AA, nn, cc, hvv, TT, hbb⟩ := (show IsT wr _ (ub) 24 from h4)
        exact wp_fld0 ((ev_of (e4 35 (by kernel_rfl))).trans hvv) (done (by kernel_rfl) rbu_refl (congrArg Value.bool (hbb.trans (decide_eq_true HU.out))))
      · refine rs_plain rfl rfl fun a wr S => ?_
        have X := undrew S.ext
        obtain ⟨v2, e2, h2⟩ := S.got 2 (by kernel_rfl)
        obtain ⟨v5, e5, h5⟩ := S.got 5 (by kernel_rfl)
        exact wp_neB ((ev_of (e2 33 (by kernel_rfl))).trans h2) ((ev_of (e5 36 (by kernel_rfl))).trans h5) (done (by kernel_rfl) rbu_refl (congrArg Value.bool (by decide)))
      · refine rs_plain rfl rfl fun a wr S => ?_
        have X := undrew S.ext
        obtain ⟨v6, e6, h6⟩ := S.got 6 (by kernel_rfl)
        exact wp_mv ((ev_of (e6 37 (by kernel_rfl))).trans h6) (done (by kernel_rfl) rbu_refl rfl)
      · refine rs_yes rfl rfl (by kernel_rfl) (by kernel_rfl : _ = some 38) (fun _ _ _ h => h) fun a wr S => ?_
        have X := undrew S.ext
        exact wp_mv (ev_of ((S.old 7 (by kernel_rfl)).trans rfl)) (done (by kernel_rfl) rbu_refl rfl)
      · refine rs_yes rfl rfl (by kernel_rfl) (by kernel_rfl : _ = some 38) (fun _ _ _ h => h) fun a wr S => ?_
        have X := undrew S.ext
        obtain ⟨v8, e8, h8⟩ := S.got 8 (by kernel_rfl)
        exact wp_lenS ((ev_of (e8 39 (by kernel_rfl))).trans h8) (done (by kernel_rfl) rbu_refl rfl)
      · refine rs_yes rfl rfl (by kernel_rfl) (by kernel_rfl : _ = some 38) (fun _ _ _ h => h) fun a wr S => ?_
        have X := undrew S.ext
        obtain ⟨v9, e9, h9⟩ := S.got 9 (by kernel_rfl)
        exact wp_gtI ((ev_of (e9 40 (by kernel_rfl))).trans h9) rfl (done (by kernel_rfl) rbu_refl (congrArg Value.bool (decide_eq_true (by omega))))
      · refine rs_plain rfl rfl fun a wr S => ?_
        have X := undrew S.ext
        obtain ⟨v7, e7, h7⟩ := S.got 7 (by kernel_rfl)
        obtain ⟨v10, e10, h10⟩ := S.got 10 (by kernel_rfl)
        exact wp_pickT ((ev_of (e7 38 (by kernel_rfl))).trans h7) ((ev_of (e10 41 (by kernel_rfl))).trans h10) (done (by kernel_rfl) rbu_refl rfl)
    · intro fs w4 hR hv
      replace hR := undrew hR
      have f2 : fs 2 = .bool false := (hvc (hv 2 (by omega))).elim fun _ h => h
      have f5 : fs 5 = .bool true := (hvc (hv 5 (by omega))).elim fun _ h => h
      have f6 : fs 6 = .bool true := (hvc (hv 6 (by omega))).elim fun _ h => h
      have f7 : fs 7 = .bool true := (hvc (hv 7 (by omega))).elim fun _ h => h
      have f8 : fs 8 = .slice R nr cr := (hvc (hv 8 (by omega))).elim fun _ h => h
      have f9 : fs 9 = .int .i64 ((nr : Nat) : Int) := (hvc (hv 9 (by omega))).elim fun _ h => h
      have f10 : fs 10 = .bool true := (hvc (hv 10 (by omega))).elim fun _ h => h
      have f11 : fs 11 = .bool true := (hvc (hv 11 (by omega))).elim fun _ h => h
      simp only [putFn, Act.put, List.setIfInBounds_toArray, List.set_cons_zero, List.set_cons_succ, f2, f5, f6, f7, f8, f9, f10, f11]
      replace PA := PA.below hR
      replace PB := PB.below hR
      replace PR := PR.below hR
      replace Po := Po.below hR
      replace q0 := q0.below hR
      replace BB := bl_trans BB hR
      clear hR hv
      have o0 := Po.c0
      have o1 := Po.c1
      go_wp2_with fail
      replace PR := PR.drew
      replace Po := Po.drew
      replace BB := Below.drew BB
      replace q0 := q0.below (Below.drew (Below.refl _ _))
      clear o0 o1 PA PB XA YB
      have o0 := Po.c0
      have o1 := Po.c1
      have F1 := Lib.hid (show ∀ W : World, Calls Try.prog 14 #[.int .i64 1] W (Ans W fun w' v => IsT w' v 1 2) from fun W => cRefFrom 1 (by omega) (by omega))
      have F2 := Lib.hid (show ∀ (W : World) (v v' : Value), IsM W v (zv true (za.natAbs / ub.natAbs)) 24 → IsM W v' 1 2 → Calls Try.prog 19 #[v, v'] W (Ans W fun w' v => IsT w' v (zv true (za.natAbs / ub.natAbs) - 1) 25) from fun W v v' h h' => cRefSub h h' (by omega) (by omega))
      go_region_with (first
          | (go_at_call 14; refine (F1.out _).mono ?_; rintro e w5 ⟨_, rfl, hb5, b5, A5, n5, c5, rfl, T5, hn5⟩; replace PR := PR.below hb5; replace Po := Po.below hb5; replace q0 := q0.below hb5; replace BB := bl_trans BB hb5; have HN5 := Lib.hid hn5; have o2 := Po.c0; have o3 := Po.c1; clear hb5 hn5)
          | (go_at_call 19; refine (F2.out _ _ _ q0.m (IsT.m ⟨_, _, _, _, rfl, T5, HN5.out⟩)).mono ?_; rintro e w6 ⟨_, rfl, hb6, b6, A6, n6, c6, rfl, T6, hn6⟩; replace PR := PR.below hb6; replace Po := Po.below hb6; replace BB := bl_trans BB hb6; have HN6 := Lib.hid hn6; have p0 := Po.c0; have p1 := Po.c1; have p2 := Po.f 0; have p3 := Po.f 1; clear hb6 hn6))
      all_goals
        have q6 : IsT ((w6.setCell ⟨go, 0, none⟩ (.bool b6)).setCell ⟨go, 1, none⟩ (.slice A6 n6 c6)) (.agg #[.bool b6, .slice A6 n6 c6]) (dq za ub) 25 := by rw [← HD.out]; exact st_T Po ⟨_, _, _, _, rfl, T6, HN6.out⟩
        replace PR := PR.st2 (g' := go) (x := .bool b6) (y := .slice A6 n6 c6) (by omega)
        replace BB := st_B BB (show w.heap.size ≤ go by omega) (.bool b6) (.slice A6 n6 c6)
        replace Po := st_P (t := b6) (B := A6) (m := n6) (d := c6) Po
        generalize ((w6.setCell ⟨go, 0, none⟩ (.bool b6)).setCell ⟨go, 1, none⟩ (.slice A6 n6 c6)) = W6 at q6 PR BB Po ⊢
        clear o0 o1 o2 o3 p0 p1 p2 p3
        have o0 := Po.c0
        have o1 := Po.c1
        have r0 := PR.c0
        have r1 := PR.c1
        have f0 := PR.f 0
        have f1 := PR.f 1
        go_wp2_with fail
        exact bodyPost_ret (v := .tuple #[.agg #[.bool b6, .slice A6 n6 c6], .int .i64 0]) (by simp [results, Try.results38, go_sem, *]) rfl (IsTE.fin q6 PR BB (by omega))

theorem cRefDiv_np1 (h : IsM w v za 24) (g : IsM w v' ub 24) (hz : za < 0) (hu : 0 < ub) (hr : za.natAbs % ub.natAbs ≠ 0) : Calls Try.prog 38 #[v, v'] w (Ans w fun w' v => IsTE w' v (dq za ub) 25 0) := by
  have hy : ub.natAbs ≠ 0 := by omega
  obtain ⟨s, A, n, c, rfl, Z⟩ := h
  obtain ⟨t, B, m, d, rfl, Z'⟩ := g
  have XA : IsM (((w.alloc (.cells #[.bool s, .slice A n c] 32)).alloc (.cells #[.bool t, .slice B m d] 32)).alloc (.cells #[.bool false, .slice none 0 0] 32)) (.agg #[.bool s, .slice A n c]) za 24 := ⟨_, _, _, _, rfl, ((Z.alloc _).alloc _).alloc _⟩
  have YB : IsM (((w.alloc (.cells #[.bool s, .slice A n c] 32)).alloc (.cells #[.bool t, .slice B m d] 32)).alloc (.cells #[.bool false, .slice none 0 0] 32)) (.agg #[.bool t, .slice B m d]) ub 24 := ⟨_, _, _, _, rfl, ((Z'.alloc _).alloc _).alloc _⟩
  have X0 := ((Z.nm.alloc (.cells #[.bool s, .slice A n c] 32)).alloc (.cells #[.bool t, .slice B m d] 32)).alloc (.cells #[.bool false, .slice none 0 0] 32)
  have Y0 := ((Z'.nm.alloc (.cells #[.bool s, .slice A n c] 32)).alloc (.cells #[.bool t, .slice B m d] 32)).alloc (.cells #[.bool false, .slice none 0 0] 32)
  have PA := ((Bz.new w s A n c).alloc (.cells #[.bool t, .slice B m d] 32)).alloc (.cells #[.bool false, .slice none 0 0] 32)
  have PB := (Bz.new2 w (.cells #[.bool s, .slice A n c] 32) t B m d).alloc (.cells #[.bool false, .slice none 0 0] 32)
  have PR := Bz.new3 w (.cells #[.bool s, .slice A n c] 32) (.cells #[.bool t, .slice B m d] 32) false none 0 0
  have BB := bl_trans (bl_trans (bl_alloc w (.cells #[.bool s, .slice A n c] 32)) (bl_alloc _ (.cells #[.bool t, .slice B m d] 32))) (bl_alloc _ (.cells #[.bool false, .slice none 0 0] 32))
  clear Z Z'
  have HD := Lib.hid (show zv true (za.natAbs / ub.natAbs) - 1 = dq za ub by
    have h1 := FD.odd za.natAbs ub.natAbs true hy hr
    rw [show zv true za.natAbs = za by rw [zv_true]; omega, show zv (!true) ub.natAbs = ub by rw [Bool.not_true, zv_false]; omega] at h1
    rw [← h1.dq (by omega)]
    simp only [zv_true]
    omega)
  have HZ := Lib.hid hz
  have HU := Lib.hid hu
  have HY := Lib.hid hy
  have HR := Lib.hid hr
  clear hz hu hy hr
  go_enter Try.func38, Try.ntmps38
  go_wp2_with fail
  refine (divRN X0 Y0 (by omega) (by omega) HY.out).mono ?_
  rintro e w1 ⟨Q, nq, cq, R, nr, cr, rfl, TQ, TR, hb1⟩
  replace XA := XA.below hb1
  replace YB := YB.below hb1
  replace PA := PA.below hb1
  replace PB := PB.below hb1
  replace PR := PR.below hb1
  replace BB := bl_trans BB hb1
  have NQ := TQ.nm
  have hlr := TR.len
  have hlr2 := TR.le
  have hnr : 0 < nr := by
    rw [← hlr]
    exact List.length_pos_iff.2 fun e => HR.out (M.lims_eq_nil.1 e)
  clear hb1 TQ TR X0 Y0 hlr
  go_wp2_with fail
  refine wp_region_list (Ext := (BelX (w1).heap.size)) (Rel := (BelU (w1).heap.size)) [fun v _ w => IsM w v (za) 24, fun v _ w => IsT w v (za) 24, fun v _ _ => v = .bool true, fun v _ w => IsM w v (ub) 24, fun v _ w => IsT w v (ub) 24, fun v _ _ => v = .bool false, fun v _ _ => v = .bool true, fun v _ _ => v = .slice Q nq cq, fun v _ w => IsZ (w1).heap.size w v (zv true (za.natAbs / ub.natAbs)) 24, fun v _ w => IsP (w1).heap.size v w, fun _ u w => HasZ (w1).heap.size u w (zv true (za.natAbs / ub.natAbs)) 24] (n := 11) (by kernel_rfl) rfl (by kernel_rfl) (by kernel_rfl) (by kernel_rfl) (by kernel_rfl) (by kernel_rfl) (rx_refl _) (rxu_trans _) ⟨xM, ⟨xT, ⟨sC, ⟨xM, ⟨xT, ⟨sC, ⟨sC, ⟨sC, ⟨xZ, ⟨xP, ⟨xHZ, trivial⟩⟩⟩⟩⟩⟩⟩⟩⟩⟩⟩ ?_ ?_
  · refine ⟨⟨⟨⟨⟨⟨⟨⟨⟨⟨⟨trivial, ?_⟩, ?_⟩, ?_⟩, ?_⟩, ?_⟩, ?_⟩, ?_⟩, ?_⟩, ?_⟩, ?_⟩, ?_⟩
    · refine rs_plain rfl rfl fun a wr S => ?_
      have X := undrewX S.ext
      exact wp_load (ev_of ((S.old 2 (by kernel_rfl)).trans rfl)) (PA.below X) (done (by kernel_rfl) (rxu_refl _) (XA.below X))
    · refine rs_plain rfl rfl fun a wr S => ?_
      have X := undrewX S.ext
      obtain ⟨v0, e0, h0⟩ := S.got 0 (by kernel_rfl)
      exact st_call cf_ref02_Made (args1 (ev_of (e0 22 (by kernel_rfl)))) (by kernel_rfl) (rxu _) (cRefMade h0 (by omega)) (fun _ _ _ h => h)
    · refine rs_plain rfl rfl fun a wr S => ?_
      have X := undrewX S.ext
      obtain ⟨v1, e1, h1⟩ := S.got 1 (by kernel_rfl)
      obtain ⟨bb, AA, nn, cc, hvv, TT, hbb⟩ := (show IsT wr _ (za) 24 from h1)
      exact wp_fld0 ((ev_of (e1 23 (by kernel_rfl))).trans hvv) (done (by kernel_rfl) (rxu_refl _) (congrArg Value.bool (hbb.trans (decide_eq_true HZ.out))))
    · refine rs_plain rfl rfl fun a wr S => ?_
      have X := undrewX S.ext
      exact wp_load (ev_of ((S.old 3 (by kernel_rfl)).trans rfl)) (PB.below X) (done (by kernel_rfl) (rxu_refl _) (YB.below X))
    · refine rs_plain rfl rfl fun a wr S => ?_
      have X := undrewX S.ext
      obtain ⟨v3, e3, h3⟩ := S.got 3 (by kernel_rfl)
      exact st_call cf_ref02_Made (args1 (ev_of (e3 25 (by kernel_rfl)))) (by kernel_rfl) (rxu _) (cRefMade h3 (by omega)) (fun _ _ _ h => h)
    · refine rs_plain rfl rfl fun a wr S => ?_
      have X := undrewX S.ext
      obtain ⟨v4, e4, h4⟩ := S.got 4 (by kernel_rfl)
      obtain ⟨bb, AA, nn, cc, hvv, TT, hbb⟩ := (show IsT wr _ (ub) 24 from h4)
      exact wp_fld0 ((ev_of (e4 26 (by kernel_rfl))).trans hvv) (done (by kernel_rfl) (rxu_refl _) (congrArg Value.bool (hbb.trans (decide_eq_false (by have := HU.out; omega)))))
    · refine rs_plain rfl rfl fun a wr S => ?_
      have X := undrewX S.ext
      obtain ⟨v2, e2, h2⟩ := S.got 2 (by kernel_rfl)
      obtain ⟨v5, e5, h5⟩ := S.got 5 (by kernel_rfl)
      exact wp_neB ((ev_of (e2 24 (by kernel_rfl))).trans h2) ((ev_of (e5 27 (by kernel_rfl))).trans h5) (done (by kernel_rfl) (rxu_refl _) (congrArg Value.bool (by decide)))
    · refine rs_plain rfl rfl fun a wr S => ?_
      have X := undrewX S.ext
      exact wp_mv (ev_of ((S.old 6 (by kernel_rfl)).trans rfl)) (done (by kernel_rfl) (rxu_refl _) rfl)
    · refine rs_plain rfl rfl fun a wr S => ?_
      have X := undrewX S.ext
      obtain ⟨v6, e6, h6⟩ := S.got 6 (by kernel_rfl)
      obtain ⟨v7, e7, h7⟩ := S.got 7 (by kernel_rfl)
      exact st_call cf_ref02_Of (args2 ((ev_of (e6 28 (by kernel_rfl))).trans h6) ((ev_of (e7 29 (by kernel_rfl))).trans h7)) (by kernel_rfl) (rxu _) (cRefOfZ true (NQ.below X) (by omega) X.size) (fun _ _ _ h => h)
    · refine rs_plain rfl rfl fun a wr S => ?_
      have X := undrewX S.ext
      refine st_alloc X.size (fun _ _ _ h => h) fun j vj u hj hs => ?_
      have hj' : j ∈ [9] := alloc_cases (by kernel_rfl) j hj
      simp only [List.mem_cons, List.not_mem_nil, or_false] at hj'
      subst hj'; exact hs
    · refine rs_plain rfl rfl fun a wr S => ?_
      have X := undrewX S.ext
      obtain ⟨v9, e9, h9⟩ := S.got 9 (by kernel_rfl)
      obtain ⟨v8, e8, h8⟩ := S.got 8 (by kernel_rfl)
      exact st_storeZ (by kernel_rfl) (by kernel_rfl) (ev_of (e9 9 (by kernel_rfl))) h9 (ev_of (e8 30 (by kernel_rfl))) h8 (fun _ _ _ h => h)
  · intro fr w2 hR hv
    replace hR := undrewX hR
    have f2 : fr 2 = .bool true := (hvc (hv 2 (by omega))).elim fun _ h => h
    have f5 : fr 5 = .bool false := (hvc (hv 5 (by omega))).elim fun _ h => h
    have f6 : fr 6 = .bool true := (hvc (hv 6 (by omega))).elim fun _ h => h
    have f7 : fr 7 = .slice Q nq cq := (hvc (hv 7 (by omega))).elim fun _ h => h
    obtain ⟨go, bo, Ao, no, co, f9, hgo, Po, Zo⟩ := (show HasZ _ (fr 9) w2 (zv true (za.natAbs / ub.natAbs)) 24 from hvs (hv 10 (by omega)) (by kernel_rfl))
    simp only [putFn, Act.put, List.setIfInBounds_toArray, List.set_cons_zero, List.set_cons_succ, f2, f5, f6, f7, f9]
    have hlt1 := PA.lt
    have hlt2 := PB.lt
    have hlt3 := PR.lt
    replace XA := XA.below hR
    replace YB := YB.below hR
    replace PA := PA.below hR
    replace PB := PB.below hR
    replace PR := PR.below hR
    have hgo' : w1.heap.size ≤ go := hgo
    have hle1 := BB.size
    replace BB := bl_trans BB hR
    have q0 : IsT w2 (.agg #[.bool bo, .slice Ao no co]) (zv true (za.natAbs / ub.natAbs)) 24 := IsZ.t ⟨_, _, _, _, rfl, Zo⟩
    clear hR hv Zo NQ
    go_wp2_with fail
    refine wp_region_list (Ext := RB) (Rel := RBu) [fun v _ w => IsM w v (za) 24, fun v _ w => IsT w v (za) 24, fun v _ _ => v = .bool true, fun v _ w => IsM w v (ub) 24, fun v _ w => IsT w v (ub) 24, fun v _ _ => v = .bool false, fun v _ _ => v = .bool true, fun v _ _ => v = .bool true, fun v _ _ => v = .slice R nr cr, fun v _ _ => v = .int .i64 ((nr : Nat) : Int), fun v _ _ => v = .bool true, fun v _ _ => v = .bool true] (n := 12) (by kernel_rfl) rfl (by kernel_rfl) (by kernel_rfl) (by kernel_rfl) (by kernel_rfl) (by kernel_rfl) rb_refl rb_trans ⟨sM, ⟨sT, ⟨sC, ⟨sM, ⟨sT, ⟨sC, ⟨sC, ⟨sC, ⟨sC, ⟨sC, ⟨sC, ⟨sC, trivial⟩⟩⟩⟩⟩⟩⟩⟩⟩⟩⟩⟩ ?_ ?_
    · refine ⟨⟨⟨⟨⟨⟨⟨⟨⟨⟨⟨⟨trivial, ?_⟩, ?_⟩, ?_⟩, ?_⟩, ?_⟩, ?_⟩, ?_⟩, ?_⟩, ?_⟩, ?_⟩, ?_⟩, ?_⟩
      · refine rs_plain rfl rfl fun a wr S => ?_
        have X := undrew S.ext
        exact wp_load (ev_of ((S.old 2 (by kernel_rfl)).trans rfl)) (PA.below X) (done (by kernel_rfl) rbu_refl (XA.below X))
      · refine rs_plain rfl rfl fun a wr S => ?_
        have X := undrew S.ext
        obtain ⟨v0, e0, h0⟩ := S.got 0 (by kernel_rfl)
        exact st_call cf_ref02_Made (args1 (ev_of (e0 31 (by kernel_rfl)))) (by kernel_rfl) rb (cRefMade h0 (by omega)) (fun _ _ _ h => h)
      · refine rs_plain rfl rfl fun a wr S => ?_
        have X := undrew S.ext
        obtain ⟨v1, e1, h1⟩ := S.got 1 (by kernel_rfl)
        obtain ⟨bb, AA, nn, cc, hvv, TT, hbb⟩ := (show IsT wr _ (za) 24 from h1)
        exact wp_fld0 ((ev_of (e1 32 (by kernel_rfl))).trans hvv) (done (by kernel_rfl) rbu_refl (congrArg Value.bool (hbb.trans (decide_eq_true HZ.out))))
      · refine rs_plain rfl rfl fun a wr S => ?_
        have X := undrew S.ext
        exact wp_load (ev_of ((S.old 3 (by kernel_rfl)).trans rfl)) (PB.below X) (done (by kernel_rfl) rbu_refl (YB.below X))
      · refine rs_plain rfl rfl fun a wr S => ?_
        have X := undrew S.ext
        obtain ⟨v3, e3, h3⟩ := S.got 3 (by kernel_rfl)
        exact st_call cf_ref02_Made (args1 (ev_of (e3 34 (by kernel_rfl)))) (by kernel_rfl) rb (cRefMade h3 (by omega)) (fun _ _ _ h => h)
      · refine rs_plain rfl rfl fun a wr S => ?_
        have X := undrew S.ext
        obtain ⟨v4, e4, h4⟩ := S.got 4 (by kernel_rfl)
        obtain ⟨bb, AA, nn, cc, hvv, TT, hbb⟩ := (show IsT wr _ (ub) 24 from h4)
        exact wp_fld0 ((ev_of (e4 35 (by kernel_rfl))).trans hvv) (done (by kernel_rfl) rbu_refl (congrArg Value.bool (hbb.trans (decide_eq_false (by have := HU.out; omega)))))
      · refine rs_plain rfl rfl fun a wr S => ?_
        have X := undrew S.ext
        obtain ⟨v2, e2, h2⟩ := S.got 2 (by kernel_rfl)
        obtain ⟨v5, e5, h5⟩ := S.got 5 (by kernel_rfl)
        exact wp_neB ((ev_of (e2 33 (by kernel_rfl))).trans h2) ((ev_of (e5 36 (by kernel_rfl))).trans h5) (done (by kernel_rfl) rbu_refl (congrArg Value.bool (by decide)))
      · refine rs_plain rfl rfl fun a wr S => ?_
        have X := undrew S.ext
        obtain ⟨v6, e6, h6⟩ := S.got 6 (by kernel_rfl)
        exact wp_mv ((ev_of (e6 37 (by kernel_rfl))).trans h6) (done (by kernel_rfl) rbu_refl rfl)
      · refine rs_yes rfl rfl (by kernel_rfl) (by kernel_rfl : _ = some 38) (fun _ _ _ h => h) fun a wr S => ?_
        have X := undrew S.ext
        exact wp_mv (ev_of ((S.old 7 (by kernel_rfl)).trans rfl)) (done (by kernel_rfl) rbu_refl rfl)
      · refine rs_yes rfl rfl (by kernel_rfl) (by kernel_rfl : _ = some 38) (fun _ _ _ h => h) fun a wr S => ?_
        have X := undrew S.ext
        obtain ⟨v8, e8, h8⟩ := S.got 8 (by kernel_rfl)
        exact wp_lenS ((ev_of (e8 39 (by kernel_rfl))).trans h8) (done (by kernel_rfl) rbu_refl rfl)
      · refine rs_yes rfl rfl (by kernel_rfl) (by kernel_rfl : _ = some 38) (fun _ _ _ h => h) fun a wr S => ?_
        have X := undrew S.ext
        obtain ⟨v9, e9, h9⟩ := S.got 9 (by kernel_rfl)
        exact wp_gtI ((ev_of (e9 40 (by kernel_rfl))).trans h9) rfl (done (by kernel_rfl) rbu_refl (congrArg Value.bool (decide_eq_true (by omega))))
      · refine rs_plain rfl rfl fun a wr S => ?_
        have X := undrew S.ext
        obtain ⟨v7, e7, h7⟩ := S.got 7 (by kernel_rfl)
        obtain ⟨v10, e10, h10⟩ := S.got 10 (by kernel_rfl)
        exact wp_pickT ((ev_of (e7 38 (by kernel_rfl))).trans h7) ((ev_of (e10 41 (by kernel_rfl))).trans h10) (done (by kernel_rfl) rbu_refl rfl)
    · intro fs w4 hR hv
      replace hR := undrew hR
      have f2 : fs 2 = .bool true := (hvc (hv 2 (by omega))).elim fun _ h => h
      have f5 : fs 5 = .bool false := (hvc (hv 5 (by omega))).elim fun _ h => h
      have f6 : fs 6 = .bool true := (hvc (hv 6 (by omega))).elim fun _ h => h
      have f7 : fs 7 = .bool true := (hvc (hv 7 (by omega))).elim fun _ h => h
      have f8 : fs 8 = .slice R nr cr := (hvc (hv 8 (by omega))).elim fun _ h => h
      have f9 : fs 9 = .int .i64 ((nr : Nat) : Int) := (hvc (hv 9 (by omega))).elim fun _ h => h
      have f10 : fs 10 = .bool true := (hvc (hv 10 (by omega))).elim fun _ h => h
      have f11 : fs 11 = .bool true := (hvc (hv 11 (by omega))).elim fun _ h => h
      simp only [putFn, Act.put, List.setIfInBounds_toArray, List.set_cons_zero, List.set_cons_succ, f2, f5, f6, f7, f8, f9, f10, f11]
      replace PA := PA.below hR
      replace PB := PB.below hR
      replace PR := PR.below hR
      replace Po := Po.below hR
      replace q0 := q0.below hR
      replace BB := bl_trans BB hR
      clear hR hv
      have o0 := Po.c0
      have o1 := Po.c1
      go_wp2_with fail
      replace PR := PR.drew
      replace Po := Po.drew
      replace BB := Below.drew BB
      replace q0 := q0.below (Below.drew (Below.refl _ _))
      clear o0 o1 PA PB XA YB
      have o0 := Po.c0
      have o1 := Po.c1
      have F1 := Lib.hid (show ∀ W : World, Calls Try.prog 14 #[.int .i64 1] W (Ans W fun w' v => IsT w' v 1 2) from fun W => cRefFrom 1 (by omega) (by omega))
      have F2 := Lib.hid (show ∀ (W : World) (v v' : Value), IsM W v (zv true (za.natAbs / ub.natAbs)) 24 → IsM W v' 1 2 → Calls Try.prog 19 #[v, v'] W (Ans W fun w' v => IsT w' v (zv true (za.natAbs / ub.natAbs) - 1) 25) from fun W v v' h h' => cRefSub h h' (by omega) (by omega))
      go_region_with (first
          | (go_at_call 14; refine (F1.out _).mono ?_; rintro e w5 ⟨_, rfl, hb5, b5, A5, n5, c5, rfl, T5, hn5⟩; replace PR := PR.below hb5; replace Po := Po.below hb5; replace q0 := q0.below hb5; replace BB := bl_trans BB hb5; have HN5 := Lib.hid hn5; have o2 := Po.c0; have o3 := Po.c1; clear hb5 hn5)
          | (go_at_call 19; refine (F2.out _ _ _ q0.m (IsT.m ⟨_, _, _, _, rfl, T5, HN5.out⟩)).mono ?_; rintro e w6 ⟨_, rfl, hb6, b6, A6, n6, c6, rfl, T6, hn6⟩; replace PR := PR.below hb6; replace Po := Po.below hb6; replace BB := bl_trans BB hb6; have HN6 := Lib.hid hn6; have p0 := Po.c0; have p1 := Po.c1; have p2 := Po.f 0; have p3 := Po.f 1; clear hb6 hn6))
      all_goals
        have q6 : IsT ((w6.setCell ⟨go, 0, none⟩ (.bool b6)).setCell ⟨go, 1, none⟩ (.slice A6 n6 c6)) (.agg #[.bool b6, .slice A6 n6 c6]) (dq za ub) 25 := by rw [← HD.out]; exact st_T Po ⟨_, _, _, _, rfl, T6, HN6.out⟩
        replace PR := PR.st2 (g' := go) (x := .bool b6) (y := .slice A6 n6 c6) (by omega)
        replace BB := st_B BB (show w.heap.size ≤ go by omega) (.bool b6) (.slice A6 n6 c6)
        replace Po := st_P (t := b6) (B := A6) (m := n6) (d := c6) Po
        generalize ((w6.setCell ⟨go, 0, none⟩ (.bool b6)).setCell ⟨go, 1, none⟩ (.slice A6 n6 c6)) = W6 at q6 PR BB Po ⊢
        clear o0 o1 o2 o3 p0 p1 p2 p3
        have o0 := Po.c0
        have o1 := Po.c1
        have r0 := PR.c0
        have r1 := PR.c1
        have f0 := PR.f 0
        have f1 := PR.f 1
        go_wp2_with fail
        exact bodyPost_ret (v := .tuple #[.agg #[.bool b6, .slice A6 n6 c6], .int .i64 0]) (by simp [results, Try.results38, go_sem, *]) rfl (IsTE.fin q6 PR BB (by omega))

theorem cRefDiv (h : IsM w v za 24) (g : IsM w v' ub 24) (hu : ub ≠ 0) : Calls Try.prog 38 #[v, v'] w (Ans w fun w' v => IsTE w' v (dq za ub) 25 0) := by
  by_cases hz : za < 0 <;> by_cases hn : ub < 0
  · exact cRefDiv_nn h g hz hn
  · by_cases hr : za.natAbs % ub.natAbs = 0
    · exact cRefDiv_np0 h g hz (by omega) hr
    · exact cRefDiv_np1 h g hz (by omega) hr
  · by_cases hr : za.natAbs % ub.natAbs = 0
    · exact cRefDiv_pn0 h g (by omega) hn hr
    · exact cRefDiv_pn1 h g (by omega) hn hr
  · exact cRefDiv_pp h g (by omega) (by omega)
end

end Go.Proofs.Ythjgonfohjgfaaa
