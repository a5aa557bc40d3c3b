/- rat.Text. -/
import Derived.Test.YtbhgbilhoonopaaGreatQSame
namespace Go.Proofs.YtbhgbilhoonopaaGreat
open Go.RowKit
set_option linter.unusedVariables false
set_option maxRecDepth 100000

/-- A fraction's text. -/
def txtQ (p : Rat) : List Nat := if p.den = 1 then txtZ p.num else txtZ p.num ++ [47] ++ M.txt p.den
theorem bytes_app (s r : ByteArray) : M.bytes (s ++ r) = M.bytes s ++ M.bytes r := by
  unfold M.bytes
  obtain ⟨⟨a⟩⟩ := s
  obtain ⟨⟨b⟩⟩ := r
  simp
theorem txtZ_len {z : Int} {k : Nat} (hz : z.natAbs < M.R ^ k) : (txtZ z).length ≤ 10 * k + 2 := by
  have h1 := txt_len hz
  by_cases hn : z < 0
  · rw [txtZ_neg hn, List.length_cons]; omega
  · rw [txtZ_pos hn]; omega
section
variable {a : Act} {w : World} {K : Act → World → Prop} {Q : Exit → Act → World → Prop} {dst : Option Tmp} {ty : TypeId} {pos : String} {af : Array Edge} {gd : Option (Nat × Bool)} {x y : Operand} {v v' : Value} {l1 l2 : List Nat}
theorem wp_addSS (hx : a.eval x = v) (h1 : IsS v l1) (hy : a.eval y = v') (h2 : IsS v' l2) (n1 : l1.length ≤ 50000) (n2 : l2.length ≤ 50000) (h : ∀ r, IsS r (l1 ++ l2) → K (a.put dst r) w) {T' : TypeId} : Oper.wp Tryz.prog ⟨dst, .binOp .add 9 x y T', ty, pos, af, gd⟩ a w K Q := by
  obtain ⟨s1, rfl, e1⟩ := h1
  obtain ⟨s2, rfl, e2⟩ := h2
  have z1 : s1.size ≤ 50000 := by rw [← M.bytes_len, e1]; exact n1
  have z2 : s2.size ≤ 50000 := by rw [← M.bytes_len, e2]; exact n2
  unfold Oper.wp execOp
  simp only [hx, hy]
  go_simp
  rw [if_neg (by omega)]
  exact h _ ⟨_, rfl, by rw [bytes_app, e1, e2]⟩
end
section
variable {w : World} {v : Value} {p : Rat} {x k N : Nat}
set_option maxHeartbeats 2000000
theorem cTextN (h : IsN w v x k) (hk : k ≤ 1000) : Calls Tryz.prog 85 #[v] w (Ans w fun _ v => IsS v (M.txt x)) := by
  obtain ⟨A, n, c, rfl, h⟩ := h
  refine (textN h hk).mono ?_
  rintro e w' ⟨s, rfl, hs, hb⟩
  exact ⟨_, rfl, hb, s, rfl, hs⟩

theorem cText1c (h : IsQ N w v p k) (hk : k ≤ 900) : Calls Tryz.prog 82 #[v] w (Ans w fun _ v => IsS v (txtQ p)) := by
  have hn := h.t.num_lt
  have hd := h.t.den_lt
  have L1 := txtZ_len hn
  have L2 := txt_len hd
  obtain ⟨b2, A2, n2, c2, B2, m2, d2, rfl, Z, O, l⟩ := h
  have PA := Bq.new w b2 A2 n2 c2 B2 m2 d2
  have BB := bl_alloc w (.cells #[.bool b2, .slice A2 n2 c2, .slice B2 m2 d2] 26)
  have ZA : IsM (w.alloc (.cells #[.bool b2, .slice A2 n2 c2, .slice B2 m2 d2] 26)) (.agg #[.bool b2, .slice A2 n2 c2]) p.num k := ⟨_, _, _, _, rfl, Z.zm.below BB⟩
  have ND : Nm (w.alloc (.cells #[.bool b2, .slice A2 n2 c2, .slice B2 m2 d2] 26)) B2 m2 d2 p.den k := Nm.below ⟨⟨_, O.rd, M.val_lims _⟩, l⟩ BB
  have x0 := PA.c0
  have x1 := PA.c1
  have x2 := PA.c2
  clear Z O l hn hd
  by_cases h1 : p.den = 1
  · have HX := Lib.hid (show txtQ p = txtZ p.num from if_pos h1)
    have H1 := Lib.hid (show decide (p.den = 1) = true from decide_eq_true h1)
    rw [HX.out]
    clear h1
    go_enter Tryz.func82, Tryz.ntmps82
    go_wp2_with fail
    refine (cIsOne ⟨_, _, _, rfl, ND⟩ (by omega)).mono ?_
    rw [H1.out]
    rintro e w1 ⟨_, rfl, hb1, rfl⟩
    replace BB := bl_trans BB hb1
    replace PA := PA.below hb1
    replace ZA := ZA.below hb1
    clear hb1 x0 x1 x2 ND
    have x0 := PA.c0
    have x1 := PA.c1
    go_wp2_with fail
    refine (cText ZA (by omega)).mono ?_
    rintro e w2 ⟨_, rfl, hb2, hs⟩
    replace BB := bl_trans BB hb2
    obtain ⟨s, rfl, hs⟩ := hs
    have HS := Lib.hid hs
    clear hb2 x0 x1 ZA PA hs
    go_wp2_with fail
    go_ret
    exact ⟨_, rfl, BB, s, rfl, HS.out⟩
  · have HX := Lib.hid (show txtQ p = txtZ p.num ++ [47] ++ M.txt p.den from if_neg h1)
    have H1 := Lib.hid (show decide (p.den = 1) = false from decide_eq_false h1)
    rw [HX.out]
    clear h1
    go_enter Tryz.func82, Tryz.ntmps82
    go_wp2_with fail
    refine (cIsOne ⟨_, _, _, rfl, ND⟩ (by omega)).mono ?_
    rw [H1.out]
    rintro e w1 ⟨_, rfl, hb1, rfl⟩
    replace BB := bl_trans BB hb1
    replace PA := PA.below hb1
    replace ZA := ZA.below hb1
    replace ND := ND.below hb1
    clear hb1 x0 x1 x2
    go_wp2_with fail
    refine wp_region_list (Ext := RB) (Rel := RBu) [fun v _ _ => v = .pointer (some ⟨w.heap.size, 0, none⟩), fun v _ _ => v = .agg #[.bool b2, .slice A2 n2 c2], fun v _ _ => IsS v (txtZ p.num), fun v _ _ => IsS v (txtZ p.num ++ [47]), fun v _ _ => v = .pointer (some ⟨w.heap.size, 2, none⟩), fun v _ _ => v = .slice B2 m2 d2, fun v _ _ => IsS v (M.txt p.den), fun v _ _ => IsS v (txtZ p.num ++ [47] ++ M.txt p.den), fun v _ _ => IsS v (txtZ p.num ++ [47] ++ M.txt p.den)] (n := 9) (by kernel_rfl) rfl (by kernel_rfl) (by kernel_rfl) (by kernel_rfl) (by kernel_rfl) (by kernel_rfl) rb_refl rb_trans ⟨sC, ⟨sC, ⟨sS, ⟨sS, ⟨sC, ⟨sC, ⟨sS, ⟨sS, ⟨sS, trivial⟩⟩⟩⟩⟩⟩⟩⟩⟩ ?_ ?_
    · refine ⟨⟨⟨⟨⟨⟨⟨⟨⟨trivial, ?_⟩, ?_⟩, ?_⟩, ?_⟩, ?_⟩, ?_⟩, ?_⟩, ?_⟩, ?_⟩
      · refine rs_plain rfl rfl fun a wr S => ?_
        have X := undrew S.ext
        exact wp_qf0 (ev_of ((S.old 1 (by kernel_rfl)).trans rfl)) (done (by kernel_rfl) rbu_refl rfl)
      · refine rs_plain rfl rfl fun a wr S => ?_
        have X := undrew S.ext
        obtain ⟨v0, e0, h0⟩ := S.got 0 (by kernel_rfl)
        exact wp_qN ((ev_of (e0 9 (by kernel_rfl))).trans h0) (PA.below X) (done (by kernel_rfl) rbu_refl rfl)
      · refine rs_plain rfl rfl fun a wr S => ?_
        have X := undrew S.ext
        obtain ⟨v1, e1, h1⟩ := S.got 1 (by kernel_rfl)
        exact st_call cf_big_Text (args1 ((ev_of (e1 10 (by kernel_rfl))).trans h1)) (by kernel_rfl) rb (cText (ZA.below X) (by omega)) (fun _ _ _ h => h)
      · refine rs_plain rfl rfl fun a wr S => ?_
        have X := undrew S.ext
        obtain ⟨v2, e2, h2⟩ := S.got 2 (by kernel_rfl)
        exact wp_addSS (ev_of (e2 11 (by kernel_rfl))) (show IsS _ _ from h2) rfl (show IsS _ [47] from ⟨_, rfl, rfl⟩) (by first | omega | (simp only [List.length_append, List.length_cons, List.length_nil]; omega)) (by first | omega | (simp only [List.length_cons, List.length_nil]; omega)) (fun r hr => done (by kernel_rfl) rbu_refl hr)
      · refine rs_plain rfl rfl fun a wr S => ?_
        have X := undrew S.ext
        exact wp_qf1 (ev_of ((S.old 1 (by kernel_rfl)).trans rfl)) (done (by kernel_rfl) rbu_refl rfl)
      · refine rs_plain rfl rfl fun a wr S => ?_
        have X := undrew S.ext
        obtain ⟨v4, e4, h4⟩ := S.got 4 (by kernel_rfl)
        exact wp_qD ((ev_of (e4 13 (by kernel_rfl))).trans h4) (PA.below X) (done (by kernel_rfl) rbu_refl rfl)
      · refine rs_plain rfl rfl fun a wr S => ?_
        have X := undrew S.ext
        obtain ⟨v5, e5, h5⟩ := S.got 5 (by kernel_rfl)
        exact st_call cf_nat_Text (args1 ((ev_of (e5 14 (by kernel_rfl))).trans h5)) (by kernel_rfl) rb (cTextN ⟨_, _, _, rfl, ND.below X⟩ (by omega)) (fun _ _ _ h => h)
      · refine rs_plain rfl rfl fun a wr S => ?_
        have X := undrew S.ext
        obtain ⟨v3, e3, h3⟩ := S.got 3 (by kernel_rfl)
        obtain ⟨v6, e6, h6⟩ := S.got 6 (by kernel_rfl)
        exact wp_addSS (ev_of (e3 12 (by kernel_rfl))) (show IsS _ _ from h3) (ev_of (e6 15 (by kernel_rfl))) (show IsS _ _ from h6) (by first | omega | (simp only [List.length_append, List.length_cons, List.length_nil]; omega)) (by first | omega | (simp only [List.length_cons, List.length_nil]; omega)) (fun r hr => done (by kernel_rfl) rbu_refl hr)
      · refine rs_plain rfl rfl fun a wr S => ?_
        have X := undrew S.ext
        obtain ⟨v7, e7, h7⟩ := S.got 7 (by kernel_rfl)
        exact wp_as (ev_of (e7 16 (by kernel_rfl))) (done (by kernel_rfl) rbu_refl h7)
    · intro fa w2 hR hv
      replace hR := undrew hR
      have f0 : fa 0 = .pointer (some ⟨w.heap.size, 0, none⟩) := (hvc (hv 0 (by omega))).elim fun _ h => h
      have f1 : fa 1 = .agg #[.bool b2, .slice A2 n2 c2] := (hvc (hv 1 (by omega))).elim fun _ h => h
      have f4 : fa 4 = .pointer (some ⟨w.heap.size, 2, none⟩) := (hvc (hv 4 (by omega))).elim fun _ h => h
      have f5 : fa 5 = .slice B2 m2 d2 := (hvc (hv 5 (by omega))).elim fun _ h => h
      obtain ⟨st, f8, hst⟩ := (show IsS _ _ from (hvc (hv 8 (by omega))).elim fun _ h => h)
      simp only [putFn, Act.put, List.setIfInBounds_toArray, List.set_cons_zero, List.set_cons_succ, f0, f1, f4, f5, f8]
      have HST := Lib.hid hst
      replace BB := bl_trans BB hR
      clear hR hv hst PA ZA ND
      go_wp2_with fail
      go_ret
      exact ⟨_, rfl, BB, st, rfl, HST.out⟩

theorem cQText (h : IsQm w v p k) (hk : k ≤ 900) (hk1 : 1 ≤ k) : Calls Tryz.prog 37 #[v] w (Ans w fun _ v => IsS v (txtQ p)) := by
  obtain ⟨b2, A2, n2, c2, B2, m2, d2, rfl, yy⟩ := id h
  clear yy
  have PA := Bq.new w b2 A2 n2 c2 B2 m2 d2
  have BB := bl_alloc w (.cells #[.bool b2, .slice A2 n2 c2, .slice B2 m2 d2] 26)
  have HA := Lib.hid (h.below BB)
  have x0 := PA.c0
  have x1 := PA.c1
  have x2 := PA.c2
  clear h
  go_enter Tryz.func37, Tryz.ntmps37
  go_wp2_with fail
  refine (madeS_rat_Text__1 (Post := fun v => IsS v (txtQ p)) HA.out (by omega) hk1 fun W u hW hsz hu => cText1c hu (by omega)).mono ?_
  rintro e w1 ⟨_, rfl, hb1, hs⟩
  obtain ⟨s, rfl, hs⟩ := hs
  have HS := Lib.hid hs
  replace BB := bl_trans BB hb1
  clear hb1 PA x0 x1 x2 HA hs
  go_wp2_with fail
  go_ret
  exact ⟨_, rfl, BB, s, rfl, HS.out⟩
end

end Go.Proofs.YtbhgbilhoonopaaGreat
