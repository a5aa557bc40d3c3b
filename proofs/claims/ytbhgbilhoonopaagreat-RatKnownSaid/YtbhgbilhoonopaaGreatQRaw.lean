/- Fractions as they come, limb by limb; texts of fractions. -/
import Derived.Test.YtbhgbilhoonopaaGreatQAlloc
import Derived.Test.YtbhgbilhoonopaaGreatZY
namespace Go.Proofs.YtbhgbilhoonopaaGreat
open Go.RowKit
set_option linter.unusedVariables false
set_option maxRecDepth 100000

/-- A fraction of just these limbs. -/
def IsR (w : World) (v : Value) (b : Bool) (xs ys : List Nat) (k : Nat) : Prop := ∃ A n c B m d, v = .agg #[.bool b, .slice A n c, .slice B m d] ∧ (Rd w A n c xs ∧ n ≤ k) ∧ (Rd w B m d ys ∧ m ≤ k)
section
variable {w w' : World} {v v' : Value} {p q : Rat} {z u : Int} {k j N : Nat} {b2 b3 : Bool} {xs ys xs' ys' : List Nat}
set_option maxHeartbeats 2000000
theorem IsR.below (h : IsR w v b2 xs ys k) (hb : Below w.heap.size w w') : IsR w' v b2 xs ys k := by
  obtain ⟨A, n, c, B, m, d, rfl, ⟨h1, h2⟩, h3, h4⟩ := h
  exact ⟨A, n, c, B, m, d, rfl, ⟨h1.below hb, h2⟩, h3.below hb, h4⟩
theorem sR : Stab RBu fun v _ w => IsR w v b2 xs ys k := fun _ _ _ _ _ r _ h => h.below r
theorem IsQt.r (h : IsQt w v q k) : IsR w v (decide (q.num < 0)) (M.lims q.num.natAbs) (M.lims q.den) k := by
  obtain ⟨b, A, n, c, B, m, d, rfl, h1, rfl, h3⟩ := h
  exact ⟨A, n, c, B, m, d, rfl, ⟨h1.rd, h1.le⟩, h3.rd, h3.le⟩
theorem IsR.m (h : IsR w v b2 xs ys k) : IsQm w v (mkRat (zv b2 (M.val xs)) (dOf (M.val ys))) k := by
  obtain ⟨A, n, c, B, m, d, rfl, ⟨h1, h2⟩, h3, h4⟩ := h
  exact ⟨_, _, _, _, _, _, _, rfl, _, _, ⟨⟨_, ⟨⟨_, h1, rfl⟩, h2⟩, rfl⟩⟩, ⟨⟨_, h3, rfl⟩, h4⟩, rfl⟩
theorem cSameR0 {r : Bool} (h : IsR w v b2 xs ys k) (g : IsR w v' b3 xs' ys' j) (hk : k ≤ 1000) (hj : j ≤ 1000) (hr : r = true ↔ b2 = b3 ∧ xs = xs' ∧ ys = ys') : Calls Tryz.prog 51 #[v, v'] w (Ans w fun _ v => v = .bool r) := by
  obtain ⟨A2, n2, c2, B2, m2, d2, rfl, ⟨Tn, l1⟩, Td, l2⟩ := h
  obtain ⟨A3, n3, c3, B3, m3, d3, rfl, ⟨Sn, l3⟩, Sd, l4⟩ := g
  have BB := bl_trans (bl_alloc w (.cells #[.bool b2, .slice A2 n2 c2, .slice B2 m2 d2] 26)) (bl_alloc _ (.cells #[.bool b3, .slice A3 n3 c3, .slice B3 m3 d3] 26))
  have HN := Lib.hid (Tn.below BB)
  have HD := Lib.hid (Td.below BB)
  have HN' := Lib.hid (Sn.below BB)
  have HD' := Lib.hid (Sd.below BB)
  clear Tn Td Sn Sd
  have PA := (Bq.new w b2 A2 n2 c2 B2 m2 d2).alloc (.cells #[.bool b3, .slice A3 n3 c3, .slice B3 m3 d3] 26)
  have PB := Bq.new2 w (.cells #[.bool b2, .slice A2 n2 c2, .slice B2 m2 d2] 26) b3 A3 n3 c3 B3 m3 d3
  by_cases hst : b2 = b3
  · have e1 := PA.c1
    have e2 := PA.c2
    have g1 := PB.c1
    have g2 := PB.c2
    have e0 := PA.c0
    have g0 := PB.c0
    by_cases hn : xs = xs'
    · have HE := Lib.hid (show decide (xs = xs') = true from decide_eq_true hn)
      have HF := Lib.hid (show decide (ys = ys') = r by
        rw [Bool.eq_iff_iff, decide_eq_true_eq, hr]
        exact ⟨fun h => ⟨hst, hn, h⟩, fun h => h.2.2⟩)
      clear hr
      subst hst
      clear hn
      cases b2
      all_goals
        go_enter Tryz.func51, Tryz.ntmps51
        go_wp2_with fail
        refine (Same_any _ _ _ _ _ _ _ _ _ HN.out HN'.out (by omega) (by omega)).mono ?_
        rw [HE.out]
        rintro e w1 ⟨rfl, hb1⟩
        replace BB := bl_trans BB hb1
        replace HD := Lib.hid (HD.out.below hb1)
        replace HD' := Lib.hid (HD'.out.below hb1)
        replace PA := PA.below hb1
        replace PB := PB.below hb1
        clear e0 e1 e2 g0 g1 g2
        have e2 := PA.c2
        have g2 := PB.c2
        clear hb1 HN HN'
        go_wp2_with fail
        refine (Same_any _ _ _ _ _ _ _ _ _ HD.out HD'.out (by omega) (by omega)).mono ?_
        rw [HF.out]
        rintro e w2 ⟨rfl, hb2⟩
        replace BB := bl_trans BB hb2
        clear hb2 HD HD' PA PB e2 g2
        go_wp2_with fail
        go_ret
        exact ⟨_, rfl, BB, rfl⟩
    · have HE := Lib.hid (show decide (xs = xs') = false from decide_eq_false hn)
      obtain rfl : r = false := Bool.eq_false_iff.2 fun h => hn (hr.1 h).2.1
      subst hst
      clear hn hr
      cases b2
      all_goals
        go_enter Tryz.func51, Tryz.ntmps51
        go_wp2_with fail
        refine (Same_any _ _ _ _ _ _ _ _ _ HN.out HN'.out (by omega) (by omega)).mono ?_
        rw [HE.out]
        rintro e w1 ⟨rfl, hb1⟩
        replace BB := bl_trans BB hb1
        clear hb1 HN HN' HD HD' e0 e1 e2 g0 g1 g2 PA PB
        go_wp2_with fail
        go_ret
        exact ⟨_, rfl, BB, rfl⟩
  · obtain rfl : r = false := Bool.eq_false_iff.2 fun h => hst (hr.1 h).1
    have e0 := PA.c0
    have g0 := PB.c0
    clear hr HN HN' HD HD'
    cases b2 <;> cases b3
    · exact absurd rfl hst
    · clear hst
      go_enter Tryz.func51, Tryz.ntmps51
      go_wp2_with fail
      go_ret
      exact ⟨_, rfl, BB, rfl⟩
    · clear hst
      go_enter Tryz.func51, Tryz.ntmps51
      go_wp2_with fail
      go_ret
      exact ⟨_, rfl, BB, rfl⟩
    · exact absurd rfl hst

theorem cSameR (h : IsR w v b2 xs ys k) (g : IsR w v' b3 xs' ys' j) (hk : k ≤ 1000) (hj : j ≤ 1000) {r : Bool} (hr : r = true ↔ b2 = b3 ∧ xs = xs' ∧ ys = ys') : Calls Tryz.prog 15 #[v, v'] w (Ans w fun _ v => v = .bool r) := by
  obtain ⟨A2, n2, c2, B2, m2, d2, rfl, y1⟩ := id h
  obtain ⟨A3, n3, c3, B3, m3, d3, rfl, y2⟩ := id g
  clear y1 y2
  have BB := bl_trans (bl_alloc w (.cells #[.bool b2, .slice A2 n2 c2, .slice B2 m2 d2] 26)) (bl_alloc _ (.cells #[.bool b3, .slice A3 n3 c3, .slice B3 m3 d3] 26))
  have PA := (Bq.new w b2 A2 n2 c2 B2 m2 d2).alloc (.cells #[.bool b3, .slice A3 n3 c3, .slice B3 m3 d3] 26)
  have PB := Bq.new2 w (.cells #[.bool b2, .slice A2 n2 c2, .slice B2 m2 d2] 26) b3 A3 n3 c3 B3 m3 d3
  have HA := Lib.hid (h.below BB)
  have HB := Lib.hid (g.below BB)
  have HR := Lib.hid hr
  have e0 := PA.c0
  have e1 := PA.c1
  have e2 := PA.c2
  have g0 := PB.c0
  have g1 := PB.c1
  have g2 := PB.c2
  clear h g hr
  go_enter Tryz.func15, Tryz.ntmps15
  go_wp2_with fail
  refine (cSameR0 HA.out HB.out hk hj HR.out).mono ?_
  rintro e w1 ⟨_, rfl, hb1, rfl⟩
  replace BB := bl_trans BB hb1
  clear hb1 HA HB PA PB e0 e1 e2 g0 g1 g2
  go_wp2_with fail
  go_ret
  exact ⟨_, rfl, BB, rfl⟩

theorem cQRightI {r : Bool} (h : IsR w v b2 xs ys k) (hk : k ≤ 900) (hr : r = true ↔ RightQ b2 xs ys (mkRat (zv b2 (M.val xs)) (dOf (M.val ys)))) : Calls Tryz.prog 18 #[v] w (Ans w fun _ v => v = .bool r) := by
  obtain ⟨A, n, c, B, m, d, rfl, ⟨h1, h2⟩, h3, h4⟩ := h
  exact cQRightR h1 h3 (by omega) (by omega) hr
/-- By how great both are. -/
theorem IsQm.num_lt (h : IsQm w v q k) : q.num.natAbs < M.R ^ k := by
  obtain ⟨b, A, n, c, B, m, d, rfl, z, y, h1, h2, rfl⟩ := h
  obtain ⟨x, hx, rfl⟩ := h1.row
  refine Nat.lt_of_le_of_lt (num_le _ _) ?_
  rw [zv_abs]
  exact hx.lt
theorem IsQm.den_lt (h : IsQm w v q k) (hk : 1 ≤ k) : q.den < M.R ^ k := by
  obtain ⟨b, A, n, c, B, m, d, rfl, z, y, h1, h2, rfl⟩ := h
  refine Nat.lt_of_le_of_lt (den_le _ (dOf_pos _)) ?_
  have hR : 1 < M.R ^ k := Nat.one_lt_pow (by omega) (by rw [M.R_eq]; omega)
  have := h2.lt
  unfold dOf
  split <;> omega
end

theorem digits_no (l : List Nat) (h : M.Digits l) : 47 ∉ l := by
  intro hm
  have := h.2.2 47 hm
  omega
theorem txtZ_no (z : Int) : 47 ∉ txtZ z := by
  by_cases h : z < 0
  · rw [txtZ_neg h, List.mem_cons]
    rintro (h | h)
    · omega
    · exact digits_no _ (M.txt_digits _) h
  · rw [txtZ_pos h]
    exact digits_no _ (M.txt_digits _)
theorem cut_inj : ∀ {a b c d : List Nat}, 47 ∉ a → 47 ∉ c → a ++ 47 :: b = c ++ 47 :: d → a = c ∧ b = d
  | [], b, [], d, _, _, h => ⟨rfl, by simpa using h⟩
  | [], b, x :: c, d, _, hc, h => by
    simp at h hc
    omega
  | x :: a, b, [], d, ha, _, h => by
    simp at h ha
    omega
  | x :: a, b, y :: c, d, ha, hc, h => by
    rw [List.cons_append, List.cons_append, List.cons_eq_cons] at h
    have := cut_inj (fun e => ha (List.mem_cons_of_mem _ e)) (fun e => hc (List.mem_cons_of_mem _ e)) h.2
    exact ⟨by rw [h.1, this.1], this.2⟩
theorem txtQ_one {q : Rat} (h : q.den = 1) : txtQ q = txtZ q.num := by unfold txtQ; rw [if_pos h]
theorem txtQ_two {q : Rat} (h : q.den ≠ 1) : txtQ q = txtZ q.num ++ 47 :: M.txt q.den := by unfold txtQ; rw [if_neg h]; simp
theorem txtN_inj {a b : Nat} (h : M.txt a = M.txt b) : a = b := by
  have := txtZ_inj (z := (a : Int)) (u := (b : Int)) (by rw [txtZ_pos (by omega), txtZ_pos (by omega)]; simpa using h)
  omega
theorem txtQ_inj {p q : Rat} (h : txtQ p = txtQ q) : p = q := by
  by_cases hp : p.den = 1 <;> by_cases hq : q.den = 1
  · rw [txtQ_one hp, txtQ_one hq] at h
    exact Rat.ext (txtZ_inj h) (by rw [hp, hq])
  · rw [txtQ_one hp, txtQ_two hq] at h
    exact absurd (by rw [h]; simp) (txtZ_no p.num)
  · rw [txtQ_two hp, txtQ_one hq] at h
    exact absurd (by rw [← h]; simp) (txtZ_no q.num)
  · rw [txtQ_two hp, txtQ_two hq] at h
    have := cut_inj (txtZ_no _) (txtZ_no _) h
    exact Rat.ext (txtZ_inj this.1) (txtN_inj this.2)
theorem txtN_len {x k : Nat} (h : x < M.R ^ k) : (M.txt x).length ≤ 10 * k + 2 := by
  have := txtZ_len (z := (x : Int)) (k := k) (by simpa using h)
  rw [txtZ_pos (by omega)] at this
  simpa using this
theorem dec_txt (n : Nat) : M.dec 0 (M.txt n) = n := txtN_inj (txt_dec (M.txt_digits n))
theorem cQParseT {w : World} {q : Rat} {k : Nat} (s : ByteArray) (hs : M.bytes s = txtQ q) (hn : q.num.natAbs < M.R ^ k) (hd : q.den < M.R ^ k) (hk : k ≤ 900) (hk1 : 1 ≤ k) : Calls Tryz.prog 44 #[.string s] w (Ans w fun w' v => IsQB w.heap.size w' v q k true) := by
  have hl := M.bytes_len s
  have l1 := txtZ_len hn
  have l2 := txtN_len hd
  by_cases h : q.den = 1
  · rw [txtQ_one h] at hs
    obtain ⟨h1, h2⟩ := txtZ_is hs
    have := cQParse1 (w := w) (k := k) s (by rw [← hl, hs]; omega) (by rw [hs]; exact txtZ_no _) h1 (by rw [h2]; exact hn) hk hk1
    rw [h2, show ((q.num : Int) : Rat) = q from Eq.symm (Rat.ext (p := q) (q := ((q.num : Int) : Rat)) rfl h)] at this
    exact this
  · rw [txtQ_two h] at hs
    have hb := bytes_take s hs
    obtain ⟨h1, h2⟩ := txtZ_is hb.1
    exact cQParse2 s (by rw [← hl, hs, List.length_append, List.length_cons]; omega) hs (txtZ_no _) h1 (M.txt_digits _) q h2 (dec_txt _) h hn hd hk hk1
theorem eqQ {k l : ByteArray} {p q : Rat} (hk : M.bytes k = txtQ p) (hl : M.bytes l = txtQ q) : (k.toList == l.toList) = decide (p = q) := by
  by_cases h : p = q
  · rw [decide_eq_true h]
    have : k = l := M.bytes_inj (by rw [hk, hl, h])
    rw [this]
    simp
  · rw [decide_eq_false h, beq_eq_false_iff_ne]
    intro e
    apply h
    apply txtQ_inj
    rw [← hk, ← hl]
    rw [Lib.toList_data, Lib.toList_data] at e
    rw [show k = l from ByteArray.ext (Array.toList_inj.1 e)]
/-- Six fractions side by side. -/
def IsA6 (w : World) (v : Value) (q0 q1 q2 q3 q4 q5 : Rat) (k : Nat) : Prop := ∃ b0 A0 n0 c0 B0 m0 d0 b1 A1 n1 c1 B1 m1 d1 b2 A2 n2 c2 B2 m2 d2 b3 A3 n3 c3 B3 m3 d3 b4 A4 n4 c4 B4 m4 d4 b5 A5 n5 c5 B5 m5 d5, v = .agg #[.bool b0, .slice A0 n0 c0, .slice B0 m0 d0, .bool b1, .slice A1 n1 c1, .slice B1 m1 d1, .bool b2, .slice A2 n2 c2, .slice B2 m2 d2, .bool b3, .slice A3 n3 c3, .slice B3 m3 d3, .bool b4, .slice A4 n4 c4, .slice B4 m4 d4, .bool b5, .slice A5 n5 c5, .slice B5 m5 d5] ∧ IsQt w (.agg #[.bool b0, .slice A0 n0 c0, .slice B0 m0 d0]) q0 k ∧ IsQt w (.agg #[.bool b1, .slice A1 n1 c1, .slice B1 m1 d1]) q1 k ∧ IsQt w (.agg #[.bool b2, .slice A2 n2 c2, .slice B2 m2 d2]) q2 k ∧ IsQt w (.agg #[.bool b3, .slice A3 n3 c3, .slice B3 m3 d3]) q3 k ∧ IsQt w (.agg #[.bool b4, .slice A4 n4 c4, .slice B4 m4 d4]) q4 k ∧ IsQt w (.agg #[.bool b5, .slice A5 n5 c5, .slice B5 m5 d5]) q5 k
theorem IsA6.below {w w' : World} {v : Value} {q0 q1 q2 q3 q4 q5 : Rat} {k : Nat} (h : IsA6 w v q0 q1 q2 q3 q4 q5 k) (hb : Below w.heap.size w w') : IsA6 w' v q0 q1 q2 q3 q4 q5 k := by
  obtain ⟨b0, A0, n0, c0, B0, m0, d0, b1, A1, n1, c1, B1, m1, d1, b2, A2, n2, c2, B2, m2, d2, b3, A3, n3, c3, B3, m3, d3, b4, A4, n4, c4, B4, m4, d4, b5, A5, n5, c5, B5, m5, d5, rfl, h0, h1, h2, h3, h4, h5⟩ := h
  exact ⟨_, _, _, _, _, _, _, _, _, _, _, _, _, _, _, _, _, _, _, _, _, _, _, _, _, _, _, _, _, _, _, _, _, _, _, _, _, _, _, _, _, _, rfl, h0.below hb, h1.below hb, h2.below hb, h3.below hb, h4.below hb, h5.below hb⟩
theorem sA6 {q0 q1 q2 q3 q4 q5 : Rat} {k : Nat} : Stab RBu fun v _ w => IsA6 w v q0 q1 q2 q3 q4 q5 k := fun _ _ _ _ _ r _ h => h.below r
theorem IsQ.opened {N : Nat} {w : World} {v : Value} {q : Rat} {k : Nat} (h : IsQ N w v q k) : ∃ b A n c B m d, v = .agg #[.bool b, .slice A n c, .slice B m d] ∧ IsQt w (.agg #[.bool b, .slice A n c, .slice B m d]) q k := by
  have h' := h.t
  obtain ⟨b, A, n, c, B, m, d, rfl, _⟩ := h
  exact ⟨b, A, n, c, B, m, d, rfl, h'⟩
theorem wp_bA6Q {a : Act} {w : World} {K : Act → World → Prop} {Q : Exit → Act → World → Prop} {dst : Option Tmp} {ty : TypeId} {pos : String} {af : Array Edge} {gd : Option (Nat × Bool)} {x0 x1 x2 x3 x4 x5 : Operand} {b0 : Bool} {A0 : Option Addr} {n0 c0 : Nat} {B0 : Option Addr} {m0 d0 : Nat} {b1 : Bool} {A1 : Option Addr} {n1 c1 : Nat} {B1 : Option Addr} {m1 d1 : Nat} {b2 : Bool} {A2 : Option Addr} {n2 c2 : Nat} {B2 : Option Addr} {m2 d2 : Nat} {b3 : Bool} {A3 : Option Addr} {n3 c3 : Nat} {B3 : Option Addr} {m3 d3 : Nat} {b4 : Bool} {A4 : Option Addr} {n4 c4 : Nat} {B4 : Option Addr} {m4 d4 : Nat} {b5 : Bool} {A5 : Option Addr} {n5 c5 : Nat} {B5 : Option Addr} {m5 d5 : Nat} (h0 : a.eval x0 = .agg #[.bool b0, .slice A0 n0 c0, .slice B0 m0 d0]) (h1 : a.eval x1 = .agg #[.bool b1, .slice A1 n1 c1, .slice B1 m1 d1]) (h2 : a.eval x2 = .agg #[.bool b2, .slice A2 n2 c2, .slice B2 m2 d2]) (h3 : a.eval x3 = .agg #[.bool b3, .slice A3 n3 c3, .slice B3 m3 d3]) (h4 : a.eval x4 = .agg #[.bool b4, .slice A4 n4 c4, .slice B4 m4 d4]) (h5 : a.eval x5 = .agg #[.bool b5, .slice A5 n5 c5, .slice B5 m5 d5]) (h : K (a.put dst (.agg #[.bool b0, .slice A0 n0 c0, .slice B0 m0 d0, .bool b1, .slice A1 n1 c1, .slice B1 m1 d1, .bool b2, .slice A2 n2 c2, .slice B2 m2 d2, .bool b3, .slice A3 n3 c3, .slice B3 m3 d3, .bool b4, .slice A4 n4 c4, .slice B4 m4 d4, .bool b5, .slice A5 n5 c5, .slice B5 m5 d5])) w) : Oper.wp Tryz.prog ⟨dst, .build 56 #[(0, x0), (1, x1), (2, x2), (3, x3), (4, x4), (5, x5)], ty, pos, af, gd⟩ a w K Q := by
  unfold Oper.wp execOp
  simp only [List.map_toArray, List.map_cons, List.map_nil, h0, h1, h2, h3, h4, h5]
  go_simp
  exact h
theorem index_a6 (w : World) (b0 : Bool) (A0 : Option Addr) (n0 c0 : Nat) (B0 : Option Addr) (m0 d0 : Nat) (b1 : Bool) (A1 : Option Addr) (n1 c1 : Nat) (B1 : Option Addr) (m1 d1 : Nat) (b2 : Bool) (A2 : Option Addr) (n2 c2 : Nat) (B2 : Option Addr) (m2 d2 : Nat) (b3 : Bool) (A3 : Option Addr) (n3 c3 : Nat) (B3 : Option Addr) (m3 d3 : Nat) (b4 : Bool) (A4 : Option Addr) (n4 c4 : Nat) (B4 : Option Addr) (m4 d4 : Nat) (b5 : Bool) (A5 : Option Addr) (n5 c5 : Nat) (B5 : Option Addr) (m5 d5 : Nat) : (Instr.index 56 (.agg #[.bool b0, .slice A0 n0 c0, .slice B0 m0 d0, .bool b1, .slice A1 n1 c1, .slice B1 m1 d1, .bool b2, .slice A2 n2 c2, .slice B2 m2 d2, .bool b3, .slice A3 n3 c3, .slice B3 m3 d3, .bool b4, .slice A4 n4 c4, .slice B4 m4 d4, .bool b5, .slice A5 n5 c5, .slice B5 m5 d5]) (.int .i64 0)).run Tryz.prog w = .ok (.agg #[.bool b0, .slice A0 n0 c0, .slice B0 m0 d0]) w ∧ (Instr.index 56 (.agg #[.bool b0, .slice A0 n0 c0, .slice B0 m0 d0, .bool b1, .slice A1 n1 c1, .slice B1 m1 d1, .bool b2, .slice A2 n2 c2, .slice B2 m2 d2, .bool b3, .slice A3 n3 c3, .slice B3 m3 d3, .bool b4, .slice A4 n4 c4, .slice B4 m4 d4, .bool b5, .slice A5 n5 c5, .slice B5 m5 d5]) (.int .i64 1)).run Tryz.prog w = .ok (.agg #[.bool b1, .slice A1 n1 c1, .slice B1 m1 d1]) w ∧ (Instr.index 56 (.agg #[.bool b0, .slice A0 n0 c0, .slice B0 m0 d0, .bool b1, .slice A1 n1 c1, .slice B1 m1 d1, .bool b2, .slice A2 n2 c2, .slice B2 m2 d2, .bool b3, .slice A3 n3 c3, .slice B3 m3 d3, .bool b4, .slice A4 n4 c4, .slice B4 m4 d4, .bool b5, .slice A5 n5 c5, .slice B5 m5 d5]) (.int .i64 2)).run Tryz.prog w = .ok (.agg #[.bool b2, .slice A2 n2 c2, .slice B2 m2 d2]) w ∧ (Instr.index 56 (.agg #[.bool b0, .slice A0 n0 c0, .slice B0 m0 d0, .bool b1, .slice A1 n1 c1, .slice B1 m1 d1, .bool b2, .slice A2 n2 c2, .slice B2 m2 d2, .bool b3, .slice A3 n3 c3, .slice B3 m3 d3, .bool b4, .slice A4 n4 c4, .slice B4 m4 d4, .bool b5, .slice A5 n5 c5, .slice B5 m5 d5]) (.int .i64 3)).run Tryz.prog w = .ok (.agg #[.bool b3, .slice A3 n3 c3, .slice B3 m3 d3]) w ∧ (Instr.index 56 (.agg #[.bool b0, .slice A0 n0 c0, .slice B0 m0 d0, .bool b1, .slice A1 n1 c1, .slice B1 m1 d1, .bool b2, .slice A2 n2 c2, .slice B2 m2 d2, .bool b3, .slice A3 n3 c3, .slice B3 m3 d3, .bool b4, .slice A4 n4 c4, .slice B4 m4 d4, .bool b5, .slice A5 n5 c5, .slice B5 m5 d5]) (.int .i64 4)).run Tryz.prog w = .ok (.agg #[.bool b4, .slice A4 n4 c4, .slice B4 m4 d4]) w ∧ (Instr.index 56 (.agg #[.bool b0, .slice A0 n0 c0, .slice B0 m0 d0, .bool b1, .slice A1 n1 c1, .slice B1 m1 d1, .bool b2, .slice A2 n2 c2, .slice B2 m2 d2, .bool b3, .slice A3 n3 c3, .slice B3 m3 d3, .bool b4, .slice A4 n4 c4, .slice B4 m4 d4, .bool b5, .slice A5 n5 c5, .slice B5 m5 d5]) (.int .i64 5)).run Tryz.prog w = .ok (.agg #[.bool b5, .slice A5 n5 c5, .slice B5 m5 d5]) w := by
  refine ⟨?_, ?_, ?_, ?_, ?_, ?_⟩ <;> simp [Instr.index, run_underlying Tryz.underlying56, asIntOf, go_sem]
theorem isR_nil (w : World) : IsR w (.agg #[.bool false, .slice none 0 0, .slice none 0 0]) false [] [] 1 := ⟨_, _, _, _, _, _, rfl, ⟨(OwK.nil_ w 0).rd, by omega⟩, (OwK.nil_ w 0).rd, by omega⟩
theorem isQm_nil (w : World) : IsQm w (.agg #[.bool false, .slice none 0 0, .slice none 0 0]) 0 1 := by
  have h := (isR_nil w).m
  rw [show mkRat (zv false (M.val [])) (dOf (M.val [])) = 0 by decide +kernel] at h
  exact h
end Go.Proofs.YtbhgbilhoonopaaGreat
