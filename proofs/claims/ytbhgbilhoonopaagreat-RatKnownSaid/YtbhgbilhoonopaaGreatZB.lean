/- big.Neg, Sub, Sign, Cmp, Right: one number, or two. -/
import Derived.Test.YtbhgbilhoonopaaGreatZSum
import Derived.Lib.Zigzag
namespace Go.Proofs.YtbhgbilhoonopaaGreat
open Go.RowKit
set_option linter.unusedVariables false
set_option maxRecDepth 100000

section
variable {w : World} {s t : Bool} {A B : Option Addr} {n c m d x y k j : Nat} {z u : Int}

theorem plusZ (h : Zm w s A n c z k) (g : Zm w t B m d u j) (hk : k ≤ 1000) (hj : j ≤ 1000) : Calls Tryz.prog 138 #[.agg #[.bool s, .slice A n c], .agg #[.bool t, .slice B m d]] w (GivZ w (z + u) (max k j + 1)) := by
  obtain ⟨x, h', rfl⟩ := h.row
  obtain ⟨y, g', rfl⟩ := g.row
  cases s <;> cases t
  · have := plus_false h' g' hk hj
    rw [show zv false (x + y) = zv false x + zv false y by simp only [zv_false]; omega] at this
    exact this
  · by_cases hle : y ≤ x
    · have := minus_false h' g' hk hj hle
      rw [show zv false (x - y) = zv false x + zv true y by simp only [zv_false, zv_true]; omega] at this
      exact this
    · have := under_false h' g' hk hj (by omega)
      rw [show zv true (y - x) = zv false x + zv true y by simp only [zv_false, zv_true]; omega] at this
      exact this
  · by_cases hle : y ≤ x
    · have := minus_true h' g' hk hj hle
      rw [show zv true (x - y) = zv true x + zv false y by simp only [zv_false, zv_true]; omega] at this
      exact this
    · have := under_true h' g' hk hj (by omega)
      rw [show zv false (y - x) = zv true x + zv false y by simp only [zv_false, zv_true]; omega] at this
      exact this
  · have := plus_true h' g' hk hj
    rw [show zv true (x + y) = zv true x + zv true y by simp only [zv_true]; omega] at this
    exact this

theorem timesZ (h : Zm w s A n c z k) (g : Zm w t B m d u j) (hk : k ≤ 1000) (hj : j ≤ 1000) (hm : min k j < 40) : Calls Tryz.prog 109 #[.agg #[.bool s, .slice A n c], .agg #[.bool t, .slice B m d]] w (GivZ w (z * u) (k + j)) := by
  obtain ⟨x, h', rfl⟩ := h.row
  obtain ⟨y, g', rfl⟩ := g.row
  cases s <;> cases t
  · have := times_false_false h' g' hk hj hm
    rw [show zv false (x * y) = zv false x * zv false y by simp only [zv_false, Int.natCast_mul]] at this
    exact this
  · have := times_false_true h' g' hk hj hm
    rw [show zv true (x * y) = zv false x * zv true y by simp only [zv_false, zv_true, Int.natCast_mul, Int.mul_neg]] at this
    exact this
  · have := times_true_false h' g' hk hj hm
    rw [show zv true (x * y) = zv true x * zv false y by simp only [zv_false, zv_true, Int.natCast_mul, Int.neg_mul]] at this
    exact this
  · have := times_true_true h' g' hk hj hm
    rw [show zv false (x * y) = zv true x * zv true y by simp only [zv_false, zv_true, Int.natCast_mul, Int.neg_mul_neg]] at this
    exact this

set_option maxHeartbeats 400000 in
theorem negZ (h : Zm w s A n c z k) (hk : k ≤ 1000) : Calls Tryz.prog 59 #[.agg #[.bool s, .slice A n c]] w (GivZ w (-z) k) := by
  obtain ⟨x, h', rfl⟩ := h.row
  rw [← zv_not]
  have X := (h'.alloc (.cells #[.bool s, .slice A n c] 24)).alloc (.cells #[.bool false, .slice none 0 0] 24)
  have PR := Bz.new2 w (.cells #[.bool s, .slice A n c] 24) false none 0 0
  have BB := bl_trans (bl_alloc w (.cells #[.bool s, .slice A n c] 24)) (bl_alloc _ (.cells #[.bool false, .slice none 0 0] 24))
  go_enter Tryz.func59, Tryz.ntmps59
  go_wp2_with fail
  refine (ofZ _ X hk).mono ?_
  rintro e w1 ⟨b1, A1, n1, c1, rfl, Z, hb1⟩
  replace PR := PR.below hb1
  replace BB := bl_trans BB hb1
  have r0 := PR.c0
  have r1 := PR.c1
  have f0 := PR.f 0
  have f1 := PR.f 1
  clear hb1 X
  go_wp2_with fail
  exact bodyPost_ret (v := .agg #[.bool b1, .slice A1 n1 c1]) (by simp [results, Tryz.results59, go_sem, *]) rfl ⟨_, _, _, _, rfl, fin_z Z BB (by omega) (by simp) _ _⟩

/-- On which side of 0. -/
def sgn (z : Int) : Int := if z < 0 then -1 else if z = 0 then 0 else 1
theorem sgn_neg {z : Int} (h : z < 0) : sgn z = -1 := by unfold sgn; rw [if_pos h]
theorem sgn_zero {z : Int} (h : z = 0) : sgn z = 0 := by unfold sgn; rw [if_neg (by omega), if_pos h]
theorem sgn_pos {z : Int} (h : 0 < z) : sgn z = 1 := by unfold sgn; rw [if_neg (by omega), if_neg (by omega)]

set_option maxHeartbeats 400000 in
theorem signZ (h : Zm w s A n c z k) (hk : k ≤ 1000) : Calls Tryz.prog 72 #[.agg #[.bool s, .slice A n c]] w fun e w' => e = .returned (.int .i64 (sgn z)) ∧ Below w.heap.size w w' := by
  obtain ⟨x, h', rfl⟩ := h.row
  have X := h'.alloc (.cells #[.bool s, .slice A n c] 24)
  have PA := Bz.new w s A n c
  have BB := bl_alloc w (.cells #[.bool s, .slice A n c] 24)
  by_cases h0 : x = 0
  · subst h0
    cases s
    all_goals
      go_enter Tryz.func72, Tryz.ntmps72
      go_wp2_with fail
      refine (cmpN X (nilN _) hk (by omega)).mono ?_
      rw [cmpV_eq]
      rintro e w1 ⟨rfl, hb1⟩
      replace BB := bl_trans BB hb1
      have a0 := (PA.below hb1).c0
      clear hb1 X h h'
      go_wp2_with fail
      go_ret
      exact ⟨ret_int (by rfl), BB⟩
  · cases s
    all_goals
      go_enter Tryz.func72, Tryz.ntmps72
      go_wp2_with fail
      refine (cmpN X (nilN _) hk (by omega)).mono ?_
      rw [cmpV_gt (Nat.pos_of_ne_zero h0)]
      rintro e w1 ⟨rfl, hb1⟩
      replace BB := bl_trans BB hb1
      have a0 := (PA.below hb1).c0
      have g1 : sgn (zv true x) = -1 := sgn_neg (by rw [zv_true]; omega)
      have g2 : sgn (zv false x) = 1 := sgn_pos (by rw [zv_false]; omega)
      have G1 := Lib.hid g1
      have G2 := Lib.hid g2
      clear hb1 X h h' h0 g1 g2
      go_wp2_with fail
      go_ret
      first
        | exact ⟨ret_int G1.out.symm, BB⟩
        | exact ⟨ret_int G2.out.symm, BB⟩
end

end Go.Proofs.YtbhgbilhoonopaaGreat

/- big.Cmp, Right, From, Small. -/
namespace Go.Proofs.YtbhgbilhoonopaaGreat
open Go.RowKit
set_option linter.unusedVariables false
set_option maxRecDepth 100000

def cmpI (z u : Int) : Int := if z < u then -1 else if z = u then 0 else 1
theorem cmpI_lt {z u : Int} (h : z < u) : cmpI z u = -1 := if_pos h
theorem cmpI_eq {z u : Int} (h : z = u) : cmpI z u = 0 := by unfold cmpI; rw [if_neg (by omega), if_pos h]
theorem cmpI_gt {z u : Int} (h : u < z) : cmpI z u = 1 := by unfold cmpI; rw [if_neg (by omega), if_neg (by omega)]
theorem sgn_cases (z : Int) : (z < 0 ∧ sgn z = -1) ∨ (z = 0 ∧ sgn z = 0) ∨ (0 < z ∧ sgn z = 1) := by
  rcases Int.lt_trichotomy z 0 with h | h | h
  · exact .inl ⟨h, sgn_neg h⟩
  · exact .inr (.inl ⟨h, sgn_zero h⟩)
  · exact .inr (.inr ⟨h, sgn_pos h⟩)
theorem cmpI_neg (x y : Nat) : cmpI (-(x : Int)) (-(y : Int)) = cmpV y x := by
  rcases Nat.lt_trichotomy x y with h | h | h
  · rw [cmpI_gt (by omega), cmpV_gt h]
  · subst h; rw [cmpI_eq rfl, cmpV_eq]
  · rw [cmpI_lt (by omega), cmpV_lt h]
theorem cmpI_nat (x y : Nat) : cmpI (x : Int) (y : Int) = cmpV x y := by
  rcases Nat.lt_trichotomy x y with h | h | h
  · rw [cmpI_lt (by omega), cmpV_lt h]
  · subst h; rw [cmpI_eq rfl, cmpV_eq]
  · rw [cmpI_gt (by omega), cmpV_gt h]

section
variable {w : World} {s t : Bool} {A B : Option Addr} {n c m d x y k j : Nat} {z u : Int}

set_option maxHeartbeats 400000 in
theorem compareI (p q : Int) (w : World) : Calls Tryz.prog 115 #[.int .i64 p, .int .i64 q] w fun e w' => e = .returned (.int .i64 (cmpI p q)) ∧ w = w' := by
  rcases Int.lt_trichotomy p q with h | h | h
  · rw [cmpI_lt h]
    go_enter Tryz.func115, Tryz.ntmps115
    go_wp2
    go_ret
    exact ⟨rfl, rfl⟩
  · rw [cmpI_eq h]
    subst h
    go_enter Tryz.func115, Tryz.ntmps115
    go_wp2
    go_ret
    exact ⟨rfl, rfl⟩
  · rw [cmpI_gt h]
    have h' : ¬ p < q := by omega
    go_enter Tryz.func115, Tryz.ntmps115
    go_wp2
    go_ret
    exact ⟨rfl, rfl⟩

theorem signZ' {p : Int} (h : Zm w s A n c z k) (hk : k ≤ 1000) (hp : sgn z = p) : Calls Tryz.prog 72 #[.agg #[.bool s, .slice A n c]] w fun e w' => e = .returned (.int .i64 p) ∧ Below w.heap.size w w' := by
  rw [← hp]
  exact signZ h hk

theorem cmp_ne {p q : Int} (hp : (z < 0 ∧ p = -1) ∨ (z = 0 ∧ p = 0) ∨ (0 < z ∧ p = 1)) (hq : (u < 0 ∧ q = -1) ∨ (u = 0 ∧ q = 0) ∨ (0 < u ∧ q = 1)) (h : p ≠ q) : cmpI p q = cmpI z u := by
  rcases Int.lt_or_gt_of_ne h with h | h
  · rw [cmpI_lt h, cmpI_lt (by omega)]
  · rw [cmpI_gt h, cmpI_gt (by omega)]

set_option maxHeartbeats 2000000 in
theorem cmpZ (h : Zm w s A n c z k) (g : Zm w t B m d u j) (hk : k ≤ 1000) (hj : j ≤ 1000) : Calls Tryz.prog 71 #[.agg #[.bool s, .slice A n c], .agg #[.bool t, .slice B m d]] w fun e w' => e = .returned (.int .i64 (cmpI z u)) ∧ Below w.heap.size w w' := by
  have X := ((h.alloc (.cells #[.bool s, .slice A n c] 24)).alloc (.cells #[.bool t, .slice B m d] 24)).below (Below.drew (Below.refl _ _))
  have Y := ((g.alloc (.cells #[.bool s, .slice A n c] 24)).alloc (.cells #[.bool t, .slice B m d] 24)).below (Below.drew (Below.refl _ _))
  have PA := ((Bz.new w s A n c).alloc (.cells #[.bool t, .slice B m d] 24)).drew
  have PB := (Bz.new2 w (.cells #[.bool s, .slice A n c] 24) t B m d).drew
  have BB := Below.drew (bl_trans (bl_alloc w (.cells #[.bool s, .slice A n c] 24)) (bl_alloc _ (.cells #[.bool t, .slice B m d] 24)))
  have hp := sgn_cases z
  have hq := sgn_cases u
  have hc : ∀ p q : Int, sgn z = p → sgn u = q → p ≠ q → cmpI p q = cmpI z u := by
    intro p q h1 h2 h3
    rw [h1] at hp
    rw [h2] at hq
    exact cmp_ne hp hq h3
  have hn : z < 0 → u < 0 → cmpI z u = cmpV u.natAbs z.natAbs := by
    intro h1 h2
    rw [← cmpI_neg]
    congr 1 <;> omega
  have hm : ¬ z < 0 → ¬ u < 0 → cmpI z u = cmpV z.natAbs u.natAbs := by
    intro h1 h2
    rw [← cmpI_nat]
    congr 1 <;> omega
  have HC := Lib.hid hc
  have HN := Lib.hid hn
  have HM := Lib.hid hm
  clear hc hn hm h g
  rcases hp with ⟨hz, hp⟩ | ⟨hz, hp⟩ | ⟨hz, hp⟩ <;> rcases hq with ⟨hu, hq⟩ | ⟨hu, hq⟩ | ⟨hu, hq⟩
  all_goals
    have HZ := Lib.hid hz
    have HU := Lib.hid hu
    have HP := Lib.hid hp
    have HQ := Lib.hid hq
    clear hz hu hp hq
    go_enter Tryz.func71, Tryz.ntmps71
    go_wp2_with fail
    go_region_held3 (fun w' => w'.cell? ⟨w.heap.size, 0, none⟩ = some (.bool s) ∧ w'.cell? ⟨w.heap.size, 1, none⟩ = some (.slice A n c) ∧ w'.cell? ⟨w.heap.size + 1, 0, none⟩ = some (.bool t) ∧ w'.cell? ⟨w.heap.size + 1, 1, none⟩ = some (.slice B m d))
      (first | exact ⟨Q2A.c0, Q2A.c1, Q2B.c0, Q2B.c1⟩ | exact ⟨QA.c0, QA.c1, QB.c0, QB.c1⟩ | exact ⟨PA.c0, PA.c1, PB.c0, PB.c1⟩)
      (first
        | (go_at_call 72; ((with_reducible refine (signZ' X hk HP.out).mono ?_); rintro e w1 ⟨rfl, hb1⟩; have QA := PA.below hb1; have QB := PB.below hb1; replace Y := Y.below hb1; have X1 := X.below hb1; replace BB := bl_trans BB hb1; clear hb1))
        | (go_at_call 72; refine (signZ' Y hj HQ.out).mono ?_; rintro e w2 ⟨rfl, hb2⟩; have Q2A := QA.below hb2; have Q2B := QB.below hb2; replace Y := Y.below hb2; have X2 := X1.below hb2; replace BB := bl_trans BB hb2; clear hb2))
    have a0 := Q2A.c0
    have a1 := Q2A.c1
    have b0 := Q2B.c0
    have b1 := Q2B.c1
    clear PA PB QA QB Q2A Q2B X X1
    go_wp2_with fail
    first
      | (go_at_call 115
         refine (compareI _ _ _).mono ?_
         rw [HC.out _ _ HP.out HQ.out (by decide)]
         rintro e w' ⟨rfl, rfl⟩
         go_wp2_with fail
         go_ret
         exact ⟨rfl, BB⟩)
      | (go_at_call 104
         (with_reducible refine (cmpN Y.nm X2.nm hj hk).mono ?_)
         rw [← HN.out HZ.out HU.out]
         rintro e w3 ⟨rfl, hb3⟩
         replace BB := bl_trans BB hb3
         clear hb3
         go_wp2_with fail
         go_ret
         exact ⟨rfl, BB⟩)
      | (go_at_call 104
         (with_reducible refine (cmpN X2.nm Y.nm hk hj).mono ?_)
         rw [← HM.out (by have := HZ.out; omega) (by have := HU.out; omega)]
         rintro e w3 ⟨rfl, hb3⟩
         replace BB := bl_trans BB hb3
         clear hb3
         go_wp2_with fail
         go_ret
         exact ⟨rfl, BB⟩)

end

end Go.Proofs.YtbhgbilhoonopaaGreat

/- big.From, Small. -/
namespace Go.Proofs.YtbhgbilhoonopaaGreat
open Go.RowKit
set_option linter.unusedVariables false
set_option maxRecDepth 100000

theorem xor_zero (v : Int) (h0 : 0 ≤ v) (h1 : v < 9223372036854775808) : bits .xor .i64 v 0 = v := by
  obtain ⟨x, rfl⟩ : ∃ x : Nat, v = (x : Int) := ⟨v.toNat, by omega⟩
  show IntKind.i64.wrap ((BitVec.ofInt 64 (x : Int) ^^^ BitVec.ofInt 64 0).toNat : Int) = _
  have h2 : (BitVec.ofInt 64 (x : Int)).toNat = x := by
    rw [BitVec.ofInt_natCast, BitVec.toNat_ofNat]; exact Nat.mod_eq_of_lt (by omega)
  have h3 : (BitVec.ofInt 64 0).toNat = 0 := by decide
  rw [BitVec.toNat_xor, h2, h3, Nat.xor_zero, IntKind.wrap_i64]
  omega
theorem xor_ones (v : Int) (h0 : v < 0) (h1 : -9223372036854775808 ≤ v) : bits .xor .i64 v (-1) = -v - 1 := by
  obtain ⟨x, rfl⟩ : ∃ x : Nat, v = (x : Int) - 18446744073709551616 := ⟨(v + 18446744073709551616).toNat, by omega⟩
  show IntKind.i64.wrap ((BitVec.ofInt 64 ((x : Int) - 18446744073709551616) ^^^ BitVec.ofInt 64 (-1)).toNat : Int) = _
  have h2 : (BitVec.ofInt 64 ((x : Int) - 18446744073709551616)).toNat = x := by
    rw [BitVec.toNat_ofInt]
    omega
  have h3 : (BitVec.ofInt 64 (-1)).toNat = 2 ^ 64 - 1 := by decide
  rw [BitVec.toNat_xor, h2, h3, Nat.xor_comm, Lib.xor_ones64 x (by omega), IntKind.wrap_i64]
  omega

section
variable {w : World} {s t : Bool} {A B : Option Addr} {n c m d x y k j : Nat} {z u : Int}

set_option maxHeartbeats 400000 in
theorem from_pos (v : Int) (w : World) (h0 : 0 ≤ v) (h1 : v < 9223372036854775808) : Calls Tryz.prog 91 #[.int .i64 v] w (GivZ w v 2) := by
  have hq : v / 9223372036854775808 = 0 := by omega
  have hx := xor_zero v h0 h1
  go_enter Tryz.func91, Tryz.ntmps91
  go_wp2_with fail
  refine (from_any v _ (by omega) (by omega)).mono ?_
  rintro e w1 ⟨A1, c1, rfl, ho, hb1⟩
  have PR := (Bz.new w false none 0 0).below hb1
  have BB := bl_trans (bl_alloc w _) hb1
  have hl : (M.lims v.toNat).length ≤ 2 := M.lims_length_le.2 (by rw [show M.R ^ 2 = 18446744073709551616 from rfl]; omega)
  clear hb1 hx
  go_wp2_with fail
  refine (signed_any _ _ _ _ _).mono ?_
  rintro e w2 ⟨rfl, hb2⟩
  have Z := (zt_signed (s := false) ho hl).below hb2
  rw [show zv false v.toNat = v by rw [zv_false]; omega] at Z
  replace PR := PR.below hb2
  replace BB := bl_trans BB hb2
  have r0 := PR.c0
  have r1 := PR.c1
  have f0 := PR.f 0
  have f1 := PR.f 1
  clear hb2 ho
  go_wp2_with fail
  exact bodyPost_ret (v := .agg #[.bool (false && decide (0 < (M.lims v.toNat).length)), .slice A1 (M.lims v.toNat).length c1]) (by simp [results, Tryz.results91, go_sem, *]) rfl ⟨_, _, _, _, rfl, fin_z Z BB (by omega) (by simp) _ _⟩

set_option maxHeartbeats 400000 in
theorem from_neg (v : Int) (w : World) (h0 : v < 0) (h1 : -9223372036854775808 ≤ v) : Calls Tryz.prog 91 #[.int .i64 v] w (GivZ w v 2) := by
  have hq : v / 9223372036854775808 = -1 := by omega
  have hx := xor_ones v h0 h1
  go_enter Tryz.func91, Tryz.ntmps91
  go_wp2_with fail
  refine (from_any (-v) _ (by omega) (by omega)).mono ?_
  rintro e w1 ⟨A1, c1, rfl, ho, hb1⟩
  have PR := (Bz.new w false none 0 0).below hb1
  have BB := bl_trans (bl_alloc w _) hb1
  have hl : (M.lims (-v).toNat).length ≤ 2 := M.lims_length_le.2 (by rw [show M.R ^ 2 = 18446744073709551616 from rfl]; omega)
  clear hb1 hx
  go_wp2_with fail
  refine (signed_any _ _ _ _ _).mono ?_
  rintro e w2 ⟨rfl, hb2⟩
  have Z := (zt_signed (s := true) ho hl).below hb2
  rw [show zv true (-v).toNat = v by rw [zv_true]; omega] at Z
  replace PR := PR.below hb2
  replace BB := bl_trans BB hb2
  have r0 := PR.c0
  have r1 := PR.c1
  have f0 := PR.f 0
  have f1 := PR.f 1
  clear hb2 ho
  go_wp2_with fail
  exact bodyPost_ret (v := .agg #[.bool (true && decide (0 < (M.lims (-v).toNat).length)), .slice A1 (M.lims (-v).toNat).length c1]) (by simp [results, Tryz.results91, go_sem, *]) rfl ⟨_, _, _, _, rfl, fin_z Z BB (by omega) (by simp) _ _⟩

theorem fromZ (v : Int) (w : World) (h0 : -9223372036854775808 ≤ v) (h1 : v < 9223372036854775808) : Calls Tryz.prog 91 #[.int .i64 v] w (GivZ w v 2) := by
  by_cases h : v < 0
  · exact from_neg v w h h0
  · exact from_pos v w (by omega) h1

def smB (z : Int) : Bool := decide (-9223372036854775808 ≤ z ∧ z < 9223372036854775808)
def smI (z : Int) : Int := bif smB z then z else 0
theorem smB_yes {z : Int} (h0 : -9223372036854775808 ≤ z) (h1 : z < 9223372036854775808) : smB z = true := decide_eq_true ⟨h0, h1⟩
theorem smB_no {z : Int} (h : z < -9223372036854775808 ∨ 9223372036854775808 ≤ z) : smB z = false := decide_eq_false (by omega)
theorem smI_yes {z : Int} (h0 : -9223372036854775808 ≤ z) (h1 : z < 9223372036854775808) : smI z = z := by unfold smI; rw [smB_yes h0 h1]; rfl
theorem smI_no {z : Int} (h : z < -9223372036854775808 ∨ 9223372036854775808 ≤ z) : smI z = 0 := by unfold smI; rw [smB_no h]; rfl

def IsSm (w : World) (z : Int) (e : Ending) (w' : World) : Prop := e = .returned (.tuple #[.int .i64 (smI z), .bool (smB z)]) ∧ Below w.heap.size w w'

theorem ret_ib {a a' : Int} {b b' : Bool} (h : a = a') (h' : b = b') : Ending.returned (.tuple #[.int .i64 a, .bool b]) = .returned (.tuple #[.int .i64 a', .bool b']) := by rw [h, h']

end

end Go.Proofs.YtbhgbilhoonopaaGreat
