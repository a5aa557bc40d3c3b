/- big.Div, Mod. -/
import Derived.Test.YtbhgbilhoonopaaGreatZB
namespace Go.Proofs.YtbhgbilhoonopaaGreat
open Go.RowKit
set_option linter.unusedVariables false
set_option maxRecDepth 100000

/-- q and r are what z is divided into by u. -/
structure FD (z u q r : Int) : Prop where
  eq : z = u * q + r
  pos : 0 < u → 0 ≤ r ∧ r < u
  neg : u < 0 → u < r ∧ r ≤ 0
theorem FD.uniqP {z u q r q' r' : Int} (hu : 0 < u) (e : z = u * q + r) (e' : z = u * q' + r') (h0 : 0 ≤ r) (h1 : r < u) (h2 : 0 ≤ r') (h3 : r' < u) : q = q' := by
  have hd : u * (q - q') = r' - r := by rw [Int.mul_sub]; omega
  rcases Int.lt_trichotomy (q - q') 0 with hc | hc | hc
  · have := Int.mul_le_mul_of_nonneg_left (a := q - q') (b := -1) (c := u) (by omega) (by omega)
    rw [hd, Int.mul_neg, Int.mul_one] at this
    omega
  · omega
  · have := Int.mul_le_mul_of_nonneg_left (a := 1) (b := q - q') (c := u) (by omega) (by omega)
    rw [hd, Int.mul_one] at this
    omega
theorem FD.uniq {z u q r q' r' : Int} (h : FD z u q r) (h' : FD z u q' r') (hu : u ≠ 0) : q = q' ∧ r = r' := by
  have e := h.eq
  have e' := h'.eq
  have key : q = q' := by
    rcases Int.lt_or_gt_of_ne hu with hn | hp
    · have h1 := h.neg hn
      have h2 := h'.neg hn
      exact FD.uniqP (z := -z) (u := -u) (r := -r) (r' := -r') (by omega) (by rw [Int.neg_mul]; omega) (by rw [Int.neg_mul]; omega) (by omega) (by omega) (by omega) (by omega)
    · have h1 := h.pos hp
      have h2 := h'.pos hp
      exact FD.uniqP hp e e' h1.1 h1.2 h2.1 h2.2
  subst key
  exact ⟨rfl, by omega⟩
def dq (z u : Int) : Int := if 0 < u then z / u else (-z) / (-u)
def dr (z u : Int) : Int := z - u * dq z u
theorem FD.of (z : Int) {u : Int} (hu : u ≠ 0) : FD z u (dq z u) (dr z u) := by
  refine ⟨by unfold dr; omega, fun h => ?_, fun h => ?_⟩
  · unfold dr dq
    rw [if_pos h]
    have h1 := Int.mul_ediv_add_emod z u
    have h2 := Int.emod_nonneg z hu
    have h3 := Int.emod_lt_of_pos z h
    omega
  · unfold dr dq
    rw [if_neg (by omega)]
    have h1 := Int.mul_ediv_add_emod (-z) (-u)
    have h2 := Int.emod_nonneg (-z) (b := -u) (by omega)
    have h3 := Int.emod_lt_of_pos (-z) (b := -u) (by omega)
    rw [Int.neg_mul] at h1
    omega
theorem FD.dq {z u q r : Int} (h : FD z u q r) (hu : u ≠ 0) : q = dq z u := (h.uniq (FD.of z hu) hu).1
theorem FD.dr {z u q r : Int} (h : FD z u q r) (hu : u ≠ 0) : r = dr z u := (h.uniq (FD.of z hu) hu).2

/-- Signs and sizes. -/
theorem FD.same (x y : Nat) (b : Bool) (hy : y ≠ 0) : FD (zv b x) (zv b y) (zv false (x / y)) (zv b (x % y)) := by
  have h1 := Nat.div_add_mod x y
  have h2 := Nat.mod_lt x (Nat.pos_of_ne_zero hy)
  have h3 : (y : Int) * ((x / y : Nat) : Int) + ((x % y : Nat) : Int) = x := by exact_mod_cast h1
  cases b
  · exact ⟨by simp only [zv_false]; omega, fun _ => by simp only [zv_false]; omega, fun h => by simp only [zv_false] at h; omega⟩
  · exact ⟨by simp only [zv_true, zv_false, Int.neg_mul]; omega, fun h => by simp only [zv_true] at h; omega, fun _ => by simp only [zv_true]; omega⟩
theorem FD.even (x y : Nat) (b : Bool) (hy : y ≠ 0) (hr : x % y = 0) : FD (zv b x) (zv (!b) y) (zv true (x / y)) 0 := by
  have h1 := Nat.div_add_mod x y
  have h3 : (y : Int) * ((x / y : Nat) : Int) + ((x % y : Nat) : Int) = x := by exact_mod_cast h1
  cases b
  · exact ⟨by simp only [Bool.not_false, zv_true, zv_false, Int.neg_mul_neg]; omega, fun h => by simp only [Bool.not_false, zv_true] at h; omega, fun h => by simp only [Bool.not_false, zv_true] at h ⊢; omega⟩
  · exact ⟨by simp only [Bool.not_true, zv_true, zv_false, Int.mul_neg]; omega, fun h => by simp only [Bool.not_true, zv_false] at h ⊢; omega, fun h => by simp only [Bool.not_true, zv_false] at h; omega⟩
theorem FD.odd (x y : Nat) (b : Bool) (hy : y ≠ 0) (hr : x % y ≠ 0) : FD (zv b x) (zv (!b) y) (zv true (x / y + 1)) (zv (!b) (y - x % y)) := by
  have h1 := Nat.div_add_mod x y
  have h2 := Nat.mod_lt x (Nat.pos_of_ne_zero hy)
  have h3 : (y : Int) * ((x / y : Nat) : Int) + ((x % y : Nat) : Int) = x := by exact_mod_cast h1
  have h4 : (y : Int) * (((x / y + 1 : Nat)) : Int) = (y : Int) * ((x / y : Nat) : Int) + y := by push_cast; rw [Int.mul_add, Int.mul_one]
  cases b
  · exact ⟨by simp only [Bool.not_false, zv_true, zv_false, Int.neg_mul_neg]; omega, fun h => by simp only [Bool.not_false, zv_true] at h; omega, fun h => by simp only [Bool.not_false, zv_true] at h ⊢; omega⟩
  · exact ⟨by simp only [Bool.not_true, zv_true, zv_false, Int.mul_neg]; omega, fun h => by simp only [Bool.not_true, zv_false] at h ⊢; omega, fun h => by simp only [Bool.not_true, zv_false] at h; omega⟩

section
variable {w w' : World} {s t : Bool} {A B Q R : Option Addr} {n c m d k j g g' nq cq nr cr q r y base : Nat} {z u x : Int}
set_option maxHeartbeats 1000000

/-- A call answers a right number whose limbs lie from base on. -/
def GivC (w : World) (base : Nat) (z : Int) (k : Nat) (e : Ending) (w' : World) : Prop :=
  ∃ b A n c, e = .returned (.agg #[.bool b, .slice A n c]) ∧ Zt w' base b A n c z k ∧ Below w.heap.size w w'
theorem Zt.stored2 {b : Bool} {x y : Value} (h : Zt w base b A n c z k) (hne : ∀ p, A = some p → p.block ≠ g) : Zt ((w.setCell ⟨g, 0, none⟩ x).setCell ⟨g, 1, none⟩ y) base b A n c z k := by
  refine ⟨(h.own.grown (grownBy_setCell w ⟨g, 0, none⟩ x) fun p hp e => ?_).grown (grownBy_setCell _ ⟨g, 1, none⟩ y) fun p hp e => ?_, h.le, h.neg⟩
  · injection e with e
    exact hne p hp e
  · injection e with e
    exact hne p hp e

/-- The closure of Div: signs alike. -/
theorem divc_same (s : Bool) (Pa : Bz w g s A n c) (Pb : Bz w g' s B m d) (hq : Own w base Q nq cq (M.lims q)) (hl : nq ≤ k) (hb : base ≤ w.heap.size) : Calls Tryz.prog 117 #[.slice Q nq cq, .slice R nr cr, .pointer (some ⟨g, 0, none⟩), .pointer (some ⟨g', 0, none⟩)] w (GivC w base (zv false q) k) := by
  have PR := Bz.new w false none 0 0
  have BB := bl_alloc w (.cells #[.bool false, .slice none 0 0] 24)
  have a0 := (Pa.below BB).c0
  have b0 := (Pb.below BB).c0
  have HQ := Lib.hid (hq.below BB)
  have HN := Lib.hid (show ∀ p, Q = some p → p.block ≠ w.heap.size from fun p hp => by have := (OwK.lt hq hp).2; omega)
  clear Pa Pb hq hb
  cases s
  all_goals
    go_enter Tryz.func117, Tryz.ntmps117
    go_wp2_with fail
    refine (signed_any _ _ _ _ _).mono ?_
    rintro e w2 ⟨rfl, hb2⟩
    have Z := (zt_signed (s := false) HQ.out hl).below hb2
    replace PR := PR.below hb2
    replace BB := bl_trans BB hb2
    have r0 := PR.c0
    have r1 := PR.c1
    have f0 := PR.f 0
    have f1 := PR.f 1
    clear hb2 a0 b0 HQ
    go_wp2_with fail
    exact bodyPost_ret (v := .agg #[.bool (false && decide (0 < nq)), .slice Q nq cq]) (by simp [results, Tryz.results117, go_sem, *]) rfl ⟨_, _, _, _, rfl, Z.stored2 HN.out, (BB.setCell (p := ⟨w.heap.size, 0, none⟩) (Nat.le_refl _) _).setCell (p := ⟨w.heap.size, 1, none⟩) (Nat.le_refl _) _⟩

/-- .. signs apart, nothing left. -/
theorem divc_even (s : Bool) (Pa : Bz w g s A n c) (Pb : Bz w g' (!s) B m d) (hq : Own w base Q nq cq (M.lims q)) (hl : nq ≤ k) (hr : nr = 0) (hb : base ≤ w.heap.size) : Calls Tryz.prog 117 #[.slice Q nq cq, .slice R nr cr, .pointer (some ⟨g, 0, none⟩), .pointer (some ⟨g', 0, none⟩)] w (GivC w base (zv true q) k) := by
  subst hr
  have PR := Bz.new w false none 0 0
  have BB := bl_alloc w (.cells #[.bool false, .slice none 0 0] 24)
  have a0 := (Pa.below BB).c0
  have b0 := (Pb.below BB).c0
  have HQ := Lib.hid (hq.below BB)
  have HN := Lib.hid (show ∀ p, Q = some p → p.block ≠ w.heap.size from fun p hp => by have := (OwK.lt hq hp).2; omega)
  clear Pa Pb hq hb
  cases s
  all_goals
    simp only [Bool.not_false, Bool.not_true] at b0
    go_enter Tryz.func117, Tryz.ntmps117
    go_wp2_with fail
    refine (signed_any _ _ _ _ _).mono ?_
    rintro e w2 ⟨rfl, hb2⟩
    have Z := (zt_signed (s := true) HQ.out hl).below hb2
    replace PR := PR.below hb2
    replace BB := bl_trans BB hb2
    have r0 := PR.c0
    have r1 := PR.c1
    have f0 := PR.f 0
    have f1 := PR.f 1
    clear hb2 a0 b0 HQ
    go_wp2_with fail
    exact bodyPost_ret (v := .agg #[.bool (true && decide (0 < nq)), .slice Q nq cq]) (by simp [results, Tryz.results117, go_sem, *]) rfl ⟨_, _, _, _, rfl, Z.stored2 HN.out, (BB.setCell (p := ⟨w.heap.size, 0, none⟩) (Nat.le_refl _) _).setCell (p := ⟨w.heap.size, 1, none⟩) (Nat.le_refl _) _⟩

/-- .. signs apart, something left. -/
theorem divc_odd (s : Bool) (Pa : Bz w g s A n c) (Pb : Bz w g' (!s) B m d) (hq : Own w base Q nq cq (M.lims q)) (hl : q < M.R ^ k) (hk : k ≤ 1000) (hr : 0 < nr) (hb : base ≤ w.heap.size) : Calls Tryz.prog 117 #[.slice Q nq cq, .slice R nr cr, .pointer (some ⟨g, 0, none⟩), .pointer (some ⟨g', 0, none⟩)] w (GivC w base (zv true (q + 1)) (k + 1)) := by
  have PR := Bz.new w false none 0 0
  have BB := bl_alloc w (.cells #[.bool false, .slice none 0 0] 24)
  have a0 := (Pa.below BB).c0
  have b0 := (Pb.below BB).c0
  have HQ := Lib.hid (hq.below BB).rd
  have hn := M.lims_length_le.2 hl
  have e := hq.len
  have hr' : (0 : Int) < (nr : Int) := by omega
  have hlt : q + 1 < M.R ^ (k + 1) := by
    have h1 := Nat.pow_pos (n := k) M.R_pos
    rw [Nat.pow_succ]
    have : M.R ^ k * 2 ≤ M.R ^ k * M.R := Nat.mul_le_mul_left _ (by decide)
    omega
  have HL := Lib.hid hlt
  have HE := Lib.hid hb
  clear hq hlt hb hl
  obtain ⟨hnq, _⟩ : nq ≤ 1000 ∧ True := ⟨by omega, trivial⟩
  cases s
  all_goals
    simp only [Bool.not_false, Bool.not_true] at b0 Pb
    go_enter Tryz.func117, Tryz.ntmps117
    go_wp2_with fail
    refine (from_any 1 _ (by omega) (by omega)).mono ?_
    rintro e1 w1 ⟨A1, c1, rfl, ho1, hb1⟩
    have PR1 := PR.below hb1
    have BB1 := bl_trans BB hb1
    have HQ1 := Lib.hid (HQ.out.below hb1)
    have l1 : (M.lims (Int.toNat 1)).length ≤ 2 := M.lims_length_le.2 (by decide)
    clear HQ hb1
    go_wp2_with fail
    refine (add_any _ _ _ _ _ _ _ _ _ HQ1.out ho1.rd (by omega) (by omega)).mono ?_
    rw [M.val_lims, M.val_lims, show q + Int.toNat 1 = q + 1 from rfl]
    rintro e2 w2 ⟨A2, c2, rfl, ho2, hb2⟩
    have hs := PR1.lt
    have PR2 := PR1.below hb2
    have BB2 := bl_trans BB1 hb2
    have a2 := (Pa.below BB2).c0
    have b2 := (Pb.below BB2).c0
    clear HQ1 hb2 ho1 a0 b0
    go_wp2_with fail
    refine (signed_any _ _ _ _ _).mono ?_
    rintro e w3 ⟨rfl, hb3⟩
    have Z := ((zt_signed (s := true) ho2 (M.lims_length_le.2 HL.out)).below hb3)
    have PR3 := PR2.below hb3
    have BB3 := bl_trans BB2 hb3
    have r0 := PR3.c0
    have r1 := PR3.c1
    have f0 := PR3.f 0
    have f1 := PR3.f 1
    have hz := BB1.size
    clear hb3 a2 b2 PR PR1 PR2 BB BB1 BB2 Pa Pb
    go_wp2_with fail
    exact bodyPost_ret (v := .agg #[.bool (true && decide (0 < (M.lims (q + 1)).length)), .slice A2 (M.lims (q + 1)).length c2]) (by simp [results, Tryz.results117, go_sem, *]) rfl ⟨_, _, _, _, rfl, (Z.stored2 (fun p hp => by have := (OwK.lt Z.own hp).1; omega)).mono (by have := HE.out; omega), (BB3.setCell (p := ⟨w.heap.size, 0, none⟩) (Nat.le_refl _) _).setCell (p := ⟨w.heap.size, 1, none⟩) (Nat.le_refl _) _⟩

end

end Go.Proofs.YtbhgbilhoonopaaGreat

/- big.divided, Div, Mod. -/
namespace Go.Proofs.YtbhgbilhoonopaaGreat
open Go.RowKit
set_option linter.unusedVariables false
set_option maxRecDepth 100000

theorem not_of_ne {s t : Bool} (h : ¬ s = t) : t = !s := by
  cases s <;> cases t <;> simp at h ⊢

section
variable {w w' : World} {s t : Bool} {A B Q R : Option Addr} {n c m d k j g g' nq cq nr cr q r y base : Nat} {z u x : Int}
set_option maxHeartbeats 1000000

theorem Zt.zero0 (w : World) (base k : Nat) : Zt w base false none 0 0 0 k := ⟨by rw [show M.lims (Int.natAbs 0) = [] from M.lims_zero]; exact OwK.nil_ _ _, Nat.zero_le _, rfl⟩

/-- divided, by what its closure tells. -/
theorem divided_Div (ga gb : Nat) (h : Zm w s A n c z k) (g : Zm w t B m d u j) (hk : k ≤ 1000) (hj : j ≤ 1000) (hu : u ≠ 0) (p : Nat)
    (hF : ∀ W Q nq cq R nr cr, Below w.heap.size w W → Own W (w.heap.size + 3) Q nq cq (M.lims (z.natAbs / u.natAbs)) → Own W (w.heap.size + 3) R nr cr (M.lims (z.natAbs % u.natAbs)) → w.heap.size + 3 ≤ W.heap.size → Calls Tryz.prog 117 #[.slice Q nq cq, .slice R nr cr, .pointer (some ⟨ga, 0, none⟩), .pointer (some ⟨gb, 0, none⟩)] W (GivC W (w.heap.size + 3) x p)) :
    Calls Tryz.prog 116 #[.agg #[.bool s, .slice A n c], .agg #[.bool t, .slice B m d], .func (Fn.func 117) #[] #[.pointer (some ⟨ga, 0, none⟩), .pointer (some ⟨gb, 0, none⟩)]] w (GivZE w x p 0) := by
  have X := ((h.alloc (.cells #[.bool s, .slice A n c] 24)).alloc (.cells #[.bool t, .slice B m d] 24)).alloc (.cells #[.bool false, .slice none 0 0] 24)
  have Y := ((g.alloc (.cells #[.bool s, .slice A n c] 24)).alloc (.cells #[.bool t, .slice B m d] 24)).alloc (.cells #[.bool false, .slice none 0 0] 24)
  have PR := Bz.new3 w (.cells #[.bool s, .slice A n c] 24) (.cells #[.bool t, .slice B m d] 24) false none 0 0
  have BB := bl_trans (bl_trans (bl_alloc w (.cells #[.bool s, .slice A n c] 24)) (bl_alloc _ (.cells #[.bool t, .slice B m d] 24))) (bl_alloc _ (.cells #[.bool false, .slice none 0 0] 24))
  have hl := X.nm.le
  have hl' := Y.nm.le
  obtain ⟨xs, hx, hxv⟩ := X.nm.row
  obtain ⟨ys, hy, hyv⟩ := Y.nm.row
  have HX := Lib.hid hx
  have HY := Lib.hid hy
  have HXV := Lib.hid hxv
  have HYV := Lib.hid hyv
  have HF := Lib.hid hF
  have HU := Lib.hid (show u.natAbs ≠ 0 by omega)
  have HS := Lib.hid (show (((w.alloc (.cells #[.bool s, .slice A n c] 24)).alloc (.cells #[.bool t, .slice B m d] 24)).alloc (.cells #[.bool false, .slice none 0 0] 24)).heap.size = w.heap.size + 3 by simp)
  clear hx hy hxv hyv hF h g X Y hu
  go_enter Tryz.func116, Tryz.ntmps116
  go_wp2_with fail
  refine (div_all _ _ _ _ _ _ _ _ _ HX.out HY.out (by omega) (by omega) (by rw [HYV.out]; exact HU.out)).mono ?_
  rw [HXV.out, HYV.out]
  rintro e w1 ⟨Q1, c1, R1, d1, rfl, ho, ho', _, hb1⟩
  have hz := hb1.size
  rw [HS.out] at ho ho' hz
  replace PR := PR.below hb1
  replace BB := bl_trans BB hb1
  have HO := Lib.hid ho
  have HO' := Lib.hid ho'
  clear hb1 HX HY HXV HYV HU ho ho'
  go_wp2_with fail
  refine (HF.out _ _ _ _ _ _ _ BB HO.out HO'.out hz).mono ?_
  rintro e w2 ⟨b2, A2, n2, c2, rfl, Z, hb2⟩
  replace PR := PR.below hb2
  replace BB := bl_trans BB hb2
  have r0 := PR.c0
  have r1 := PR.c1
  have f0 := PR.f 0
  have f1 := PR.f 1
  clear hb2 HO HO' HF HS
  go_wp2_with fail
  exact bodyPost_ret (v := .tuple #[.agg #[.bool b2, .slice A2 n2 c2], .int .i64 0]) (by simp [results, Tryz.results116, go_sem, *]) rfl ⟨_, _, _, _, rfl, fin_z Z BB (by omega) (by omega) _ _⟩

theorem divided_Div0 (ga gb : Nat) (h : Zm w s A n c z k) (g : Zm w t B m d u j) (hk : k ≤ 1000) (hj : j ≤ 1000) (hu : u = 0) :
    Calls Tryz.prog 116 #[.agg #[.bool s, .slice A n c], .agg #[.bool t, .slice B m d], .func (Fn.func 117) #[] #[.pointer (some ⟨ga, 0, none⟩), .pointer (some ⟨gb, 0, none⟩)]] w (GivZE w 0 0 3) := by
  have PA := ((Bz.new w s A n c).alloc (.cells #[.bool t, .slice B m d] 24)).alloc (.cells #[.bool false, .slice none 0 0] 24)
  have PB := (Bz.new2 w (.cells #[.bool s, .slice A n c] 24) t B m d).alloc (.cells #[.bool false, .slice none 0 0] 24)
  have PR := Bz.new3 w (.cells #[.bool s, .slice A n c] 24) (.cells #[.bool t, .slice B m d] 24) false none 0 0
  have X := ((h.alloc (.cells #[.bool s, .slice A n c] 24)).alloc (.cells #[.bool t, .slice B m d] 24)).alloc (.cells #[.bool false, .slice none 0 0] 24)
  have Y := ((g.alloc (.cells #[.bool s, .slice A n c] 24)).alloc (.cells #[.bool t, .slice B m d] 24)).alloc (.cells #[.bool false, .slice none 0 0] 24)
  have BB := bl_trans (bl_trans (bl_alloc w (.cells #[.bool s, .slice A n c] 24)) (bl_alloc _ (.cells #[.bool t, .slice B m d] 24))) (bl_alloc _ (.cells #[.bool false, .slice none 0 0] 24))
  have hl := X.nm.le
  have hl' := Y.nm.le
  obtain ⟨xs, hx, hxv⟩ := X.nm.row
  obtain ⟨ys, hy, hyv⟩ := Y.nm.row
  have HX := Lib.hid hx
  have HY := Lib.hid hy
  have HYV := Lib.hid (show M.val ys = 0 by rw [hyv, hu]; rfl)
  clear hx hy hxv hyv h g X Y hu PA PB
  go_enter Tryz.func116, Tryz.ntmps116
  go_wp2_with fail
  refine (div_zero _ _ _ _ _ _ _ _ _ HX.out HY.out (by omega) (by omega) HYV.out).mono ?_
  rintro e w1 ⟨Q1, c1, R1, d1, rfl, _, _, _, hb1⟩
  replace PR := PR.below hb1
  replace BB := bl_trans BB hb1
  have r0 := PR.c0
  have r1 := PR.c1
  have f0 := PR.f 0
  have f1 := PR.f 1
  have hs := PR.lt
  clear hb1 HX HY HYV
  go_wp2_with fail
  exact bodyPost_ret (v := .tuple #[.agg #[.bool false, .slice none 0 0], .int .i64 3]) (by simp [results, Tryz.results116, go_sem, *]) rfl ⟨_, _, _, _, rfl, fin_z (Zt.zero0 _ _ _) BB (by omega) hs _ _⟩

theorem divZ0 (h : Zm w s A n c z k) (g : Zm w t B m d u j) (hk : k ≤ 1000) (hj : j ≤ 1000) (hu : u = 0) : Calls Tryz.prog 76 #[.agg #[.bool s, .slice A n c], .agg #[.bool t, .slice B m d]] w (GivZE w 0 0 3) := by
  have PA := ((Bz.new w s A n c).alloc (.cells #[.bool t, .slice B m d] 24)).alloc (.cells #[.bool false, .slice none 0 0] 24)
  have PB := (Bz.new2 w (.cells #[.bool s, .slice A n c] 24) t B m d).alloc (.cells #[.bool false, .slice none 0 0] 24)
  have PR := Bz.new3 w (.cells #[.bool s, .slice A n c] 24) (.cells #[.bool t, .slice B m d] 24) false none 0 0
  have X := ((h.alloc (.cells #[.bool s, .slice A n c] 24)).alloc (.cells #[.bool t, .slice B m d] 24)).alloc (.cells #[.bool false, .slice none 0 0] 24)
  have Y := ((g.alloc (.cells #[.bool s, .slice A n c] 24)).alloc (.cells #[.bool t, .slice B m d] 24)).alloc (.cells #[.bool false, .slice none 0 0] 24)
  have BB := bl_trans (bl_trans (bl_alloc w (.cells #[.bool s, .slice A n c] 24)) (bl_alloc _ (.cells #[.bool t, .slice B m d] 24))) (bl_alloc _ (.cells #[.bool false, .slice none 0 0] 24))
  have HU := Lib.hid hu
  clear h g hu PA PB
  go_enter Tryz.func76, Tryz.ntmps76
  go_wp2_with fail
  refine (divided_Div0 _ _ X Y hk hj HU.out).mono ?_
  rintro e w1 ⟨b1, A1, n1, c1, rfl, Z, hb1⟩
  have hs := PR.lt
  replace PR := PR.below hb1
  replace BB := bl_trans BB hb1
  have r0 := PR.c0
  have r1 := PR.c1
  have f0 := PR.f 0
  have f1 := PR.f 1
  clear hb1
  go_wp2_with fail
  exact bodyPost_ret (v := .tuple #[.agg #[.bool b1, .slice A1 n1 c1], .int .i64 3]) (by simp [results, Tryz.results76, go_sem, *]) rfl ⟨_, _, _, _, rfl, fin_z Z BB (by omega) hs _ _⟩

theorem divZ (h : Zm w s A n c z k) (g : Zm w t B m d u j) (hk : k ≤ 1000) (hj : j ≤ 1000) (hu : u ≠ 0) : Calls Tryz.prog 76 #[.agg #[.bool s, .slice A n c], .agg #[.bool t, .slice B m d]] w (GivZE w (dq z u) (k + 1) 0) := by
  have PA := ((Bz.new w s A n c).alloc (.cells #[.bool t, .slice B m d] 24)).alloc (.cells #[.bool false, .slice none 0 0] 24)
  have PB := (Bz.new2 w (.cells #[.bool s, .slice A n c] 24) t B m d).alloc (.cells #[.bool false, .slice none 0 0] 24)
  have PR := Bz.new3 w (.cells #[.bool s, .slice A n c] 24) (.cells #[.bool t, .slice B m d] 24) false none 0 0
  have X := ((h.alloc (.cells #[.bool s, .slice A n c] 24)).alloc (.cells #[.bool t, .slice B m d] 24)).alloc (.cells #[.bool false, .slice none 0 0] 24)
  have Y := ((g.alloc (.cells #[.bool s, .slice A n c] 24)).alloc (.cells #[.bool t, .slice B m d] 24)).alloc (.cells #[.bool false, .slice none 0 0] 24)
  have BB := bl_trans (bl_trans (bl_alloc w (.cells #[.bool s, .slice A n c] 24)) (bl_alloc _ (.cells #[.bool t, .slice B m d] 24))) (bl_alloc _ (.cells #[.bool false, .slice none 0 0] 24))
  obtain ⟨W0, hW0⟩ : ∃ W0, W0 = ((w.alloc (.cells #[.bool s, .slice A n c] 24)).alloc (.cells #[.bool t, .slice B m d] 24)).alloc (.cells #[.bool false, .slice none 0 0] 24) := ⟨_, rfl⟩
  rw [← hW0] at PA PB X Y
  have HF : ∀ W Q nq cq R nr cr, Below W0.heap.size W0 W → Own W (W0.heap.size + 3) Q nq cq (M.lims (z.natAbs / u.natAbs)) → Own W (W0.heap.size + 3) R nr cr (M.lims (z.natAbs % u.natAbs)) → W0.heap.size + 3 ≤ W.heap.size → Calls Tryz.prog 117 #[.slice Q nq cq, .slice R nr cr, .pointer (some ⟨w.heap.size, 0, none⟩), .pointer (some ⟨w.heap.size + 1, 0, none⟩)] W (GivC W (W0.heap.size + 3) (dq z u) (k + 1)) := by
    intro W Q nq cq R nr cr hW hq hr hs
    have ha := PA.below hW
    have hb := PB.below hW
    have hqlt : z.natAbs / u.natAbs < M.R ^ k := Nat.lt_of_le_of_lt (Nat.div_le_self _ _) h.lt
    have hql := M.lims_length_le.2 hqlt
    rw [hq.len] at hql
    have hun : u.natAbs ≠ 0 := by omega
    have ez := h.eq
    have eu := g.eq
    by_cases hst : s = t
    · subst hst
      have fd := FD.same z.natAbs u.natAbs s hun
      rw [← ez, ← eu] at fd
      rw [← fd.dq hu]
      exact divc_same s ha hb hq (by omega) hs
    · obtain rfl : t = !s := not_of_ne hst
      by_cases h0 : z.natAbs % u.natAbs = 0
      · have fd := FD.even z.natAbs u.natAbs s hun h0
        rw [← ez, ← eu] at fd
        rw [← fd.dq hu]
        have hn : nr = 0 := by rw [← hr.len, h0, M.lims_zero]; rfl
        exact divc_even s ha hb hq (by omega) hn hs
      · have fd := FD.odd z.natAbs u.natAbs s hun h0
        rw [← ez, ← eu] at fd
        rw [← fd.dq hu]
        have hn : 0 < nr := by rw [← hr.len]; exact List.length_pos_iff.2 (fun h9 => h0 (M.lims_eq_nil.1 h9))
        exact divc_odd s ha hb hq hqlt hk hn hs
  subst hW0
  have HH := Lib.hid HF
  have HU := Lib.hid hu
  clear h g hu PA PB HF
  go_enter Tryz.func76, Tryz.ntmps76
  go_wp2_with fail
  refine (divided_Div _ _ X Y hk hj HU.out _ HH.out).mono ?_
  rintro e w1 ⟨b1, A1, n1, c1, rfl, Z, hb1⟩
  have hs := PR.lt
  replace PR := PR.below hb1
  replace BB := bl_trans BB hb1
  have r0 := PR.c0
  have r1 := PR.c1
  have f0 := PR.f 0
  have f1 := PR.f 1
  clear hb1
  go_wp2_with fail
  exact bodyPost_ret (v := .tuple #[.agg #[.bool b1, .slice A1 n1 c1], .int .i64 0]) (by simp [results, Tryz.results76, go_sem, *]) rfl ⟨_, _, _, _, rfl, fin_z Z BB (by omega) hs _ _⟩

end

end Go.Proofs.YtbhgbilhoonopaaGreat
