/- The chapter's examples hold: litmuslaw01.works answers true, in every world, and changes nothing that was there. -/
import Derived.Test.YthjgonfohjgfaaaME
import Derived.OpenShut
namespace Go.Proofs.Ythjgonfohjgfaaa
open Go.RowKit
set_option linter.unusedVariables false

theorem lit1 (w : World) (x : Nat) (v : Int) (hx : x < M.R) (hv : v = (x : Int)) : Rd (w.alloc (.cells #[.int .u32 v] 63)) (some ⟨w.heap.size, 0, none⟩) 1 1 [x] := by
  subst hv
  exact RdK.one (K := kU32) w x hx
theorem lit2 (w : World) (x y : Nat) (v u : Int) (hx : x < M.R) (hy : y < M.R) (hv : v = (x : Int)) (hu : u = (y : Int)) : Rd (w.alloc (.cells #[.int .u32 v, .int .u32 u] 63)) (some ⟨w.heap.size, 0, none⟩) 2 2 [x, y] := by
  subst hv hu
  exact (Rd.two w x y hx hy).rd
theorem lit3 (w : World) (x y z : Nat) (v u t : Int) (hx : x < M.R) (hy : y < M.R) (hz : z < M.R) (hv : v = (x : Int)) (hu : u = (y : Int)) (ht : t = (z : Int)) :
    Rd (w.alloc (.cells #[.int .u32 v, .int .u32 u, .int .u32 t] 63)) (some ⟨w.heap.size, 0, none⟩) 3 3 [x, y, z] := by
  subst hv hu ht
  have h : Own (w.alloc (.cells #[.int .u32 (x : Int), .int .u32 (y : Int), .int .u32 (z : Int)] 63)) w.heap.size (some ⟨w.heap.size, 0, none⟩) 3 3 [x, y, z] :=
    ⟨World.ownsRow_lit w #[.int .u32 (x : Int), .int .u32 (y : Int), .int .u32 (z : Int)] 3 (Nat.le_refl _) (by unfold maxLen; omega) rfl, M.Lim.cons hx (M.Lim.cons hy (M.Lim.cons hz M.Lim.nil))⟩
  exact h.rd

theorem bl_alloc (w : World) (o : Obj) : Below w.heap.size w (w.alloc o) := (Below.refl _ _).alloc (Nat.le_refl _) o
theorem bl_trans {a b c : World} (h : Below a.heap.size a b) (k : Below b.heap.size b c) : Below a.heap.size a c := h.trans (k.mono h.size)

/-- same says yes. -/
theorem same_yes (A : Option Addr) (n c : Nat) (xs : List Nat) (B : Option Addr) (m d : Nat) (ys : List Nat) (w : World) (h : Rd w A n c xs) (k : Rd w B m d ys) (hm : n ≤ 4194304) (hm' : m ≤ 4194304) (e : xs = ys) :
    Calls Try.prog 53 #[.slice A n c, .slice B m d] w fun e w' => e = .returned (.bool true) ∧ Below w.heap.size w w' := by
  refine (same_any A n c xs B m d ys w h k hm hm').mono ?_
  rintro e' w' ⟨rfl, hb⟩
  exact ⟨by rw [decide_eq_true e], hb⟩

theorem lims_lit1 (x : Nat) (h : x < M.R) (h0 : x ≠ 0) : M.lims x = [x] := by
  have := M.lims_snoc (ds := []) M.Lim.nil h h0
  rw [M.val_nil, List.length_nil, Nat.pow_zero, Nat.one_mul, Nat.zero_add, List.nil_append] at this
  exact this
theorem lims_lit2 (x y v : Nat) (hx : x < M.R) (hy : y < M.R) (h0 : y ≠ 0) (e : v = x + M.R * y) : M.lims v = [x, y] := by
  have := M.lims_snoc (ds := [x]) (M.Lim.cons hx M.Lim.nil) hy h0
  rw [M.val_cons, M.val_nil, Nat.mul_zero, Nat.add_zero, List.length_singleton, Nat.pow_one] at this
  rw [e, this]
  rfl

theorem lims_lit3 (x y z v : Nat) (hx : x < M.R) (hy : y < M.R) (hz : z < M.R) (h0 : z ≠ 0) (e : v = x + M.R * (y + M.R * z)) : M.lims v = [x, y, z] := by
  have := M.lims_snoc (ds := [x, y]) (M.Lim.cons hx (M.Lim.cons hy M.Lim.nil)) hz h0
  rw [M.val_cons, M.val_cons, M.val_nil, Nat.mul_zero, Nat.add_zero] at this
  have e2 : M.R ^ [x, y].length = M.R * M.R := by show M.R ^ 2 = _; rw [Nat.pow_succ, Nat.pow_one]
  rw [e2] at this
  have e3 : v = x + M.R * y + M.R * M.R * z := by rw [e, Nat.mul_add, Nat.mul_assoc]; omega
  rw [e3, this]
  rfl

theorem big_dec : M.dec 0 (M.bytes ⟨#[49, 56, 52, 52, 54, 55, 52, 52, 48, 55, 51, 55, 48, 57, 53, 53, 49, 54, 49, 54]⟩) = 18446744073709551616 := by decide
theorem lows_dec (x : Nat) (hx : 49 ≤ x) (hx' : x ≤ 57) (r : List Nat) (h : M.Dig r) : M.lows (M.dec 0 (x :: r.reverse)) = r ++ [x] ∧ M.dec 0 (x :: r.reverse) ≠ 0 := by
  induction r with
  | nil =>
    rw [List.reverse_nil, M.dec_cons, M.dec_nil]
    have h0 : 0 * 10 + (x - 48) ≠ 0 := by omega
    refine ⟨?_, h0⟩
    rw [M.lows_pos h0, show (0 * 10 + (x - 48)) / 10 = 0 by omega, M.lows_zero, show 48 + (0 * 10 + (x - 48)) % 10 = x by omega]
    rfl
  | cons y r ih =>
    obtain ⟨ih1, ih2⟩ := ih fun z hz => h z (by simp [hz])
    have hy := h y (by simp)
    have e : x :: (y :: r).reverse = (x :: r.reverse) ++ [y] := by simp
    rw [e, M.dec_snoc]
    generalize M.dec 0 (x :: r.reverse) = V at *
    have h0 : V * 10 + (y - 48) ≠ 0 := by omega
    refine ⟨?_, h0⟩
    rw [M.lows_pos h0, show (V * 10 + (y - 48)) / 10 = V by omega, ih1, show 48 + (V * 10 + (y - 48)) % 10 = y by omega]
    rfl

theorem txt_dec {l : List Nat} (h : M.Digits l) : M.txt (M.dec 0 l) = l := by
  obtain ⟨h1, h2, h3⟩ := h
  cases l with
  | nil => exact absurd rfl h1
  | cons x m =>
    by_cases hx : x = 48
    · have hm := h2 (by rw [hx]; rfl)
      have : m = [] := List.eq_nil_of_length_eq_zero (by simpa using hm)
      subst this
      subst hx
      rfl
    · have hxd := h3 x (by simp)
      have := lows_dec x (by omega) (by omega) m.reverse (fun z hz => h3 z (by simp at hz; simp [hz]))
      rw [List.reverse_reverse] at this
      unfold M.txt
      rw [if_neg this.2, this.1]
      simp

theorem text_01 : M.txt (M.val [0, 1]) = [52, 50, 57, 52, 57, 54, 55, 50, 57, 54] := by
  have h : M.val [0, 1] = M.dec 0 [52, 50, 57, 52, 57, 54, 55, 50, 57, 54] := by decide
  rw [h]
  exact txt_dec (by decide)

set_option maxHeartbeats 4000000 in
theorem works_any (w : World) : Calls Try.prog 12 #[] w fun e w' => e = .returned (.bool true) ∧ Below w.heap.size w w' := by
  go_enter Try.func12, Try.ntmps12
  go_wp2_with fail
  have top0 := lit1 w 4294967295 4294967295 (by decide) rfl
  have a0 := lit3 (w.alloc (.cells #[.int .u32 4294967295] 63)) 0 0 1 0 0 1 (by decide) (by decide) (by decide) rfl rfl rfl
  have b0 := lit1 ((w.alloc (.cells #[.int .u32 4294967295] 63)).alloc (.cells #[.int .u32 0, .int .u32 0, .int .u32 1] 63)) 3 3 (by decide) rfl
  simp only [World.size_alloc] at a0 b0
  refine (div_limb _ _ _ _ _ _ _ _ 3 _ (a0.alloc _) b0 (by omega) (by omega) (by decide) (by decide)).mono ?_
  rw [show M.lims (M.val [0, 0, 1] / 3) = [1431655765, 1431655765] from lims_lit2 _ _ _ (by decide) (by decide) (by decide) (by decide), show M.lims (M.val [0, 0, 1] % 3) = [1] from lims_lit1 1 (by decide) (by decide)]
  rintro e w1 ⟨Aq, cq, Ar, cr, rfl, hq, hr, _, hb1⟩
  have TOP1 := Lib.hid (((top0.alloc _).alloc _).below hb1)
  have Q1 := Lib.hid hq.rd
  have R1 := Lib.hid hr.rd
  have B1 := Lib.hid (bl_trans (bl_trans (bl_trans (bl_alloc _ _) (bl_alloc _ _)) (bl_alloc _ _)) hb1)
  clear top0 a0 b0 hq hr hb1
  go_wp2_with fail
  refine (parse_no _ _ (by decide) (by decide)).mono ?_
  rintro e w2 ⟨A2, c2, rfl, ho2, hb2⟩
  have TOP2 := Lib.hid (TOP1.out.below hb2)
  have Q2 := Lib.hid (Q1.out.below hb2)
  have R2 := Lib.hid (R1.out.below hb2)
  have B2 := Lib.hid (bl_trans B1.out hb2)
  clear ho2 hb2 TOP1 Q1 R1 B1
  go_wp2_with fail
  refine (parse_yes _ _ (by decide) (by decide)).mono ?_
  rw [big_dec, show M.lims 18446744073709551616 = [0, 0, 1] from lims_lit3 _ _ _ _ (by decide) (by decide) (by decide) (by decide) (by decide)]
  rintro e w3 ⟨A3, c3, rfl, ho3, hb3⟩
  have TOP3 := Lib.hid (TOP2.out.below hb3)
  have Q3 := Lib.hid (Q2.out.below hb3)
  have R3 := Lib.hid (R2.out.below hb3)
  have P3 := Lib.hid ho3.rd
  have B3 := Lib.hid (bl_trans B2.out hb3)
  clear ho3 hb3 TOP2 Q2 R2 B2
  go_wp2_with fail
  refine (add_any _ _ _ _ _ _ _ _ _ (TOP3.out.alloc _) (lit1 w3 1 1 (by decide) rfl) (by omega) (by omega)).mono ?_
  rw [show M.lims (M.val [4294967295] + M.val [1]) = [0, 1] from lims_lit2 _ _ _ (by decide) (by decide) (by decide) (by decide)]
  rintro e w4 ⟨A4, c4, rfl, ho4, hb4⟩
  have b34 := bl_trans (bl_alloc _ _) hb4
  have TOP4 := Lib.hid (TOP3.out.below b34)
  have Q4 := Lib.hid (Q3.out.below b34)
  have R4 := Lib.hid (R3.out.below b34)
  have P4 := Lib.hid (P3.out.below b34)
  have B4 := Lib.hid (bl_trans B3.out b34)
  have S4 := Lib.hid ho4.rd
  clear ho4 hb4 b34 TOP3 Q3 R3 P3 B3
  go_wp2_with fail
  refine (same_yes _ _ _ _ _ _ _ _ _ (S4.out.alloc _) (lit2 w4 0 1 0 1 (by decide) (by decide) rfl rfl) (by simp) (by simp) rfl).mono ?_
  rintro e w5 ⟨rfl, hb5⟩
  have b45 := bl_trans (bl_alloc _ _) hb5
  have TOP5 := Lib.hid (TOP4.out.below b45)
  have Q5 := Lib.hid (Q4.out.below b45)
  have R5 := Lib.hid (R4.out.below b45)
  have P5 := Lib.hid (P4.out.below b45)
  have B5 := Lib.hid (bl_trans B4.out b45)
  clear hb5 b45 TOP4 Q4 R4 P4 B4 S4
  go_wp2_with fail
  refine (mul_few _ _ _ _ _ _ _ _ _ TOP5.out TOP5.out (by omega) (by omega) (by rw [show M.lims (M.val [4294967295]) = [4294967295] from lims_lit1 _ (by decide) (by decide)]; decide)).mono ?_
  rw [show M.lims (M.val [4294967295] * M.val [4294967295]) = [1, 4294967294] from lims_lit2 _ _ _ (by decide) (by decide) (by decide) (by decide)]
  rintro e w6 ⟨A6, c6, rfl, ho6, hb6⟩
  have Q6 := Lib.hid (Q5.out.below hb6)
  have R6 := Lib.hid (R5.out.below hb6)
  have P6 := Lib.hid (P5.out.below hb6)
  have B6 := Lib.hid (bl_trans B5.out hb6)
  have S6 := Lib.hid ho6.rd
  clear ho6 hb6 TOP5 Q5 R5 P5 B5
  go_wp2_with fail
  refine (same_yes _ _ _ _ _ _ _ _ _ (S6.out.alloc _) (lit2 w6 1 4294967294 1 4294967294 (by decide) (by decide) rfl rfl) (by simp) (by simp) rfl).mono ?_
  rintro e w7 ⟨rfl, hb7⟩
  have b67 := bl_trans (bl_alloc _ _) hb7
  have Q7 := Lib.hid (Q6.out.below b67)
  have R7 := Lib.hid (R6.out.below b67)
  have P7 := Lib.hid (P6.out.below b67)
  have B7 := Lib.hid (bl_trans B6.out b67)
  clear hb7 b67 Q6 R6 P6 B6 S6
  go_wp2_with fail
  refine (same_yes _ _ _ _ _ _ _ _ _ (Q7.out.alloc _) (lit2 w7 1431655765 1431655765 1431655765 1431655765 (by decide) (by decide) rfl rfl) (by simp) (by simp) rfl).mono ?_
  rintro e w8 ⟨rfl, hb8⟩
  have b78 := bl_trans (bl_alloc _ _) hb8
  have R8 := Lib.hid (R7.out.below b78)
  have P8 := Lib.hid (P7.out.below b78)
  have B8 := Lib.hid (bl_trans B7.out b78)
  clear hb8 b78 Q7 R7 P7 B7
  go_wp2_with fail
  refine (same_yes _ _ _ _ _ _ _ _ _ (R8.out.alloc _) (lit1 w8 1 1 (by decide) rfl) (by simp) (by simp) rfl).mono ?_
  rintro e w9 ⟨rfl, hb9⟩
  have b89 := bl_trans (bl_alloc _ _) hb9
  have P9 := Lib.hid (P8.out.below b89)
  have B9 := Lib.hid (bl_trans B8.out b89)
  clear hb9 b89 R8 P8 B8
  go_wp2_with fail
  have x48 := (lit1 w9 48 48 (by decide) rfl).alloc (.cells #[.int .u32 180] 63)
  have x180 := lit1 (w9.alloc (.cells #[.int .u32 48] 63)) 180 180 (by decide) rfl
  simp only [World.size_alloc] at x180
  refine (gcd_small _ _ _ _ _ _ _ _ _ x48 x180 (by omega) (by omega) (by decide) (by decide)).mono ?_
  rw [show M.lims (Nat.gcd (M.val [48]) (M.val [180])) = [12] from lims_lit1 _ (by decide) (by decide)]
  rintro e w10 ⟨A10, c10, rfl, ho10, hb10⟩
  have b910 := bl_trans (bl_trans (bl_alloc _ _) (bl_alloc _ _)) hb10
  have P10 := Lib.hid (P9.out.below b910)
  have B10 := Lib.hid (bl_trans B9.out b910)
  have S10 := Lib.hid ho10.rd
  clear ho10 hb10 b910 P9 B9 x48 x180
  go_wp2_with fail
  refine (same_yes _ _ _ _ _ _ _ _ _ (S10.out.alloc _) (lit1 w10 12 12 (by decide) rfl) (by simp) (by simp) rfl).mono ?_
  rintro e w11 ⟨rfl, hb11⟩
  have b1011 := bl_trans (bl_alloc _ _) hb11
  have P11 := Lib.hid (P10.out.below b1011)
  have B11 := Lib.hid (bl_trans B10.out b1011)
  clear hb11 b1011 P10 B10 S10
  go_wp2_with fail
  refine (text_any _ _ _ _ _ (lit2 w11 0 1 0 1 (by decide) (by decide) rfl rfl) (by omega)).mono ?_
  rw [text_01]
  rintro e w12 ⟨s12, rfl, hs12, hb12⟩
  obtain rfl : s12 = ⟨#[52, 50, 57, 52, 57, 54, 55, 50, 57, 54]⟩ := M.bytes_inj hs12
  have b1112 := bl_trans (bl_alloc _ _) hb12
  have P12 := Lib.hid (P11.out.below b1112)
  have B12 := Lib.hid (bl_trans B11.out b1112)
  clear hs12 hb12 b1112 P11 B11
  go_wp2_with fail
  refine (text_any _ _ _ [] _ (RdK.empty _ _ _ (fun _ => rfl)) (by omega)).mono ?_
  rintro e w13 ⟨s13, rfl, hs13, hb13⟩
  obtain rfl : s13 = ⟨#[48]⟩ := M.bytes_inj hs13
  have P13 := Lib.hid (P12.out.below hb13)
  have B13 := Lib.hid (bl_trans B12.out hb13)
  clear hs13 hb13 P12 B12
  go_wp2_with fail
  refine (same_yes _ _ _ _ _ _ _ _ _ (P13.out.alloc _) (lit3 w13 0 0 1 0 0 1 (by decide) (by decide) (by decide) rfl rfl rfl) (by simp) (by simp) rfl).mono ?_
  rintro e w14 ⟨rfl, hb14⟩
  have B14 := Lib.hid (bl_trans B13.out (bl_trans (bl_alloc _ _) hb14))
  clear hb14 P13 B13
  go_wp2_with fail
  go_ret
  exact ⟨rfl, B14.out⟩

end Go.Proofs.Ythjgonfohjgfaaa

/- What the laws' walks share: arguments as rows; Small of any row. -/
namespace Go.Proofs.Ythjgonfohjgfaaa
open Go.RowKit
set_option linter.unusedVariables false

/-- An argument that is a slice of 32-bit numbers, as the row's frame opens it, is a row of limbs. -/
theorem rd_of_row {w : World} {a : Option Addr} {len cap : Nat} {zs : List Int} (h : (a = none ∧ len = 0 ∧ cap = 0 ∧ zs = []) ∨
    ∃ x, a = some x ∧ len ≤ cap ∧ cap ≤ maxLen ∧ zs.length = cap ∧ (∀ i, i < zs.length → w.cell? (x.add i) = some (.int .u32 (zs.getD i 0))) ∧ ∀ n ∈ zs, (Lit.int .u32 n).wf = true) :
    Rd w a len cap ((zs.take len).map Int.toNat) ∧ len ≤ maxLen := by
  rcases h with ⟨rfl, rfl, rfl, rfl⟩ | ⟨x, rfl, hl, hm, hz, hc, hwf⟩
  · exact ⟨RdK.empty _ _ _ fun _ => rfl, Nat.zero_le _⟩
  · refine ⟨⟨by rw [List.length_map, List.length_take, hz]; omega, hl, (fun e => by cases e), fun y hy => ?_, fun hn => ?_⟩, Nat.le_trans hl hm⟩
    · obtain ⟨z, hz', rfl⟩ := List.mem_map.1 hy
      have := hwf z (List.mem_of_mem_take hz')
      have hb := bounds_u32 this
      show z.toNat < M.R
      rw [M.R_eq]
      omega
    · obtain ⟨b, off, spot⟩ := x
      have hc0 := hc 0 (by omega)
      have hspot : spot = none := by simpa [Addr.add] using World.cell?_spot hc0
      subst hspot
      refine ⟨b, off, rfl, fun i y hy => ?_⟩
      rw [List.getElem?_map] at hy
      cases hzi : (zs.take len)[i]? with
      | none => rw [hzi] at hy; cases hy
      | some z =>
        rw [hzi] at hy
        cases hy
        have hil : i < len := by
          have := (List.getElem?_eq_some_iff.1 hzi).1
          rw [List.length_take] at this
          omega
        rw [List.getElem?_take, if_pos hil] at hzi
        have h1 := hc i (by omega)
        rw [Addr.add_lit] at h1
        rw [h1, List.getD_eq_getElem?_getD, hzi]
        have hb := bounds_u32 (hwf z (List.mem_of_getElem? hzi))
        simp only [kU32, Option.getD_some]
        rw [Int.toNat_of_nonneg hb.1]

/-- What Small answers. -/
def sv (v : Nat) : Nat := if v < 18446744073709551616 then v else 0
def sb (v : Nat) : Bool := decide (v < 18446744073709551616)
theorem sv_yes {v : Nat} (h : v < 18446744073709551616) : sv v = v := if_pos h
theorem sv_no {v : Nat} (h : ¬ v < 18446744073709551616) : sv v = 0 := if_neg h
theorem sb_yes {v : Nat} (h : v < 18446744073709551616) : sb v = true := decide_eq_true h
theorem sb_no {v : Nat} (h : ¬ v < 18446744073709551616) : sb v = false := decide_eq_false h

theorem small_any (A : Option Addr) (n c : Nat) (xs : List Nat) (w : World) (h : Rd w A n c xs) (hm : n ≤ 4194304) :
    Calls Try.prog 67 #[.slice A n c] w fun e w' => e = .returned (.tuple #[.int .u64 (sv (M.val xs) : Nat), .bool (sb (M.val xs))]) ∧ w = w' := by
  by_cases hv : M.val xs < 18446744073709551616
  · rw [sv_yes hv, sb_yes hv]
    exact small_yes A n c xs w h hm hv
  · rw [sv_no hv, sb_no hv]
    exact small_no A n c xs w h hm hv

end Go.Proofs.Ythjgonfohjgfaaa
