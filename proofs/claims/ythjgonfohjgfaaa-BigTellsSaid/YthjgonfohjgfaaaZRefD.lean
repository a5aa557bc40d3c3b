/- litmusref02's Sign, From. -/
import Derived.Test.YthjgonfohjgfaaaZRefA
namespace Go.Proofs.Ythjgonfohjgfaaa
open Go.RowKit
set_option linter.unusedVariables false
set_option maxRecDepth 100000

section
variable {w w' : World} {v v' : Value} {s t : Bool} {A B : Option Addr} {n c m d x y k j : Nat} {z u : Int}
set_option maxHeartbeats 1000000

theorem tm_len0 (h : Tm w A n c z.natAbs k) (hz : z = 0) : n = 0 := by
  have := h.len
  subst hz
  rw [show M.lims (Int.natAbs 0) = [] from M.lims_zero] at this
  exact this.symm
theorem tm_len1 (h : Tm w A n c z.natAbs k) (hz : z ≠ 0) : 0 < n := by
  rw [← h.len]
  refine List.length_pos_iff.2 fun e => ?_
  rw [M.lims_eq_nil] at e
  omega

theorem cRefSign {q : Int} (h : IsM w v z k) (hk : k ≤ 1000) (hq : sgn z = q) : Calls Try.prog 29 #[v] w (Ans w fun _ v => v = .int .i64 q) := by
  obtain ⟨s, A, n, c, rfl, Z⟩ := h
  have X : IsM (w.alloc (.cells #[.bool s, .slice A n c] 32)) (.agg #[.bool s, .slice A n c]) z k := ⟨_, _, _, _, rfl, Z.alloc _⟩
  have PA := Bz.new w s A n c
  have BB := bl_alloc w (.cells #[.bool s, .slice A n c] 32)
  have HQ := Lib.hid hq
  clear Z hq
  go_enter Try.func29, Try.ntmps29
  go_wp2_with fail
  refine (cRefMade X hk).mono ?_
  rintro e w1 ⟨_, rfl, hb1, b1, A1, n1, c1, rfl, T1, hn1⟩
  replace PA := PA.below hb1
  have HB2 := Lib.hid (st_B (bl_trans BB hb1) (Nat.le_refl _) (.bool b1) (.slice A1 n1 c1))
  have r0 := PA.c0
  have r1 := PA.c1
  have f0 := PA.f 0
  have f1 := PA.f 1
  have PA2 := st_P (t := b1) (B := A1) (m := n1) (d := c1) PA
  have a0 := PA2.c0
  have a1 := PA2.c1
  have hle := T1.le
  clear hb1 X PA PA2 BB
  rcases sgn_cases z with ⟨hz, hs⟩ | ⟨hz, hs⟩ | ⟨hz, hs⟩
  · obtain rfl : b1 = true := hn1.trans (decide_eq_true hz)
    have HE := Lib.hid (hs.symm.trans HQ.out)
    clear hn1 hs T1
    go_wp2_with fail
    go_ret
    exact ⟨_, rfl, HB2.out, by rw [← HE.out]; rfl⟩
  · obtain rfl : b1 = false := hn1.trans (decide_eq_false (by omega))
    obtain rfl := tm_len0 T1 hz
    have HE := Lib.hid (hs.symm.trans HQ.out)
    clear hn1 hs T1
    go_wp2_with fail
    go_ret
    exact ⟨_, rfl, HB2.out, by rw [← HE.out]; rfl⟩
  · obtain rfl : b1 = false := hn1.trans (decide_eq_false (by omega))
    have hpos := tm_len1 T1 (by omega)
    have HE := Lib.hid (hs.symm.trans HQ.out)
    clear hn1 hs T1
    by_cases h1 : n1 = 1
    · subst h1
      go_wp2_with fail
      go_ret
      exact ⟨_, rfl, HB2.out, by rw [← HE.out]; rfl⟩
    · have hgt : (1 : Int) < n1 := by omega
      go_wp2_with fail
      go_ret
      exact ⟨_, rfl, HB2.out, by rw [← HE.out]; rfl⟩

theorem rd_two (w : World) (a b : Nat) (ha : a < M.R) (hb : b < M.R) : Nm (w.alloc (.cells #[.int .u32 (a : Int), .int .u32 (b : Int)] 63)) (some ⟨w.heap.size, 0, none⟩) 2 2 (a + M.R * b) 2 := by
  refine ⟨⟨[a, b], ⟨rfl, by omega, (fun e => by cases e), ?_, fun _ => ⟨w.heap.size, 0, rfl, fun i x hx => ?_⟩⟩, by simp [M.val]⟩, by omega⟩
  · intro x hx
    simp at hx
    rcases hx with rfl | rfl
    · exact ha
    · exact hb
  · rw [cell_of_row _ w.heap.size _ _ _ _ (heap_alloc_new w _)]
    match i, hx with
    | 0, hx => simp at hx; subst hx; rfl
    | 1, hx => simp at hx; subst hx; rfl

theorem u64_back (x : Int) (h0 : x < 0) (h1 : -9223372036854775808 ≤ x) : IntKind.u64.wrap (bits .xor .u64 IntKind.u64.max (IntKind.u64.wrap x) + 1) = -x := by
  obtain ⟨y, hy⟩ : ∃ y : Nat, IntKind.u64.wrap x = (y : Int) ∧ (y : Int) = x + 18446744073709551616 := ⟨(x + 18446744073709551616).toNat, by rw [IntKind.wrap_u64]; omega, by omega⟩
  rw [hy.1]
  have h2 : (BitVec.ofInt 64 (y : Int)).toNat = y := by
    rw [BitVec.ofInt_natCast, BitVec.toNat_ofNat]; exact Nat.mod_eq_of_lt (by omega)
  have h3 : (BitVec.ofInt 64 IntKind.u64.max).toNat = 2 ^ 64 - 1 := by decide
  have h4 : bits .xor .u64 IntKind.u64.max (y : Int) = ((18446744073709551615 - y : Nat) : Int) := by
    show IntKind.u64.wrap ((BitVec.ofInt 64 IntKind.u64.max ^^^ BitVec.ofInt 64 (y : Int)).toNat : Int) = _
    rw [BitVec.toNat_xor, h2, h3, Lib.xor_ones64 y (by omega), IntKind.wrap_u64]
    omega
  rw [h4, IntKind.wrap_u64]
  omega

theorem from_fin {W : World} (s : Bool) (a : Nat) (ha : a < 18446744073709551616) (p q : Int) (hp : p = (a : Int) % 4294967296) (hq : q = (a : Int) / 4294967296 % 4294967296) :
    Nm (W.alloc (.cells #[.int .u32 p, .int .u32 q] 63)) (some ⟨W.heap.size, 0, none⟩) 2 2 a 2 := by
  have hR := M.R_eq
  have := rd_two W (a % 4294967296) (a / 4294967296 % 4294967296) (by omega) (by omega)
  have e : a % 4294967296 + M.R * (a / 4294967296 % 4294967296) = a := by rw [hR]; omega
  rw [e] at this
  have e1 : p = ((a % 4294967296 : Nat) : Int) := by omega
  have e2 : q = ((a / 4294967296 % 4294967296 : Nat) : Int) := by omega
  rw [e1, e2]
  exact this

theorem cRefFrom_pos (x : Int) (h0 : 0 ≤ x) (h1 : x < 9223372036854775808) : Calls Try.prog 14 #[.int .i64 x] w (Ans w fun w' v => IsT w' v x 2) := by
  have BB := bl_alloc w (.cells #[.bool false, .slice none 0 0] 32)
  have PR := Bz.new w false none 0 0
  go_enter Try.func14, Try.ntmps14
  go_wp2_with fail
  have X := from_fin (W := w.alloc (.cells #[.bool false, .slice none 0 0] 32)) false x.toNat (by omega) (x % 4294967296) (x / 4294967296) (by omega) (by omega)
  rw [hs_alloc] at X
  rw [show decide (x < 0) = false from decide_eq_false (by omega)]
  refine (cRefOf false X (by omega)).mono ?_
  rintro e w4 ⟨_, rfl, hb4, b4, A4, n4, c4, rfl, T4, hn⟩
  replace BB := bl_trans (bl_trans BB (bl_alloc _ _)) hb4
  replace PR := (PR.alloc _).below hb4
  have r0 := PR.c0
  have r1 := PR.c1
  have f0 := PR.f 0
  have f1 := PR.f 1
  have hx : zv false x.toNat = x := by rw [zv_false]; omega
  rw [hx] at T4 hn
  have HN := Lib.hid hn
  clear hb4 hn X hx
  go_wp2_with fail
  exact bodyPost_ret (v := .agg #[.bool b4, .slice A4 n4 c4]) (by simp [results, Try.results14, go_sem, *]) rfl (IsT.fin ⟨_, _, _, _, rfl, T4, HN.out⟩ PR BB (by omega))
theorem cRefFrom_neg (x : Int) (h0 : x < 0) (h1 : -9223372036854775808 ≤ x) : Calls Try.prog 14 #[.int .i64 x] w (Ans w fun w' v => IsT w' v x 2) := by
  have BB := bl_alloc w (.cells #[.bool false, .slice none 0 0] 32)
  have PR := Bz.new w false none 0 0
  go_enter Try.func14, Try.ntmps14
  go_wp2_with fail
  all_goals try (exfalso; omega)
  rw [u64_back x h0 h1]
  have X := from_fin (W := w.alloc (.cells #[.bool false, .slice none 0 0] 32)) true (-x).toNat (by omega) (-x % 4294967296) (-x / 4294967296 % 4294967296) (by omega) (by omega)
  rw [hs_alloc] at X
  refine (cRefOf true X (by omega)).mono ?_
  rintro e w4 ⟨_, rfl, hb4, b4, A4, n4, c4, rfl, T4, hn⟩
  replace BB := bl_trans (bl_trans BB (bl_alloc _ _)) hb4
  replace PR := (PR.alloc _).below hb4
  have r0 := PR.c0
  have r1 := PR.c1
  have f0 := PR.f 0
  have f1 := PR.f 1
  have hx : zv true (-x).toNat = x := by rw [zv_true]; omega
  rw [hx] at T4 hn
  have HN := Lib.hid hn
  clear hb4 hn X hx
  go_wp2_with fail
  exact bodyPost_ret (v := .agg #[.bool b4, .slice A4 n4 c4]) (by simp [results, Try.results14, go_sem, *]) rfl (IsT.fin ⟨_, _, _, _, rfl, T4, HN.out⟩ PR BB (by omega))
theorem cRefFrom (x : Int) (h0 : -9223372036854775808 ≤ x) (h1 : x < 9223372036854775808) : Calls Try.prog 14 #[.int .i64 x] w (Ans w fun w' v => IsT w' v x 2) := by
  by_cases h : x < 0
  · exact cRefFrom_neg x h h0
  · exact cRefFrom_pos x (by omega) h1
end

end Go.Proofs.Ythjgonfohjgfaaa
