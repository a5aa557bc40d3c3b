/-
  LexWords: walked.
-/
import Derived.Test.YtgglmmipdfcbpaaDoorXQuoL
import Derived.Test.YtgglmmipdfcbpaaDoorRLex
namespace Go.Proofs.YtgglmmipdfcbpaaDoor
open Go.RowKit
set_option linter.unusedVariables false

theorem few_c (s : ByteArray) (n : Nat) (N : Int) (w : World) (hN : N = (n : Int)) (hn : n ≤ 1000) : Calls Tryd.prog 10 #[.string s, .int .i64 N] w fun e w' => (∃ u : ByteArray, e = .returned (.string u) ∧ u.size ≤ n) ∧ w = w' := by
  subst hN
  by_cases h : s.size ≤ n
  · go_enter Tryd.func10, Tryd.ntmps10
    go_wp2
    go_ret
    exact ⟨⟨_, rfl, h⟩, rfl⟩
  · have h2 : n ≤ s.size := by omega
    go_enter Tryd.func10, Tryd.ntmps10
    go_wp2
    go_ret
    refine ⟨⟨_, rfl, ?_⟩, rfl⟩
    rw [ByteArray.size_extract]
    omega
theorem iff_bool {a b : Bool} {p : Prop} (h : a = true ↔ p) (h2 : b = true ↔ p) : b = a := by
  cases a <;> cases b <;> simp_all
theorem bl_trans {w w1 w2 : World} (h : Below w.heap.size w w1) (k : Below w1.heap.size w1 w2) : Below w.heap.size w w2 := h.trans (k.mono h.size)
theorem cell0_below {w w' : World} {v : Value} (h : w.cell? ⟨0, 0, none⟩ = some v) (hb : Below w.heap.size w w') : w'.cell? ⟨0, 0, none⟩ = some v := by
  have hl : 0 < w.heap.size := by
    rcases Nat.eq_zero_or_pos w.heap.size with h0 | h0
    · simp [World.cell?, h0] at h
    · exact h0
  have := hb.block 0 hl
  simpa [World.cell?, this] using h
theorem index_a4 (w : World) (a b c d : ByteArray) : (Instr.index 40 (.agg #[.string a, .string b, .string c, .string d]) (.int .i64 0)).run Tryd.prog w = .ok (.string a) w ∧
    (Instr.index 40 (.agg #[.string a, .string b, .string c, .string d]) (.int .i64 1)).run Tryd.prog w = .ok (.string b) w ∧
    (Instr.index 40 (.agg #[.string a, .string b, .string c, .string d]) (.int .i64 2)).run Tryd.prog w = .ok (.string c) w ∧
    (Instr.index 40 (.agg #[.string a, .string b, .string c, .string d]) (.int .i64 3)).run Tryd.prog w = .ok (.string d) w := by
  refine ⟨?_, ?_, ?_, ?_⟩ <;> simp [Instr.index, run_underlying Tryd.underlying40, asIntOf, go_sem]

set_option maxRecDepth 20000 in
set_option maxHeartbeats 4000000 in
theorem words_walk (s t : ByteArray) (w : World) (hg : w.cell? ⟨0, 0, none⟩ = some handle) : Calls Tryd.prog 4 #[.string s, .string t] w fun e w' => e = .returned (.bool true) ∧ Below w.heap.size w w' := by
  have HG := Lib.hid hg
  clear hg
  go_enter Tryd.func4, Tryd.ntmps4
  go_wp2_with (first
    | (go_at_call 10; have hx := hs1; clear hx; refine (few_c _ 60 60 _ rfl (by omega)).mono ?_; rintro _ _ ⟨⟨t1, rfl, ht1⟩, rfl⟩)
    | (go_at_call 10; refine (few_c _ 60 60 _ rfl (by omega)).mono ?_; rintro _ _ ⟨⟨s1, rfl, hs1⟩, rfl⟩))
  have z3 := Lib.hid (show ((⟨#[45]⟩ : ByteArray) ++ s1).size ≤ 1048576 by rw [ByteArray.size_append]; have : (⟨#[45]⟩ : ByteArray).size = 1 := rfl; omega)
  have z4 := Lib.hid (show (s1 ++ (⟨#[63]⟩ : ByteArray)).size ≤ 1048576 by rw [ByteArray.size_append]; have : (⟨#[63]⟩ : ByteArray).size = 1 := rfl; omega)
  go_loopw [18] (fun p wr => ∃ k : Nat, k ≤ 4 ∧ p = .int .i64 (k : Int) ∧ Below w.heap.size w wr) (fun p _ => 4 - (intOf p).toNat)
  case atStart => exact ⟨0, by omega, rfl, .refl _ _⟩
  case round =>
    obtain ⟨k, hk, rfl, hbk⟩ := hrel
    have HB := Lib.hid hbk
    clear hbk
    obtain ⟨i0, i1, i2, i3⟩ := index_a4 wr s1 t1 ((⟨#[45]⟩ : ByteArray) ++ s1) (s1 ++ (⟨#[63]⟩ : ByteArray))
    rcases (show k = 0 ∨ k = 1 ∨ k = 2 ∨ k = 3 ∨ k = 4 by omega) with rfl | rfl | rfl | rfl | rfl
    · go_wp2_with (first
          | (go_at_call 16; refine (nameL_c _ _ (by omega)).mono ?_; rintro _ _ ⟨⟨b1, rfl, hb⟩, rfl⟩; have HN := Lib.hid hb; clear hb)
          | (go_at_call 17; refine (nameN_c _ _ (by omega)).mono ?_; rintro _ _ ⟨⟨b2, rfl, hb⟩, rfl⟩; obtain rfl := iff_bool HN.out hb; clear hb)
          | (go_at_call 18; refine (numL_c _ _ (by omega)).mono ?_; rintro _ _ ⟨⟨b3, rfl, hb⟩, rfl⟩; have HM := Lib.hid hb; clear hb)
          | (go_at_call 19; refine (numN_c _ _ (by omega)).mono ?_; rintro _ _ ⟨⟨b4, rfl, hb⟩, rfl⟩; obtain rfl := iff_bool HM.out hb; clear hb)
          | (go_at_call 20; refine (quoteL_c _ _ (by omega)).mono ?_; rintro _ w5 ⟨⟨t1, rfl, hb⟩, hl⟩; have HT := Lib.hid hb; have HB5 := Lib.hid (bl_trans HB.out hl); clear hb hl)
          | (go_at_call 21; refine (quoteR_c _ _ (by omega)).mono ?_; rintro _ w6 ⟨⟨t2, rfl, hb⟩, hl⟩; obtain rfl := M.bytes_inj (hb.trans HT.out.symm); have HB6 := Lib.hid (bl_trans HB5.out hl); clear hb hl))
      exact ⟨⟨1, by omega, rfl, HB6.out⟩, by simp [intOf]⟩
    · go_wp2_with (first
          | (go_at_call 16; refine (nameL_c _ _ (by omega)).mono ?_; rintro _ _ ⟨⟨b1, rfl, hb⟩, rfl⟩; have HN := Lib.hid hb; clear hb)
          | (go_at_call 17; refine (nameN_c _ _ (by omega)).mono ?_; rintro _ _ ⟨⟨b2, rfl, hb⟩, rfl⟩; obtain rfl := iff_bool HN.out hb; clear hb)
          | (go_at_call 18; refine (numL_c _ _ (by omega)).mono ?_; rintro _ _ ⟨⟨b3, rfl, hb⟩, rfl⟩; have HM := Lib.hid hb; clear hb)
          | (go_at_call 19; refine (numN_c _ _ (by omega)).mono ?_; rintro _ _ ⟨⟨b4, rfl, hb⟩, rfl⟩; obtain rfl := iff_bool HM.out hb; clear hb)
          | (go_at_call 20; refine (quoteL_c _ _ (by omega)).mono ?_; rintro _ w5 ⟨⟨t1, rfl, hb⟩, hl⟩; have HT := Lib.hid hb; have HB5 := Lib.hid (bl_trans HB.out hl); clear hb hl)
          | (go_at_call 21; refine (quoteR_c _ _ (by omega)).mono ?_; rintro _ w6 ⟨⟨t2, rfl, hb⟩, hl⟩; obtain rfl := M.bytes_inj (hb.trans HT.out.symm); have HB6 := Lib.hid (bl_trans HB5.out hl); clear hb hl))
      exact ⟨⟨2, by omega, rfl, HB6.out⟩, by simp [intOf]⟩
    · go_wp2_with (first
          | (go_at_call 16; refine (nameL_c _ _ z3.out).mono ?_; rintro _ _ ⟨⟨b1, rfl, hb⟩, rfl⟩; have HN := Lib.hid hb; clear hb)
          | (go_at_call 17; refine (nameN_c _ _ z3.out).mono ?_; rintro _ _ ⟨⟨b2, rfl, hb⟩, rfl⟩; obtain rfl := iff_bool HN.out hb; clear hb)
          | (go_at_call 18; refine (numL_c _ _ z3.out).mono ?_; rintro _ _ ⟨⟨b3, rfl, hb⟩, rfl⟩; have HM := Lib.hid hb; clear hb)
          | (go_at_call 19; refine (numN_c _ _ z3.out).mono ?_; rintro _ _ ⟨⟨b4, rfl, hb⟩, rfl⟩; obtain rfl := iff_bool HM.out hb; clear hb)
          | (go_at_call 20; refine (quoteL_c _ _ z3.out).mono ?_; rintro _ w5 ⟨⟨t1, rfl, hb⟩, hl⟩; have HT := Lib.hid hb; have HB5 := Lib.hid (bl_trans HB.out hl); clear hb hl)
          | (go_at_call 21; refine (quoteR_c _ _ z3.out).mono ?_; rintro _ w6 ⟨⟨t2, rfl, hb⟩, hl⟩; obtain rfl := M.bytes_inj (hb.trans HT.out.symm); have HB6 := Lib.hid (bl_trans HB5.out hl); clear hb hl))
      exact ⟨⟨3, by omega, rfl, HB6.out⟩, by simp [intOf]⟩
    · go_wp2_with (first
          | (go_at_call 16; refine (nameL_c _ _ z4.out).mono ?_; rintro _ _ ⟨⟨b1, rfl, hb⟩, rfl⟩; have HN := Lib.hid hb; clear hb)
          | (go_at_call 17; refine (nameN_c _ _ z4.out).mono ?_; rintro _ _ ⟨⟨b2, rfl, hb⟩, rfl⟩; obtain rfl := iff_bool HN.out hb; clear hb)
          | (go_at_call 18; refine (numL_c _ _ z4.out).mono ?_; rintro _ _ ⟨⟨b3, rfl, hb⟩, rfl⟩; have HM := Lib.hid hb; clear hb)
          | (go_at_call 19; refine (numN_c _ _ z4.out).mono ?_; rintro _ _ ⟨⟨b4, rfl, hb⟩, rfl⟩; obtain rfl := iff_bool HM.out hb; clear hb)
          | (go_at_call 20; refine (quoteL_c _ _ z4.out).mono ?_; rintro _ w5 ⟨⟨t1, rfl, hb⟩, hl⟩; have HT := Lib.hid hb; have HB5 := Lib.hid (bl_trans HB.out hl); clear hb hl)
          | (go_at_call 21; refine (quoteR_c _ _ z4.out).mono ?_; rintro _ w6 ⟨⟨t2, rfl, hb⟩, hl⟩; obtain rfl := M.bytes_inj (hb.trans HT.out.symm); have HB6 := Lib.hid (bl_trans HB5.out hl); clear hb hl))
      exact ⟨⟨4, by omega, rfl, HB6.out⟩, by simp [intOf]⟩
    · go_wp2_with (go_at_call 15; refine (cWorks5 _ (cell0_below HG.out HB.out)).mono ?_; rintro _ w7 ⟨rfl, hl⟩; have HB7 := Lib.hid (bl_trans HB.out hl); clear hl)
      go_ret
      exact ⟨rfl, HB7.out⟩
end Go.Proofs.YtgglmmipdfcbpaaDoor
