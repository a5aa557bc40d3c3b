import Derived.BigRegion
import Derived.IntWalk
import Derived.Test.YthhkpoobcnmdgaaDoorBZ1
import Derived.Test.YthhkpoobcnmdgaaDoorXTextRB
/-
  litmusref05.text: walked.
-/
namespace Go.Proofs.YthhkpoobcnmdgaaDoor
open Go.RowKit
set_option linter.unusedVariables false

theorem conv1 (x : Nat) (hx : x < 256) (w : World) : (convert 24 9 (.slice (some ⟨w.heap.size, 0, none⟩) 1 1)).run Tryd.prog (w.alloc (.cells #[.int .u8 (x : Int)] 5)) = .ok (.string (strOfNums [(x : Int)])) (w.alloc (.cells #[.int .u8 (x : Int)] 5)) := by
  refine run_convert_bytes_arg (P := Tryd.prog) _ 24 5 Tryd.underlying24 Tryd.underlying5 w.heap.size 0 1 1 [(x : Int)] rfl (fun i hi => ?_) 9 Tryd.underlying9
  obtain rfl : i = 0 := by omega
  rw [cell_of_row _ _ _ _ _ _ (heap_alloc_new w (.cells #[.int .u8 (x : Int)] 5))]
  rfl
theorem conv1_bytes (x : Nat) (hx : x < 256) : M.bytes (strOfNums [(x : Int)]) = [x] := bytes_of (l := [x]) (by simpa using hx)
theorem slice1 (s : ByteArray) (n : Nat) (h : n < s.size) : M.bytes (s.extract n (n + 1)) = [s[n].toNat] ∧ (s.extract n (n + 1)).size = 1 := ⟨bytes_one s n h, by rw [ByteArray.size_extract]; omega⟩

set_option maxRecDepth 20000 in
set_option maxHeartbeats 4000000 in
theorem textRef_c (s : ByteArray) (a : Nat) (w : World) (hs : s.size ≤ 1000000) (ha : a < s.size) (hq : by_ s a = 34) : Calls Tryd.prog 35 #[.string s, .int .i64 a] w fun e w' => textE (textL ((M.bytes s).drop a)) e ∧ Below w.heap.size w w' := by
  obtain ⟨TT, hTT⟩ : ∃ TT, textL ((M.bytes s).drop a) = TT := ⟨_, rfl⟩
  rw [hTT]
  have H0 := Lib.hid (show TT = tgF s a (a + 1) [] by rw [← hTT]; exact tg_start ha hq)
  clear hTT hq
  go_enter Tryd.func35, Tryd.ntmps35
  go_wp2
  go_loopw [6, 7, 8] (fun o i u wr => ∃ (n : Nat) (O : ByteArray), a + 1 ≤ n ∧ n ≤ s.size ∧ i = .int .i64 n ∧ o = .string O ∧ TT = tgF s a n (M.bytes O) ∧ Below w.heap.size w wr ∧ O.size ≤ n) (fun _ i _ _ => s.size - (intOf i).toNat)
  case atStart => exact ⟨a + 1, _, Nat.le_refl _, ha, by go_num, rfl, H0.out, Below.refl _ _, by show 0 ≤ _; omega⟩
  case round =>
    obtain ⟨n, O, han, hns, rfl, rfl, hd, hb, hO⟩ := hrel
    have HD := Lib.hid hd
    have HB := Lib.hid hb
    clear hd hb
    by_cases hn : n < s.size
    · have hx := by_at hn
      have l0 := byte_lt s n hn
      cases q : (((s[n].toNat : Nat) : Int) == 34) with
      | true =>
        have hne : (((s[n].toNat : Nat) : Int) != 34) = false := by unfold bne; rw [q]; rfl
        have HN := Lib.hid (show TT = some (M.bytes O, n - a + 1) by rw [HD.out]; exact tg_quote hn (by rw [hx]; exact eq_of_beq q))
        clear hx
        go_wp2
        go_ret2
        rw [HN.out]
        have hv : ((n - a + 1 : Nat) : Int) = (n : Int) + 1 - a := by omega
        exact ⟨⟨O, by rw [hv]; rfl, rfl⟩, HB.out⟩
      | false =>
        have hq34 : by_ s n ≠ 34 := by rw [hx]; exact ne_of_beq_false q
        have hne : (((s[n].toNat : Nat) : Int) != 34) = true := by unfold bne; rw [q]; rfl
        by_cases b1 : s[n].toNat < 32
        · have d1 : decide (((s[n].toNat : Nat) : Int) < 32) = true := decide_eq_true (by omega)
          have HN := Lib.hid (show TT = none by rw [HD.out, tg_bad hn hq34 (by rw [item_at, if_pos (by rw [hx]; unfold prB; simp; omega)])])
          clear hx hq34
          go_wp2
          go_ret2
          rw [HN.out]
          exact ⟨rfl, HB.out⟩
        · have d1 : decide (((s[n].toNat : Nat) : Int) < 32) = false := decide_eq_false (by omega)
          by_cases b2 : 126 < s[n].toNat
          · have d2 : decide ((126 : Int) < ((s[n].toNat : Nat) : Int)) = true := decide_eq_true (by omega)
            have HN := Lib.hid (show TT = none by rw [HD.out, tg_bad hn hq34 (by rw [item_at, if_pos (by rw [hx]; unfold prB; simp; omega)])])
            clear hx hq34
            go_wp2
            go_ret2
            rw [HN.out]
            exact ⟨rfl, HB.out⟩
          · have d2 : decide ((126 : Int) < ((s[n].toNat : Nat) : Int)) = false := decide_eq_false (by omega)
            have hpr : ¬ prB (by_ s n) = false := by rw [hx]; unfold prB; simp; omega
            cases q2 : (((s[n].toNat : Nat) : Int) == 92) with
            | false =>
              have hne2 : (((s[n].toNat : Nat) : Int) != 92) = true := by unfold bne; rw [q2]; rfl
              obtain ⟨e1, e2⟩ := slice1 s n hn
              have HN := Lib.hid (show TT = tgF s a (n + 1) (M.bytes O ++ [s[n].toNat]) by rw [HD.out]; exact tg_item hn (by omega) hq34 (by rw [item_at, if_neg hpr, if_pos (by rw [hx]; exact ne_of_beq_false q2), hx]; rfl) (by omega))
              have E1 := Lib.hid e1
              have E2 := Lib.hid e2
              clear hx hq34 hpr e1 e2
              go_wp2
              go_roundw
              case rel => exact ⟨n + 1, O ++ s.extract n (n + 1), by omega, by omega, by go_num, rfl, by rw [HN.out, bytes_app, E1.out], HB.out, by rw [ByteArray.size_append, E2.out]; omega⟩
              case measure => simp [intOf]; omega
            | true =>
              have hne2 : (((s[n].toNat : Nat) : Int) != 92) = false := by unfold bne; rw [q2]; rfl
              have h92 : ¬ by_ s n ≠ 92 := by rw [hx]; exact fun h => h (eq_of_beq q2)
              by_cases hn1 : n + 1 < s.size
              · have hx1 := by_at hn1
                have l1 := byte_lt s (n + 1) hn1
                by_cases c110 : s[n + 1].toNat = 110
                · have g1 : (((s[n + 1].toNat : Nat) : Int) == 110) = true := by simp [c110]
                  have HN := Lib.hid (show TT = tgF s a (n + 2) (M.bytes O ++ [10]) by rw [HD.out]; exact tg_item hn (by omega) hq34 (by rw [item_at, if_neg hpr, if_neg h92, hx1, if_neg (by omega), if_pos (by omega)]; rfl) (by omega))
                  clear hx hq34 hpr h92 hx1 c110
                  go_wp2
                  go_roundw
                  case rel => exact ⟨n + 2, O ++ (⟨#[10]⟩ : ByteArray), by omega, by omega, by go_num, rfl, by rw [HN.out, bytes_app]; rfl, HB.out, by rw [ByteArray.size_append]; have : (⟨#[10]⟩ : ByteArray).size = 1 := rfl; omega⟩
                  case measure => simp [intOf]; omega
                · have g1 : (((s[n + 1].toNat : Nat) : Int) == 110) = false := by simp; omega
                  by_cases c34 : s[n + 1].toNat = 34 ∨ s[n + 1].toNat = 92
                  · obtain ⟨e1, e2⟩ := slice1 s (n + 1) hn1
                    have HN := Lib.hid (show TT = tgF s a (n + 2) (M.bytes O ++ [s[n + 1].toNat]) by rw [HD.out]; exact tg_item hn (by omega) hq34 (by rw [item_at, if_neg hpr, if_neg h92, hx1, if_pos (by omega)]; rfl) (by omega))
                    have E1 := Lib.hid e1
                    have E2 := Lib.hid e2
                    clear hx hq34 hpr h92 hx1 e1 e2 c110
                    rcases c34 with c | c
                    · have g2 : (((s[n + 1].toNat : Nat) : Int) == 34) = true := by simp [c]
                      clear c
                      go_wp2
                      go_roundw
                      case rel => exact ⟨n + 2, O ++ s.extract (n + 1) (n + 1 + 1), by omega, by omega, by go_num, rfl, by rw [HN.out, bytes_app, E1.out], HB.out, by rw [ByteArray.size_append, E2.out]; omega⟩
                      case measure => simp [intOf]; omega
                    · have g2 : (((s[n + 1].toNat : Nat) : Int) == 34) = false := by simp [c]
                      have g3 : (((s[n + 1].toNat : Nat) : Int) == 92) = true := by simp [c]
                      clear c
                      go_wp2
                      go_roundw
                      case rel => exact ⟨n + 2, O ++ s.extract (n + 1) (n + 1 + 1), by omega, by omega, by go_num, rfl, by rw [HN.out, bytes_app, E1.out], HB.out, by rw [ByteArray.size_append, E2.out]; omega⟩
                      case measure => simp [intOf]; omega
                  · have g2 : (((s[n + 1].toNat : Nat) : Int) == 34) = false := by simp; omega
                    have g3 : (((s[n + 1].toNat : Nat) : Int) == 92) = false := by simp; omega
                    by_cases c120 : s[n + 1].toNat = 120
                    · have g4 : (((s[n + 1].toNat : Nat) : Int) == 120) = true := by simp [c120]
                      have hit : itemL ((M.bytes s).drop n) = if 0 ≤ hexV (by_ s (n + 2)) ∧ 0 ≤ hexV (by_ s (n + 3)) then (16 * hexV (by_ s (n + 2)) + hexV (by_ s (n + 3)), 4) else (0, 0) := by
                        rw [item_at, if_neg hpr, if_neg h92, hx1, if_neg (by omega), if_neg (by omega), if_pos (by omega)]
                      have HI := Lib.hid hit
                      have H34 := Lib.hid hq34
                      clear hx hpr h92 hx1 c110 c34 c120 hit hq34
                      by_cases hn3 : n + 3 < s.size
                      · have hx2 := by_at (show n + 2 < s.size by omega)
                        have hx3 := by_at hn3
                        have l2 := byte_lt s (n + 2) (by omega)
                        have l3 := byte_lt s (n + 3) hn3
                        have rp := hexV_range ((s[n + 2].toNat : Nat) : Int)
                        have rq := hexV_range ((s[n + 3].toNat : Nat) : Int)
                        rw [hx2, hx3] at HI
                        obtain ⟨p, hp⟩ : ∃ p, hexV ((s[n + 2].toNat : Nat) : Int) = p := ⟨_, rfl⟩
                        obtain ⟨q, hqq⟩ : ∃ q, hexV ((s[n + 3].toNat : Nat) : Int) = q := ⟨_, rfl⟩
                        rw [hp] at rp HI
                        rw [hqq] at rq HI
                        have HP := Lib.hid hp
                        have HQ := Lib.hid hqq
                        clear hp hqq hx2 hx3
                        by_cases hp0 : p < 0
                        · have k1 : decide ((0 : Int) ≤ p) = false := decide_eq_false (by omega)
                          have HN := Lib.hid (show TT = none by rw [HD.out, tg_bad hn H34.out (by rw [HI.out, if_neg (by omega)])])
                          go_wp2_with (go_at_call 57; refine (hexR_c _ _ (by omega) (by omega)).mono ?_; rintro _ _ ⟨rfl, rfl⟩; (first | rw [HP.out] | rw [HQ.out]))
                          go_ret2
                          rw [HN.out]
                          exact ⟨rfl, HB.out⟩
                        · have k1 : decide ((0 : Int) ≤ p) = true := decide_eq_true (by omega)
                          by_cases hq0 : q < 0
                          · have k2 : decide ((0 : Int) ≤ q) = false := decide_eq_false (by omega)
                            have HN := Lib.hid (show TT = none by rw [HD.out, tg_bad hn H34.out (by rw [HI.out, if_neg (by omega)])])
                            go_wp2_with (go_at_call 57; refine (hexR_c _ _ (by omega) (by omega)).mono ?_; rintro _ _ ⟨rfl, rfl⟩; (first | rw [HP.out] | rw [HQ.out]))
                            go_ret2
                            rw [HN.out]
                            exact ⟨rfl, HB.out⟩
                          · have k2 : decide ((0 : Int) ≤ q) = true := decide_eq_true (by omega)
                            obtain ⟨p, rfl⟩ := Int.eq_ofNat_of_zero_le (show 0 ≤ p by omega)
                            obtain ⟨q, rfl⟩ := Int.eq_ofNat_of_zero_le (show 0 ≤ q by omega)
                            have hpl : p < 16 := by omega
                            have hql : q < 16 := by omega
                            obtain ⟨x, hxv⟩ : ∃ x, 16 * p + q = x := ⟨_, rfl⟩
                            have hx256 : x < 256 := by omega
                            have HN := Lib.hid (show TT = tgF s a (n + 4) (M.bytes O ++ [x]) by rw [HD.out]; exact tg_item hn (by omega) H34.out (by rw [HI.out, if_pos (by omega), ← hxv]; push_cast; rfl) (by omega))
                            have w1 : IntKind.i64.wrap (16 * (p : Int)) = 16 * (p : Int) := IntWalk.i64_in _ (by omega)
                            have w2 : IntKind.i64.wrap (16 * (p : Int) + (q : Int)) = (x : Int) := by rw [IntWalk.i64_in _ (by omega)]; omega
                            have w3 : IntKind.u8.wrap (x : Int) = (x : Int) := by rw [IntKind.wrap_u8]; omega
                            have CV : (convert 24 9 (.slice (some ⟨wr.heap.size, 0, none⟩) 1 1)).run Tryd.prog ((wr.alloc (.cells #[.int .u8 (x : Int)] 5)).drew) = .ok (.string (strOfNums [(x : Int)])) ((wr.alloc (.cells #[.int .u8 (x : Int)] 5)).drew) := conv1 x hx256 wr.drew
                            have CB := Lib.hid (conv1_bytes x hx256)
                            have CS := Lib.hid (show (strOfNums [(x : Int)]).size = 1 by rw [← M.bytes_len, CB.out]; rfl)
                            have hsz1 : (strOfNums [(x : Int)]).size ≤ 1 := by rw [CS.out]; exact Nat.le_refl _
                            have s1 : IntKind.i64.wrap ((n : Int) + 2) = (n : Int) + 2 := IntWalk.i64_in _ (by omega)
                            have s2 : IntKind.i64.wrap ((n : Int) + 3) = (n : Int) + 3 := IntWalk.i64_in _ (by omega)
                            have s3 : ((n : Int) + 2).toNat = n + 2 := by omega
                            have s4 : ((n : Int) + 3).toNat = n + 3 := by omega
                            have s5 : (0 : Int) ≤ (n : Int) + 2 := by omega
                            have s6 : (0 : Int) ≤ (n : Int) + 3 := by omega
                            have s7 : (n : Int) + 2 < (s.size : Int) := by omega
                            have s8 : (n : Int) + 3 < (s.size : Int) := by omega
                            have h2n : n + 2 < s.size := by omega
                            clear rp rq hp0 hq0 hxv
                            go_wp2_with (go_at_call 57; refine (hexR_c _ _ (by omega) (by omega)).mono ?_; rintro _ _ ⟨rfl, rfl⟩; (first | rw [HP.out] | rw [HQ.out]))
                            go_region_with (go_at_call 57; refine (hexR_c _ _ (by omega) (by omega)).mono ?_; rintro _ _ ⟨rfl, rfl⟩; (first | rw [HP.out] | rw [HQ.out]))
                            all_goals go_wp2
                            all_goals go_roundw
                            all_goals first
                              | exact ⟨n + 4, O ++ strOfNums [(x : Int)], by omega, by omega, by go_num, rfl, by rw [HN.out, bytes_app, CB.out], (HB.out.alloc HB.out.size _).drew, by rw [ByteArray.size_append, CS.out]; omega⟩
                              | (simp [intOf]; omega)
                      · have HN := Lib.hid (show TT = none by rw [HD.out, tg_bad hn H34.out (by rw [HI.out, by_out (k := n + 3) (by omega), hexV_neg, if_neg (by omega)])])
                        go_wp2
                        go_ret2
                        rw [HN.out]
                        exact ⟨rfl, HB.out⟩
                    · have g4 : (((s[n + 1].toNat : Nat) : Int) == 120) = false := by simp; omega
                      have HN := Lib.hid (show TT = none by rw [HD.out, tg_bad hn hq34 (by rw [item_at, if_neg hpr, if_neg h92, hx1, if_neg (by omega), if_neg (by omega), if_neg (by omega)])])
                      clear hx hq34 hpr h92 hx1 c110 c34 c120
                      go_wp2
                      go_ret2
                      rw [HN.out]
                      exact ⟨rfl, HB.out⟩
              · have HN := Lib.hid (show TT = none by rw [HD.out, tg_bad hn hq34 (by rw [item_at, if_neg hpr, if_neg h92, by_out (k := n + 1) (by omega), if_neg (by omega), if_neg (by omega), if_neg (by omega)])])
                clear hx hq34 hpr h92
                go_wp2
                go_ret2
                rw [HN.out]
                exact ⟨rfl, HB.out⟩
    · have HN := Lib.hid (show TT = none by rw [HD.out]; exact tg_end hn)
      go_wp2
      go_ret2
      rw [HN.out]
      exact ⟨rfl, HB.out⟩
end Go.Proofs.YthhkpoobcnmdgaaDoor
